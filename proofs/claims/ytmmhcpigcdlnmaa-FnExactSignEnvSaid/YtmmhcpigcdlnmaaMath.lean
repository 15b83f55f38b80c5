/- Plain functions on levels as lists of pairs of numbers: validity by heights, evaluation on a stack (its top first), and how the two hang together. Nothing of the program is imported. -/
namespace Go.Proofs.Ytmmhcpigcdlnmaa.Lv

abbrev Tk := Int × Int

/-- one token alone is right -/
def tkOk (t : Tk) : Bool := decide (0 ≤ t.1) && decide (t.1 ≤ 4) && (decide (t.1 = 4) || decide (t.2 = 0)) && decide (0 ≤ t.2) && decide (t.2 < 5)

def takes (op : Int) : Int := if op = 1 then 1 else if op = 2 ∨ op = 3 then 2 else 0

theorem takes_bd (op : Int) : 0 ≤ takes op ∧ takes op ≤ 2 := by
  unfold takes; split <;> (try split) <;> omega

/-- the height behind the tokens, if none of them fails -/
def hts : List Tk → Int → Option Int
  | [], n => some n
  | t :: r, n => if tkOk t = true ∧ takes t.1 ≤ n then hts r (n - takes t.1 + 1) else none

theorem hts_append (a b : List Tk) (n : Int) : hts (a ++ b) n = (hts a n).bind (hts b) := by
  induction a generalizing n with
  | nil => rfl
  | cons t r ih => simp only [List.cons_append, hts]; split <;> simp [ih]

def levelOk (l : List Tk) : Bool := decide (1 ≤ l.length) && decide (l.length ≤ 24) && decide (hts l 0 = some 1)

/-- one token on a stack, its top first -/
def step (env : List Int) (t : Tk) (st : List Int) : Option (List Int) :=
  if tkOk t = true then
    if t.1 = 0 then some (0 :: st)
    else if t.1 = 4 then some (env.getD t.2.toNat 0 :: st)
    else if t.1 = 1 then
      match st with
      | a :: s => some ((a + 1) :: s)
      | [] => none
    else
      match st with
      | b :: a :: s => some ((if t.1 = 3 ∧ b = 0 then 0 else max a b) :: s)
      | _ => none
  else none

def run (env : List Int) : List Tk → List Int → Option (List Int)
  | [], st => some st
  | t :: r, st => (step env t st).bind (run env r)

theorem run_append (env : List Int) (a b : List Tk) (st : List Int) : run env (a ++ b) st = (run env a st).bind (run env b) := by
  induction a generalizing st with
  | nil => rfl
  | cons t r ih =>
    simp only [List.cons_append, run]
    cases step env t st with
    | none => rfl
    | some s => simp [ih]

theorem tk_cases {t : Tk} (h : tkOk t = true) : t.1 = 0 ∨ t.1 = 1 ∨ t.1 = 2 ∨ t.1 = 3 ∨ t.1 = 4 := by
  simp [tkOk] at h; omega

theorem step_height (env : List Int) (t : Tk) (st : List Int) :
    (step env t st).map (fun s => (s.length : Int)) = if tkOk t = true ∧ takes t.1 ≤ st.length then some ((st.length : Int) - takes t.1 + 1) else none := by
  unfold step
  by_cases h : tkOk t = true
  · simp only [h, if_true, true_and]
    rcases tk_cases h with e | e | e | e | e
    · simp [e, takes]
    · rcases st with _ | ⟨a, s⟩ <;> simp [e, takes]
      omega
    · rcases st with _ | ⟨b, _ | ⟨a, s⟩⟩ <;> simp [e, takes]
      omega
    · rcases st with _ | ⟨b, _ | ⟨a, s⟩⟩ <;> simp [e, takes]
      omega
    · simp [e, takes]
  · simp [h]

theorem run_height (env : List Int) (l : List Tk) (st : List Int) : (run env l st).map (fun s => (s.length : Int)) = hts l st.length := by
  induction l generalizing st with
  | nil => rfl
  | cons t r ih =>
    simp only [run, hts]
    have hs := step_height env t st
    cases hst : step env t st with
    | none =>
      rw [hst] at hs
      by_cases hc : tkOk t = true ∧ takes t.1 ≤ st.length
      · rw [if_pos hc] at hs; cases hs
      · rw [if_neg hc]; rfl
    | some s =>
      rw [hst] at hs
      by_cases hc : tkOk t = true ∧ takes t.1 ≤ st.length
      · rw [if_pos hc] at hs ⊢
        simp only [Option.map_some, Option.some.injEq] at hs
        simp only [Option.bind_some]
        rw [ih, hs]
      · rw [if_neg hc] at hs; cases hs

/-- what LevelEval answers -/
def eval (env : List Int) (l : List Tk) : Option Int :=
  if levelOk l = true then
    match run env l [] with
    | some [v] => some v
    | _ => none
  else none

theorem run_of_ok {env : List Int} {l : List Tk} (h : levelOk l = true) : ∃ v, run env l [] = some [v] := by
  simp only [levelOk, Bool.and_eq_true, decide_eq_true_eq] at h
  have hr := run_height env l []
  simp only [List.length_nil, Int.ofNat_zero] at hr
  rw [h.2] at hr
  cases hq : run env l [] with
  | none => rw [hq] at hr; cases hr
  | some s =>
    rw [hq] at hr
    simp only [Option.map_some, Option.some.injEq] at hr
    match s, hr with
    | [v], _ => exact ⟨v, rfl⟩

theorem ok_of_run {env : List Int} {l : List Tk} {v : Int} (h1 : 1 ≤ l.length) (h2 : l.length ≤ 24) (h : run env l [] = some [v]) : levelOk l = true := by
  have hr := run_height env l []
  rw [h] at hr
  simp at hr
  simp [levelOk, h1, h2, ← hr]

theorem eval_of_run {env : List Int} {l : List Tk} {v : Int} (h1 : 1 ≤ l.length) (h2 : l.length ≤ 24) (h : run env l [] = some [v]) : eval env l = some v := by
  simp [eval, ok_of_run h1 h2 h, h]

/-- the numbers on the stack stay small -/
theorem step_bd {env : List Int} {t : Tk} {st st' : List Int} {M : Int} (hM : 0 ≤ M) (he : ∀ x ∈ env, 0 ≤ x ∧ x ≤ M) (hs : ∀ x ∈ st, 0 ≤ x ∧ x ≤ M) (h : step env t st = some st') :
    ∀ x ∈ st', 0 ≤ x ∧ x ≤ M + 1 := by
  unfold step at h
  split at h
  · split at h
    · cases h; intro x hx; rcases List.mem_cons.1 hx with rfl | hx
      · omega
      · have := hs x hx; omega
    · split at h
      · cases h; intro x hx; rcases List.mem_cons.1 hx with rfl | hx
        · rw [List.getD_eq_getElem?_getD]
          cases hg : env[t.2.toNat]? with
          | none => simp; omega
          | some y => have := he y (List.mem_of_getElem? hg); simp; omega
        · have := hs x hx; omega
      · split at h
        · split at h
          · cases h; rename_i a s; intro x hx; rcases List.mem_cons.1 hx with rfl | hx
            · have := hs a (by simp); omega
            · have := hs x (by simp [hx]); omega
          · cases h
        · split at h
          · cases h; rename_i b a s; intro x hx; rcases List.mem_cons.1 hx with rfl | hx
            · have h1 := hs a (by simp)
              have h2 := hs b (by simp)
              split <;> omega
            · have := hs x (by simp [hx]); omega
          · cases h
  · cases h

theorem step_len {env : List Int} {t : Tk} {st st' : List Int} (h : step env t st = some st') : st'.length ≤ st.length + 1 := by
  have hs := step_height env t st
  rw [h] at hs
  have hb := takes_bd t.1
  split at hs
  · simp at hs; omega
  · cases hs

theorem run_len {env : List Int} {l : List Tk} {st : List Int} (h : run env l [] = some st) : st.length ≤ l.length := by
  have H : ∀ (l : List Tk) (s st : List Int), run env l s = some st → st.length ≤ s.length + l.length := by
    intro l
    induction l with
    | nil => intro s st h; cases h; simp
    | cons t r ih =>
      intro s st h
      simp only [run] at h
      cases hs : step env t s with
      | none => rw [hs] at h; cases h
      | some s' =>
        rw [hs] at h
        have h1 := ih s' st h
        have h2 := step_len hs
        simp
        omega
  simpa using H l [] st h

theorem run_take_succ (env : List Int) (l : List Tk) (k : Nat) (hk : k < l.length) (st : List Int) :
    run env (l.take (k + 1)) st = (run env (l.take k) st).bind (step env (l.getD k (0, 0))) := by
  rw [List.take_succ_eq_append_getElem hk, run_append]
  congr 1
  funext s
  simp only [run, List.getD_eq_getElem?_getD, List.getElem?_eq_getElem hk, Option.getD_some]
  cases step env l[k] s <;> rfl

theorem hts_take_succ (l : List Tk) (k : Nat) (hk : k < l.length) (n : Int) :
    hts (l.take (k + 1)) n = (hts (l.take k) n).bind (hts [l.getD k (0, 0)]) := by
  rw [List.take_succ_eq_append_getElem hk, hts_append]
  simp [List.getD_eq_getElem?_getD, List.getElem?_eq_getElem hk]

theorem run_none_of_take {env : List Int} {l : List Tk} {k : Nat} {st : List Int} (h : run env (l.take k) st = none) : run env l st = none := by
  have := run_append env (l.take k) (l.drop k) st
  rw [List.take_append_drop] at this
  rw [this, h]; rfl

theorem hts_none_of_take {l : List Tk} {k : Nat} {n : Int} (h : hts (l.take k) n = none) : hts l n = none := by
  have := hts_append (l.take k) (l.drop k) n
  rw [List.take_append_drop] at this
  rw [this, h]; rfl
end Go.Proofs.Ytmmhcpigcdlnmaa.Lv
