/- Plain facts on levels without imax as piles of lists of atoms, and on the level of a norm. -/
import Derived.Test.YtgebjnoicgmdoaaGreatDoorMarks
import Derived.Test.YtgebjnoicgmdoaaGreatDoorCls

namespace Go.Proofs.YtgebjnoicgmdoaaGreatDoor.Nm
open Go.Proofs.YtgebjnoicgmdoaaGreatDoor.Lv

/-- one token on a pile of lists of atoms, its top first -/
def pstep (t : Tk) (st : List (List At)) : Option (List (List At)) :=
  if tkOk t = true then
    if t.1 = 0 then some ([(-1, 0)] :: st)
    else if t.1 = 4 then some ([(t.2, 0)] :: st)
    else if t.1 = 1 then
      match st with
      | a :: s => some (up 1 a :: s)
      | [] => none
    else if t.1 = 2 then
      match st with
      | b :: a :: s => some ((a ++ b) :: s)
      | _ => none
    else none
  else none
def prun : List Tk → List (List At) → Option (List (List At))
  | [], st => some st
  | t :: r, st => (pstep t st).bind (prun r)
theorem prun_append (a b : List Tk) (st : List (List At)) : prun (a ++ b) st = (prun a st).bind (prun b) := by
  induction a generalizing st with
  | nil => rfl
  | cons t r ih =>
    simp only [List.cons_append, prun]
    cases pstep t st with
    | none => rfl
    | some s => simp [ih]
theorem prun_take_succ (l : List Tk) (k : Nat) (hk : k < l.length) (st : List (List At)) :
    prun (l.take (k + 1)) st = (prun (l.take k) st).bind (pstep (l.getD k (0, 0))) := by
  rw [List.take_succ_eq_append_getElem hk, prun_append]
  congr 1
  funext s
  simp only [prun, List.getD_eq_getElem?_getD, List.getElem?_eq_getElem hk, Option.getD_some]
  cases pstep l[k] s <;> rfl
theorem pstep_height {t : Tk} {st : List (List At)} (h3 : t.1 ≠ 3) :
    (pstep t st).map (fun s => (s.length : Int)) = if tkOk t = true ∧ takes t.1 ≤ st.length then some ((st.length : Int) - takes t.1 + 1) else none := by
  unfold pstep
  by_cases h : tkOk t = true
  · simp only [h, if_true, true_and]
    rcases tk_cases h with e | e | e | e | e
    · simp [e, takes]
    · rcases st with _ | ⟨a, s⟩ <;> simp [e, takes]
      omega
    · rcases st with _ | ⟨b, _ | ⟨a, s⟩⟩ <;> simp [e, takes]
      omega
    · exact absurd e h3
    · simp [e, takes]
  · simp [h]
theorem prun_height {l : List Tk} (h3 : ∀ t ∈ l, t.1 ≠ 3) (st : List (List At)) : (prun l st).map (fun s => (s.length : Int)) = hts l st.length := by
  induction l generalizing st with
  | nil => rfl
  | cons t r ih =>
    simp only [prun, hts]
    have hs := pstep_height (t := t) (st := st) (h3 t (by simp))
    cases hst : pstep t st with
    | none =>
      rw [hst] at hs
      by_cases hc : tkOk t = true ∧ takes t.1 ≤ st.length
      · rw [if_pos hc] at hs; cases hs
      · rw [if_neg hc]; rfl
    | some s =>
      rw [hst] at hs
      by_cases hc : tkOk t = true ∧ takes t.1 ≤ st.length
      · rw [if_pos hc] at hs ⊢
        simp only [Option.map_some, Option.some.injEq] at hs
        simp only [Option.bind_some]
        rw [ih (fun u hu => h3 u (List.mem_cons_of_mem _ hu)), hs]
      · rw [if_neg hc] at hs; cases hs
/-- the pile behind the first k tokens of a right level without imax -/
theorem prun_some {l : List Tk} (h : levelOk l = true) (h3 : ∀ t ∈ l, t.1 ≠ 3) (k : Nat) : ∃ st, prun (l.take k) [] = some st := by
  simp only [levelOk, Bool.and_eq_true, decide_eq_true_eq] at h
  have e := prun_height h3 []
  simp only [List.length_nil, Int.ofNat_zero] at e
  rw [h.2] at e
  have e2 := prun_append (l.take k) (l.drop k) []
  rw [List.take_append_drop] at e2
  cases hq : prun (l.take k) [] with
  | none => rw [hq] at e2; rw [e2] at e; cases e
  | some s => exact ⟨s, rfl⟩
/-- the atoms of a right level without imax -/
theorem prun_one {l : List Tk} (h : levelOk l = true) (h3 : ∀ t ∈ l, t.1 ≠ 3) : ∃ a, prun l [] = some [a] := by
  have h' := h
  simp only [levelOk, Bool.and_eq_true, decide_eq_true_eq] at h'
  have e := prun_height h3 []
  simp only [List.length_nil, Int.ofNat_zero] at e
  rw [h'.2] at e
  cases hq : prun l [] with
  | none => rw [hq] at e; cases e
  | some s =>
    rw [hq] at e
    simp only [Option.map_some, Option.some.injEq] at e
    match s, e with
    | [v], _ => exact ⟨v, rfl⟩

/-- what holds of a pile behind k tokens -/
def Fine (k : Nat) (st : List (List At)) : Prop := ∀ a ∈ st, a ≠ [] ∧ ∀ x ∈ a, -1 ≤ x.1 ∧ x.1 < 5 ∧ 0 ≤ x.2 ∧ x.2 ≤ k
theorem Fine.allOk {k : Nat} {st : List (List At)} (h : Fine k st) (hk : k ≤ 1000) {a : List At} (ha : a ∈ st) : AllOk a :=
  allOk_of_mem fun x hx => (atOk_iff x).2 (by have := (h a ha).2 x hx; omega)
theorem fine_step {k : Nat} {t : Tk} {st st' : List (List At)} (h : Fine k st) (hs : pstep t st = some st') : Fine (k + 1) st' := by
  have hmono : ∀ a ∈ st, a ≠ [] ∧ ∀ x ∈ a, -1 ≤ x.1 ∧ x.1 < 5 ∧ 0 ≤ x.2 ∧ x.2 ≤ ((k + 1 : Nat) : Int) := fun a ha => ⟨(h a ha).1, fun x hx => by have := (h a ha).2 x hx; omega⟩
  unfold pstep at hs
  split at hs
  · rename_i hok
    simp [tkOk] at hok
    split at hs
    · cases hs
      intro a ha
      rcases List.mem_cons.1 ha with rfl | ha
      · exact ⟨by simp, fun x hx => by simp at hx; subst hx; simp; omega⟩
      · exact hmono a ha
    · split at hs
      · cases hs
        intro a ha
        rcases List.mem_cons.1 ha with rfl | ha
        · exact ⟨by simp, fun x hx => by simp at hx; subst hx; simp; omega⟩
        · exact hmono a ha
      · split at hs
        · split at hs
          · cases hs
            rename_i a s
            intro c hc
            rcases List.mem_cons.1 hc with rfl | hc
            · have h1 := h a (by simp)
              refine ⟨by simp [up, h1.1], fun x hx => ?_⟩
              obtain ⟨y, hy, rfl⟩ := List.mem_map.1 hx
              have := h1.2 y hy
              simp only
              omega
            · exact hmono c (by simp [hc])
          · cases hs
        · split at hs
          · split at hs
            · cases hs
              rename_i b a s
              intro c hc
              rcases List.mem_cons.1 hc with rfl | hc
              · have h1 := hmono a (by simp)
                have h2 := hmono b (by simp)
                refine ⟨by simp [h1.1], fun x hx => ?_⟩
                rcases List.mem_append.1 hx with hx | hx
                · exact h1.2 x hx
                · exact h2.2 x hx
              · exact hmono c (by simp [hc])
            · cases hs
          · cases hs
  · cases hs
theorem fine_run {l : List Tk} {st : List (List At)} (h : prun l [] = some st) : Fine l.length st := by
  have H : ∀ (l : List Tk) (k : Nat) (s st : List (List At)), Fine k s → prun l s = some st → Fine (k + l.length) st := by
    intro l
    induction l with
    | nil => intro k s st hf h; cases h; exact hf
    | cons t r ih =>
      intro k s st hf h
      simp only [prun] at h
      cases hs : pstep t s with
      | none => rw [hs] at h; cases h
      | some s' =>
        rw [hs] at h
        have := ih (k + 1) s' st (fine_step hf hs) h
        simpa [Nat.add_comm, Nat.add_left_comm, Nat.add_assoc] using this
  have := H l 0 [] st (by intro a ha; simp at ha) h
  simpa using this
/-- the number of atoms on a pile -/
theorem flat_step {t : Tk} {st st' : List (List At)} (hs : pstep t st = some st') : st'.flatten.length ≤ st.flatten.length + 1 := by
  unfold pstep at hs
  split at hs
  · split at hs
    · cases hs; simp
    · split at hs
      · cases hs; simp
      · split at hs
        · split at hs
          · cases hs; simp [up]
          · cases hs
        · split at hs
          · split at hs
            · cases hs; simp; omega
            · cases hs
          · cases hs
  · cases hs
theorem flat_run {l : List Tk} {st : List (List At)} (h : prun l [] = some st) : st.flatten.length ≤ l.length := by
  have H : ∀ (l : List Tk) (s st : List (List At)), prun l s = some st → st.flatten.length ≤ s.flatten.length + l.length := by
    intro l
    induction l with
    | nil => intro s st h; cases h; simp
    | cons t r ih =>
      intro s st h
      simp only [prun] at h
      cases hs : pstep t s with
      | none => rw [hs] at h; cases h
      | some s' =>
        rw [hs] at h
        have h1 := ih s' st h
        have h2 := flat_step hs
        simp only [List.length_cons]
        omega
  simpa using H l [] st h
theorem len_run {l : List Tk} {st : List (List At)} (h : prun l [] = some st) : st.length ≤ l.length := by
  have h1 := fine_run h
  have h2 := flat_run h
  have : ∀ s : List (List At), (∀ a ∈ s, a ≠ []) → s.length ≤ s.flatten.length := by
    intro s
    induction s with
    | nil => intro _; simp
    | cons a r ih =>
      intro hs
      have := ih (fun b hb => hs b (List.mem_cons_of_mem _ hb))
      have ha := hs a (by simp)
      have : 0 < a.length := List.length_pos_iff.2 ha
      simp only [List.length_cons, List.flatten_cons, List.length_append]
      omega
  have := this st (fun a ha => (h1 a ha).1)
  omega

/-- what NormFree answers -/
def leafs (l : List Tk) : List At := ((prun l []).getD []).headD []
open Classical in
noncomputable def freeR (l : List Tk) : Option (List At) := if levelOk l = true ∧ ∀ t ∈ l, t.1 ≠ 3 then some (norm (leafs l)) else none
/-- values: a pile of atoms against the stack of the level's run -/
theorem pstep_val {env : List Int} (hp : Pos env) {t : Tk} {k : Nat} {st st' : List (List At)} (hk : k ≤ 999) (hf : Fine k st) (h : pstep t st = some st') : Lv.step env t (st.map (value env)) = some (st'.map (value env)) := by
  have hok : tkOk t = true := by
    unfold pstep at h
    split at h
    · assumption
    · cases h
  unfold pstep at h
  unfold Lv.step
  rw [if_pos hok] at h ⊢
  split at h
  · rename_i e
    cases h
    rw [if_pos e]
    simp [value, val]
  · rename_i e
    rw [if_neg e]
    split at h
    · rename_i e4
      cases h
      rw [if_pos e4]
      have h2 : 0 ≤ t.2 := by simp [tkOk] at hok; omega
      have := hp.get t.2.toNat
      simp only [List.map_cons, value, val, show ¬ t.2 = -1 by omega, if_false, Option.some.injEq, List.cons.injEq, and_true]
      omega
    · rename_i e4
      rw [if_neg e4]
      split at h
      · rename_i e1
        rw [if_pos e1]
        split at h
        · cases h
          rename_i a s
          have ha := hf a (by simp)
          simp only [List.map_cons]
          rw [value_up hp ha.1 (hf.allOk (by omega) (by simp)) (by omega)]
        · cases h
      · rename_i e1
        rw [if_neg e1]
        split at h
        · rename_i e2
          split at h
          · cases h
            rename_i b a s
            simp only [List.map_cons]
            rw [value_append, if_neg (by omega)]
          · cases h
        · cases h
theorem prun_val {env : List Int} (hp : Pos env) {l : List Tk} {st : List (List At)} (hl : l.length ≤ 24) (h : prun l [] = some st) : Lv.run env l [] = some (st.map (value env)) := by
  have H : ∀ (l : List Tk) (k : Nat) (s st : List (List At)), k + l.length ≤ 999 → Fine k s → prun l s = some st → Lv.run env l (s.map (value env)) = some (st.map (value env)) := by
    intro l
    induction l with
    | nil => intro k s st _ _ h; cases h; rfl
    | cons t r ih =>
      intro k s st hk hf h
      simp only [prun] at h
      simp only [List.length_cons] at hk
      cases hs : pstep t s with
      | none => rw [hs] at h; cases h
      | some s' =>
        rw [hs] at h
        simp only [Lv.run]
        rw [pstep_val hp (k := k) (by omega) hf hs, Option.bind_some]
        exact ih (k + 1) s' st (by omega) (fine_step hf hs) h
  exact H l 0 [] st (by omega) (by intro a ha; simp at ha) h
theorem eval_leafs {env : List Int} (hp : Pos env) {l : List Tk} (h : levelOk l = true) (h3 : ∀ t ∈ l, t.1 ≠ 3) : Lv.eval env l = some (value env (norm (leafs l))) := by
  obtain ⟨a, ha⟩ := prun_one h h3
  have h' := h
  simp only [levelOk, Bool.and_eq_true, decide_eq_true_eq] at h'
  have hr := prun_val hp (by omega) ha
  have hf := fine_run ha
  have e := Lv.eval_of_run (env := env) (l := l) (v := value env a) (by omega) (by omega) (by simpa using hr)
  rw [e, leafs, ha]
  simp only [Option.getD_some, List.headD_cons, Option.some.injEq]
  exact (value_norm hp (hf.allOk (by omega) (by simp))).symm
end Go.Proofs.YtgebjnoicgmdoaaGreatDoor.Nm
