/- Plain facts on residuals: what is left of a norm where positive parameters are at least 1, how joins and successors go, and levels with imax as piles of lists of atoms. -/
/- The laws' own helpers on slices of atoms: sizes, copies, comparison, marks (the tokens' texts at the atoms' type). -/
/- The program's looks at atoms: valid ones, increasing Params, a number that exceeds. -/
import Derived.Test.YtgebjnoicgmdoaaGreatDoorNMath4
import Derived.Test.YtgebjnoicgmdoaaGreatDoorSlc
import Derived.Test.YtgebjnoicgmdoaaGreatDoorSgMath
import Derived.Deep.RegionHeld3

namespace Go.Proofs.YtgebjnoicgmdoaaGreatDoor.Nm
open Go.Proofs.YtgebjnoicgmdoaaGreatDoor.Lv

/-- what a number must exceed -/
def mo (l : List At) : Int := if most l 5 = -1 then -1 else most l 5 + 1
/-- the residual of atoms whose params are all positive -/
def rnorm (l : List At) : List At := (if mo l < best (-1) l then [((-1 : Int), best (-1) l)] else []) ++ pars l 5
theorem mo_ge (l : List At) : -1 ≤ mo l ∧ most l 5 ≤ mo l := by have := most_ge l 5; unfold mo; split <;> omega
theorem rnorm_len (l : List At) : (rnorm l).length ≤ 6 := by
  have := pars_len l 5
  unfold rnorm
  rw [List.length_append]
  split <;> simp <;> omega
def keepR (l : List At) (p : Int) : Bool := if p = -1 then decide (mo l < best (-1) l) else decide (0 ≤ best p l)
theorem readOut_rnorm (l : List At) : readOut (keepR l) (fun p => best p l) 6 = rnorm l := by
  simp [readOut, keepR, rnorm, pars, List.append_assoc]
theorem mem_rnorm {l : List At} {a : At} : a ∈ rnorm l ↔ -1 ≤ a.1 ∧ a.1 < 5 ∧ keepR l a.1 = true ∧ a.2 = best a.1 l := by
  rw [← readOut_rnorm, mem_readOut]
  constructor
  · rintro ⟨h1, h2, h3⟩; exact ⟨h1, by simp at h2; omega, h3⟩
  · rintro ⟨h1, h2, h3⟩; exact ⟨h1, by simp; omega, h3⟩
theorem rnorm_sorted (l : List At) : (rnorm l).Pairwise (fun a b => a.1 < b.1) := by rw [← readOut_rnorm]; exact readOut_sorted _ _ _
theorem keepR_cases {l : List At} {p : Int} (h : keepR l p = true) : best p l ≠ -1 := by
  unfold keepR at h
  split at h
  · rename_i e; subst e; simp at h; have := mo_ge l; omega
  · simp at h; omega
theorem rnorm_sub {l : List At} {a : At} (h : a ∈ rnorm l) : a ∈ l := by
  obtain ⟨_, _, h3, h4⟩ := mem_rnorm.1 h
  obtain ⟨p, x⟩ := a
  simp only at h3 h4
  rw [h4]
  exact best_at (keepR_cases h3)
theorem rnorm_ne {l : List At} (h0 : l ≠ []) (h : AllOk l) : rnorm l ≠ [] := by
  obtain ⟨a, ha⟩ := List.exists_mem_of_ne_nil l h0
  have hb := h.mem ha
  obtain ⟨p, x⟩ := a
  have hbm := best_mem ha
  simp only at hb
  intro e
  by_cases ep : p = -1
  · subst ep
    by_cases hm : mo l < best (-1) l
    · have : ((-1 : Int), best (-1) l) ∈ rnorm l := mem_rnorm.2 ⟨by simp, by simp, by simp [keepR, hm], rfl⟩
      rw [e] at this; simp at this
    · by_cases em : most l 5 = -1
      · unfold mo at hm; rw [if_pos em] at hm; omega
      · obtain ⟨q, q1, q2, q3⟩ := most_at l 5 em
        have g := most_ge l 5
        have : (q, best q l) ∈ rnorm l := mem_rnorm.2 ⟨by simp; omega, by simp; omega, by simp [keepR, show q ≠ -1 by omega]; omega, rfl⟩
        rw [e] at this; simp at this
  · have : (p, best p l) ∈ rnorm l := mem_rnorm.2 ⟨by simp; omega, by simp; omega, by simp [keepR, ep]; omega, rfl⟩
    rw [e] at this; simp at this
theorem rnorm_allOk {l : List At} (h : AllOk l) : AllOk (rnorm l) := allOk_of_mem fun a ha => (atOk_iff a).2 (h.mem (rnorm_sub ha))
theorem rnorm_congr {a b : List At} (h1 : ∀ p : Int, 0 ≤ p → p < 5 → best p a = best p b) (h2 : (mo a < best (-1) a ↔ mo b < best (-1) b) ∧ (mo a < best (-1) a → best (-1) a = best (-1) b)) : rnorm a = rnorm b := by
  rw [← readOut_rnorm, ← readOut_rnorm]
  refine readOut_congr 6 fun p hp1 hp2 => ?_
  by_cases e : p = -1
  · subst e
    simp only [keepR, if_true]
    refine ⟨by simp [h2.1], fun h => h2.2 (by simpa using h)⟩
  · simp only [keepR, e, if_false]
    rw [h1 p (by omega) (by simp at hp2; omega)]
    exact ⟨rfl, fun _ => rfl⟩
theorem best_rnorm {l : List At} {p : Int} (h0 : -1 ≤ p) (h5 : p < 5) : best p (rnorm l) = if keepR l p = true then best p l else -1 := by
  by_cases hk : keepR l p = true
  · rw [if_pos hk]
    have hm : (p, best p l) ∈ rnorm l := mem_rnorm.2 ⟨h0, h5, hk, rfl⟩
    exact best_of_sorted (rnorm_sorted l) hm (best_ge p l)
  · rw [if_neg hk]
    by_cases e : best p (rnorm l) = -1
    · exact e
    · have := (mem_rnorm.1 (best_at e)).2.2.1
      exact absurd this hk
theorem best_rnorm_par {l : List At} (h : AllOk l) {p : Int} (h0 : 0 ≤ p) (h5 : p < 5) : best p (rnorm l) = best p l := by
  rw [best_rnorm (by omega) h5]
  split
  · rfl
  · rename_i hk
    simp [keepR, show p ≠ -1 by omega] at hk
    by_cases e : best p l = -1
    · omega
    · have := best_nonneg h e; omega
theorem mo_congr {a b : List At} (h : most a 5 = most b 5) : mo a = mo b := by unfold mo; rw [h]
theorem mo_append (a b : List At) : mo (a ++ b) = max (mo a) (mo b) := by
  have h := most_append a b 5
  have h1 := most_ge a 5
  have h2 := most_ge b 5
  unfold mo
  rw [h]
  split <;> split <;> split <;> omega
theorem mo_up {l : List At} (h : AllOk l) : mo (up 1 l) = if mo l = -1 then -1 else mo l + 1 := by
  have h1 := most_up 1 (by omega) h 5
  unfold mo
  rw [h1]
theorem rnorm_join {a b : List At} (ha : AllOk a) (hb : AllOk b) : rnorm (rnorm a ++ rnorm b) = rnorm (a ++ b) := by
  have hp : ∀ p : Int, 0 ≤ p → p < 5 → best p (rnorm a ++ rnorm b) = best p (a ++ b) := by
    intro p h0 h5
    rw [best_append, best_append, best_rnorm_par ha h0 h5, best_rnorm_par hb h0 h5]
  have hm := mo_congr (most_congr 5 (by omega) hp)
  have hma := mo_append a b
  have e1 := best_rnorm (l := a) (p := -1) (by omega) (by omega)
  have e2 := best_rnorm (l := b) (p := -1) (by omega) (by omega)
  have e3 := best_append (-1) (rnorm a) (rnorm b)
  have e4 := best_append (-1) a b
  have g1 := mo_ge a
  have g2 := mo_ge b
  have g3 := best_ge (-1) a
  have g4 := best_ge (-1) b
  simp only [keepR, if_true, decide_eq_true_eq] at e1 e2
  refine rnorm_congr hp ⟨?_, ?_⟩
  · rw [hm, e3, e4, hma, e1, e2]; split <;> split <;> omega
  · rw [hm, e3, e4, hma, e1, e2]; split <;> split <;> omega
theorem rnorm_up {a : List At} (ha : AllOk a) (hu : AllOk (rnorm a)) : rnorm (up 1 (rnorm a)) = rnorm (up 1 a) := by
  have hp0 : ∀ p : Int, 0 ≤ p → p < 5 → best p (rnorm a) = best p a := fun p h0 h5 => best_rnorm_par ha h0 h5
  have hp : ∀ p : Int, 0 ≤ p → p < 5 → best p (up 1 (rnorm a)) = best p (up 1 a) := by
    intro p h0 h5
    rw [best_up 1 (by omega) hu, best_up 1 (by omega) ha, hp0 p h0 h5]
  have hm := mo_congr (most_congr 5 (by omega) hp)
  have hm1 := mo_up ha
  have e0 := best_rnorm (l := a) (p := -1) (by omega) (by omega)
  have e1 := best_up 1 (by omega) hu (-1)
  have e2 := best_up 1 (by omega) ha (-1)
  have g1 := mo_ge a
  have g3 := best_ge (-1) a
  simp only [keepR, if_true, decide_eq_true_eq] at e0
  refine rnorm_congr hp ⟨?_, ?_⟩
  · rw [hm, e1, e2, hm1, e0]; split <;> split <;> split <;> (try split) <;> omega
  · rw [hm, e1, e2, hm1, e0]; split <;> split <;> split <;> (try split) <;> omega

/-- what is 0 for the sign is a number -/
def pl (s : Int) (a : At) : At := if 0 ≤ a.1 ∧ Sg.has s a.1 = false then (-1, a.2) else a
/-- all params are positive for the sign -/
def Pst (s : Int) (l : List At) : Prop := ∀ a ∈ l, a.1 = -1 ∨ Sg.has s a.1 = true
theorem pl_self {s : Int} {l : List At} (h : Pst s l) : l.map (pl s) = l := by
  induction l with
  | nil => rfl
  | cons a r ih =>
    rw [List.map_cons, ih (fun x hx => h x (List.mem_cons_of_mem _ hx))]
    congr 1
    unfold pl
    rw [if_neg]
    rintro ⟨h1, h2⟩
    rcases h a (by simp) with e | e
    · omega
    · rw [e] at h2; cases h2
theorem pl_pst (s : Int) {a : At} (h : -1 ≤ a.1) : (pl s a).1 = -1 ∨ Sg.has s (pl s a).1 = true := by
  unfold pl
  split
  · exact .inl rfl
  · rename_i hh
    by_cases e : a.1 = -1
    · exact .inl e
    · right
      cases hb : Sg.has s a.1 with
      | true => rfl
      | false => exact absurd ⟨by omega, hb⟩ hh
theorem pl_snd (s : Int) (a : At) : (pl s a).2 = a.2 := by unfold pl; split <;> rfl
theorem pl_atOk {s : Int} {a : At} (h : atOk a = true) : atOk (pl s a) = true := by
  have h1 := (atOk_iff a).1 h
  refine (atOk_iff _).2 ?_
  rw [pl_snd]
  unfold pl
  split
  · simp; omega
  · exact h1
theorem AllOk.pl {s : Int} {l : List At} (h : AllOk l) : AllOk (l.map (pl s)) := allOk_of_mem fun a ha => by
  obtain ⟨b, hb, rfl⟩ := List.mem_map.1 ha
  exact pl_atOk ((atOk_iff _).2 (h.mem hb))
theorem Pst.sub {s : Int} {a b : List At} (h : Pst s a) (hs : ∀ x ∈ b, x ∈ a) : Pst s b := fun x hx => h x (hs x hx)
theorem Pst.rnorm {s : Int} {a : List At} (h : Pst s a) : Pst s (Nm.rnorm a) := h.sub fun _ hx => rnorm_sub hx
theorem Pst.up {s : Int} {a : List At} (h : Pst s a) (k : Int) : Pst s (Nm.up k a) := fun x hx => by
  obtain ⟨y, hy, rfl⟩ := List.mem_map.1 hx
  exact h y hy
theorem Pst.append {s : Int} {a b : List At} (h : Pst s a) (h2 : Pst s b) : Pst s (a ++ b) := fun x hx => by
  rcases List.mem_append.1 hx with hx | hx
  · exact h x hx
  · exact h2 x hx
/-- the residual of right atoms -/
def resid (s : Int) (l : List At) : List At := rnorm (l.map (pl s))

/-- nothing but the number 0 -/
def zeroL (l : List At) : Bool := l.all fun a => a == (-1, 0)
theorem zeroL_iff (l : List At) : zeroL l = true ↔ ∀ a ∈ l, a = (-1, 0) := by simp [zeroL]
theorem rnorm_zero {l : List At} (h0 : l ≠ []) (h : AllOk l) : rnorm l = [(-1, 0)] ↔ zeroL l = true := by
  rw [zeroL_iff]
  constructor
  · intro e a ha
    obtain ⟨p, x⟩ := a
    have hb := h.mem ha
    have hx := best_mem ha
    simp only at hb
    have e1 : p = -1 := by
      by_cases ep : p = -1
      · exact ep
      · have : (p, best p l) ∈ rnorm l := mem_rnorm.2 ⟨by simp; omega, by simp; omega, by simp [keepR, ep]; omega, rfl⟩
        rw [e] at this
        simp at this
        omega
    subst e1
    have hm : ((-1 : Int), (0 : Int)) ∈ rnorm l := by rw [e]; simp
    have := (mem_rnorm.1 hm).2.2.2
    simp only at this
    have : x = 0 := by omega
    rw [this]
  · intro hz
    have hb0 : ∀ p : Int, 0 ≤ p → best p l = -1 := by
      intro p hp
      by_cases e : best p l = -1
      · exact e
      · have := hz _ (best_at e)
        simp at this
        omega
    have hm : ∀ n, most l n = -1 := by
      intro n
      by_cases e : most l n = -1
      · exact e
      · obtain ⟨q, q1, q2, q3⟩ := most_at l n e
        rw [hb0 q q1] at q3
        omega
    obtain ⟨a, ha⟩ := List.exists_mem_of_ne_nil l h0
    have ha' := hz a ha
    subst ha'
    have hx := best_mem ha
    have hb1 : best (-1) l = 0 := by
      have := hz _ (best_at (p := -1) (l := l) (by omega))
      simpa using this
    have hp5 : pars l 5 = [] := by
      have : ∀ n : Nat, pars l n = [] := by
        intro n
        induction n with
        | zero => rfl
        | succ n ih => rw [pars_succ, ih, hb0 n (by omega)]; rfl
      exact this 5
    unfold rnorm mo
    rw [hm 5, hb1, hp5]
    rfl

/-- the number of a norm is redundant or not: what the two sides ask -/
theorem pars_mem {l : List At} {a : At} {n : Nat} : a ∈ pars l n ↔ 0 ≤ a.1 ∧ a.1 < n ∧ 0 ≤ best a.1 l ∧ a.2 = best a.1 l := by
  induction n with
  | zero => simp [pars]; omega
  | succ n ih =>
    rw [pars_succ, List.mem_append, ih]
    obtain ⟨p, x⟩ := a
    constructor
    · rintro (h | h)
      · exact ⟨h.1, by have := h.2.1; simp at this ⊢; omega, h.2.2⟩
      · split at h
        · rename_i hu
          simp only [List.mem_singleton, Prod.mk.injEq] at h
          obtain ⟨rfl, rfl⟩ := h
          exact ⟨by simp, by simp; omega, hu, rfl⟩
        · simp at h
    · rintro ⟨h1, h2, h3, h4⟩
      simp only at h1 h2 h3 h4
      by_cases e : p = (n : Int)
      · subst e; subst h4
        right; rw [if_pos h3]; simp
      · left; exact ⟨h1, by simp only; omega, h3, h4⟩
theorem pars_max {l : List At} (y : Int) : (∀ a ∈ pars l 5, a.2 < y) ↔ (most l 5 = -1 ∨ most l 5 < y) := by
  have g := most_ge l 5
  constructor
  · intro h
    by_cases e : most l 5 = -1
    · exact .inl e
    · obtain ⟨q, q1, q2, q3⟩ := most_at l 5 e
      have := h (q, best q l) (pars_mem.2 ⟨q1, by simpa using q2, by simp only; omega, rfl⟩)
      simp only at this
      omega
  · intro h a ha
    obtain ⟨h1, h2, h3, h4⟩ := pars_mem.1 ha
    have := most_le l 5 a.1 h1 (by simpa using h2)
    omega
theorem exceeds_mem {y : Int} {l : List At} : Exceeds y l ↔ ∀ a ∈ l, a.2 < y := by
  constructor
  · intro h a ha
    obtain ⟨k, hk, rfl⟩ := getD_of_mem ha
    exact h k hk
  · intro h k hk
    exact h _ (mem_getD hk)
/-- the norm, and what is left of it -/
theorem norm_parts (l : List At) : (most l 5 < best (-1) l ∧ norm l = (-1, best (-1) l) :: pars l 5) ∨ (best (-1) l ≤ most l 5 ∧ norm l = pars l 5 ∧ rnorm l = pars l 5) := by
  by_cases h : most l 5 < best (-1) l
  · left; exact ⟨h, by unfold norm; rw [if_pos h]; rfl⟩
  · right
    have := mo_ge l
    exact ⟨by omega, by unfold norm; rw [if_neg h]; rfl, by unfold rnorm; rw [if_neg (by omega)]; rfl⟩
theorem rnorm_of_norm {l : List At} (h : most l 5 < best (-1) l) : rnorm l = if exceeds (best (-1) l - 1) (pars l 5) = true then norm l else pars l 5 := by
  have g := most_ge l 5
  have hn : norm l = (-1, best (-1) l) :: pars l 5 := by unfold norm; rw [if_pos h]; rfl
  have he : exceeds (best (-1) l - 1) (pars l 5) = true ↔ mo l < best (-1) l := by
    rw [exceeds_iff, exceeds_mem, pars_max]
    unfold mo
    split <;> omega
  by_cases hx : mo l < best (-1) l
  · rw [if_pos (he.2 hx), hn]; unfold rnorm; rw [if_pos hx]; rfl
  · rw [if_neg (fun hh => hx (he.1 hh))]; unfold rnorm; rw [if_neg hx]; rfl

/-- one token on a pile of lists of atoms for a sign, its top first -/
def wstep (s : Int) (t : Tk) (st : List (List At)) : Option (List (List At)) :=
  if tkOk t = true then
    if t.1 = 0 then some ([(-1, 0)] :: st)
    else if t.1 = 4 then some ([pl s (t.2, 0)] :: st)
    else if t.1 = 1 then
      match st with
      | a :: r => some (up 1 a :: r)
      | [] => none
    else
      match st with
      | b :: a :: r => some ((if t.1 = 3 ∧ zeroL b = true then [(-1, 0)] else a ++ b) :: r)
      | _ => none
  else none
def wrun (s : Int) : List Tk → List (List At) → Option (List (List At))
  | [], st => some st
  | t :: r, st => (wstep s t st).bind (wrun s r)
theorem wrun_append (s : Int) (a b : List Tk) (st : List (List At)) : wrun s (a ++ b) st = (wrun s a st).bind (wrun s b) := by
  induction a generalizing st with
  | nil => rfl
  | cons t r ih =>
    simp only [List.cons_append, wrun]
    cases wstep s t st with
    | none => rfl
    | some s => simp [ih]
theorem wrun_take_succ (s : Int) (l : List Tk) (k : Nat) (hk : k < l.length) (st : List (List At)) :
    wrun s (l.take (k + 1)) st = (wrun s (l.take k) st).bind (wstep s (l.getD k (0, 0))) := by
  rw [List.take_succ_eq_append_getElem hk, wrun_append]
  congr 1
  funext u
  simp only [wrun, List.getD_eq_getElem?_getD, List.getElem?_eq_getElem hk, Option.getD_some]
  cases wstep s l[k] u <;> rfl
theorem wstep_height {s : Int} {t : Tk} {st : List (List At)} :
    (wstep s t st).map (fun s => (s.length : Int)) = if tkOk t = true ∧ takes t.1 ≤ st.length then some ((st.length : Int) - takes t.1 + 1) else none := by
  unfold wstep
  by_cases h : tkOk t = true
  · simp only [h, if_true, true_and]
    rcases tk_cases h with e | e | e | e | e
    · simp [e, takes]
    · rcases st with _ | ⟨a, s⟩ <;> simp [e, takes]
      omega
    · rcases st with _ | ⟨b, _ | ⟨a, s⟩⟩ <;> simp [e, takes]
      omega
    · rcases st with _ | ⟨b, _ | ⟨a, s⟩⟩ <;> simp [e, takes]
      omega
    · simp [e, takes]
  · simp [h]
theorem wrun_height {s : Int} {l : List Tk} (st : List (List At)) : (wrun s l st).map (fun s => (s.length : Int)) = hts l st.length := by
  induction l generalizing st with
  | nil => rfl
  | cons t r ih =>
    simp only [wrun, hts]
    have hs := wstep_height (s := s) (t := t) (st := st)
    cases hst : wstep s t st with
    | none =>
      rw [hst] at hs
      by_cases hc : tkOk t = true ∧ takes t.1 ≤ st.length
      · rw [if_pos hc] at hs; cases hs
      · rw [if_neg hc]; rfl
    | some u =>
      rw [hst] at hs
      by_cases hc : tkOk t = true ∧ takes t.1 ≤ st.length
      · rw [if_pos hc] at hs ⊢
        simp only [Option.map_some, Option.some.injEq] at hs
        rw [Option.bind_some, ih, hs]
      · rw [if_neg hc] at hs; cases hs
theorem wrun_some {s : Int} {l : List Tk} (h : levelOk l = true) (k : Nat) : ∃ st, wrun s (l.take k) [] = some st := by
  cases hc : wrun s (l.take k) [] with
  | some st => exact ⟨st, rfl⟩
  | none =>
    have h1 := wrun_height (s := s) (l := l.take k) []
    rw [hc] at h1
    simp only [levelOk, Bool.and_eq_true, decide_eq_true_eq] at h
    have := hts_none_of_take (k := k) h1.symm
    rw [show ((([] : List (List At)).length : Nat) : Int) = 0 from rfl] at this
    rw [this] at h
    cases h.2
theorem wrun_one {s : Int} {l : List Tk} (h : levelOk l = true) : ∃ a, wrun s l [] = some [a] := by
  obtain ⟨st, hst⟩ := wrun_some (s := s) h l.length
  rw [List.take_of_length_le (Nat.le_refl _)] at hst
  have h1 := wrun_height (s := s) (l := l) []
  simp only [levelOk, Bool.and_eq_true, decide_eq_true_eq] at h
  rw [hst, show ((([] : List (List At)).length : Nat) : Int) = 0 from rfl, h.2] at h1
  simp only [Option.map_some, Option.some.injEq] at h1
  match st, h1 with
  | [a], _ => exact ⟨a, hst⟩
  | [], h1 => simp at h1
  | _ :: _ :: _, h1 => simp at h1; omega
/-- what lies on the pile is right for the sign -/
def WFine (s : Int) (k : Nat) (st : List (List At)) : Prop := ∀ a ∈ st, a ≠ [] ∧ Pst s a ∧ ∀ x ∈ a, -1 ≤ x.1 ∧ x.1 < 5 ∧ 0 ≤ x.2 ∧ x.2 ≤ k
theorem WFine.allOk {s : Int} {k : Nat} {st : List (List At)} (h : WFine s k st) (hk : k ≤ 1000) {a : List At} (ha : a ∈ st) : AllOk a :=
  allOk_of_mem fun x hx => (atOk_iff x).2 (by have := (h a ha).2.2 x hx; omega)
theorem wfine_step {s : Int} {k : Nat} {t : Tk} {st st' : List (List At)} (h : WFine s k st) (hs : wstep s t st = some st') : WFine s (k + 1) st' := by
  have up1 : WFine s (k + 1) st := fun a ha => ⟨(h a ha).1, (h a ha).2.1, fun x hx => by have := (h a ha).2.2 x hx; omega⟩
  have zero : ([(-1, 0)] : List At) ≠ [] ∧ Pst s [(-1, 0)] ∧ ∀ x ∈ ([(-1, 0)] : List At), -1 ≤ x.1 ∧ x.1 < 5 ∧ 0 ≤ x.2 ∧ x.2 ≤ ((k + 1 : Nat) : Int) := by
    refine ⟨by simp, fun a ha => ?_, fun x hx => ?_⟩
    · obtain rfl : a = (-1, 0) := by simpa using ha
      exact .inl rfl
    · obtain rfl : x = (-1, 0) := by simpa using hx
      simp; omega
  unfold wstep at hs
  by_cases hok : tkOk t = true
  · rw [if_pos hok] at hs
    by_cases h0 : t.1 = 0
    · rw [if_pos h0] at hs
      injection hs with hs
      subst hs
      intro a ha
      rcases List.mem_cons.1 ha with rfl | ha
      · exact zero
      · exact up1 a ha
    · rw [if_neg h0] at hs
      by_cases h4 : t.1 = 4
      · rw [if_pos h4] at hs
        injection hs with hs
        subst hs
        have hb : 0 ≤ t.2 ∧ t.2 < 5 := by simp [tkOk] at hok; omega
        intro a ha
        rcases List.mem_cons.1 ha with rfl | ha
        · refine ⟨by simp, fun a ha => ?_, fun x hx => ?_⟩
          · obtain rfl : a = pl s (t.2, 0) := by simpa using ha
            exact pl_pst s (by simp; omega)
          · obtain rfl : x = pl s (t.2, 0) := by simpa using hx
            rw [pl_snd]
            unfold pl
            split <;> simp <;> omega
        · exact up1 a ha
      · rw [if_neg h4] at hs
        by_cases h1 : t.1 = 1
        · rw [if_pos h1] at hs
          match st, hs, h, up1 with
          | a :: r, hs, h, up1 =>
            simp only at hs
            injection hs with hs
            subst hs
            intro b hb
            rcases List.mem_cons.1 hb with rfl | hb
            · have ha := h a (by simp)
              refine ⟨by simpa [up] using ha.1, ha.2.1.up 1, fun x hx => ?_⟩
              obtain ⟨y, hy, rfl⟩ := List.mem_map.1 hx
              have := ha.2.2 y hy
              simp only
              omega
            · exact up1 b (List.mem_cons_of_mem _ hb)
        · rw [if_neg h1] at hs
          match st, hs, h, up1 with
          | b :: a :: r, hs, h, up1 =>
            simp only at hs
            injection hs with hs
            subst hs
            intro x hx
            rcases List.mem_cons.1 hx with rfl | hx
            · split
              · exact zero
              · have ha := up1 a (by simp)
                have hb := up1 b (by simp)
                refine ⟨by simp [ha.1], ha.2.1.append hb.2.1, fun y hy => ?_⟩
                rcases List.mem_append.1 hy with hy | hy
                · exact ha.2.2 y hy
                · exact hb.2.2 y hy
            · exact up1 x (by simp [hx])
          | [b], hs, h, up1 => simp at hs
          | [], hs, h, up1 => simp at hs
  · rw [if_neg hok] at hs; cases hs
theorem wfine_run {s : Int} {l : List Tk} {st : List (List At)} : ∀ {k : Nat} {u : List (List At)}, WFine s k u → wrun s l u = some st → WFine s (k + l.length) st := by
  induction l with
  | nil => intro k u hu h; simp only [wrun] at h; injection h with h; subst h; exact hu
  | cons t r ih =>
    intro k u hu h
    simp only [wrun] at h
    cases hq : wstep s t u with
    | none => rw [hq] at h; cases h
    | some u1 =>
      rw [hq, Option.bind_some] at h
      have := ih (wfine_step hu hq) h
      rw [List.length_cons, show k + (r.length + 1) = k + 1 + r.length by omega]
      exact this
theorem wfine_take {s : Int} {l : List Tk} {k : Nat} {st : List (List At)} (h : wrun s (l.take k) [] = some st) (hk : k ≤ 24) : WFine s 24 st := by
  have := wfine_run (k := 0) (fun a ha => by simp at ha) h
  intro a ha
  have hl : (l.take k).length ≤ k := by rw [List.length_take]; omega
  obtain ⟨h1, h2, h3⟩ := this a ha
  exact ⟨h1, h2, fun x hx => by have := h3 x hx; omega⟩
/-- the atoms of a level for a sign -/
def wl (s : Int) (l : List Tk) : List At := ((wrun s l []).getD []).headD []
theorem wl_of {s : Int} {l : List Tk} {a : List At} (h : wrun s l [] = some [a]) : wl s l = a := by unfold wl; rw [h]; rfl
/-- what Residual answers -/
def residR (s : Int) (l : List Tk) : Option (List At) := if levelOk l = true ∧ Sg.isSign s = true then some (rnorm (wl s l)) else none
end Go.Proofs.YtgebjnoicgmdoaaGreatDoor.Nm

namespace Go.Proofs.YtgebjnoicgmdoaaGreatDoor
open Go.RowKit

/-- block g is a row of just n tokens, those of l -/
def AtomOwn (w : World) (g n : Nat) (l : List (Int × Int)) : Prop :=
  l.length = n ∧ ∃ cs, Blk w g 92 cs ∧ cs.size = n * 2 ∧ ∀ k, k < n → cs[k * 2]? = some (.int .i64 (l.getD k (0, 0)).1) ∧ cs[k * 2 + 1]? = some (.int .i64 (l.getD k (0, 0)).2)

theorem AtomOwn.reads {w : World} {g n : Nat} {l : List (Int × Int)} (h : AtomOwn w g n l) : TokR w (g + 1) (some ⟨g, 0, none⟩) n l := by
  obtain ⟨hl, cs, hb, hs, hc⟩ := h
  refine ⟨hl, fun _ => ⟨g, 0, rfl, by omega, fun k hk => ?_⟩⟩
  rw [hb.cell, hb.cell, Nat.zero_add]
  exact hc k hk
theorem AtomOwn.below {w w' : World} {g n B : Nat} {l : List (Int × Int)} (h : AtomOwn w g n l) (hb : Below B w w') (hg : g < B) : AtomOwn w' g n l := by
  obtain ⟨hl, cs, hblk, rest⟩ := h
  exact ⟨hl, cs, hblk.below hb hg, rest⟩

theorem info_atom : (Tryz.prog.info? 92).map (fun i => (i.zero, i.size, i.bytes)) = some (some (.agg #[.int .i64 0, .int .i64 0]), 2, 16) := by kernel_rfl

/-- a row of the call's own, of tokens -/
abbrev OwnA (w : World) (base : Nat) (A : Option Addr) (n c : Nat) (l : List (Int × Int)) : Prop := w.ownsRow base 92 2 (.slice A n c) n (tokCells l)

theorem OwnA.reads {w : World} {base : Nat} {A : Option Addr} {n c : Nat} {l : List (Int × Int)} (h : OwnA w base A n c l) : TokR w w.heap.size A n l := by
  have hl : l.length = n := by have := h.1; rw [tokCells_len] at this; omega
  refine ⟨hl, fun hn => ?_⟩
  rcases h.2 with ⟨_, h0⟩ | ⟨g, cap, cur, hv, hb, hgg, h1, h2, h3, h4⟩
  · omega
  · injection hv with e1 e2 e3
    subst e1
    refine ⟨g, 0, rfl, (Array.getElem?_eq_some_iff.1 hgg).1, fun k hk => ?_⟩
    have ht := tokCells_at l k (by omega)
    have h5 := h.cells (g := g) rfl (k * 2) _ ht.1
    have h6 := h.cells (g := g) rfl (k * 2 + 1) _ ht.2
    rw [own_adds] at h5 h6
    rw [Nat.zero_add]
    exact ⟨h5, h6⟩

theorem AtomOwn.lt {w : World} {g n : Nat} {l : List (Int × Int)} (h : AtomOwn w g n l) : g + 1 ≤ w.heap.size := by obtain ⟨_, cs, hblk, _⟩ := h; exact hblk.lt
theorem AtomOwn.mark {w w' : World} {g n base m k size : Nat} {e : TypeId} {v : Value} {l : List (Int × Int)} {lo hi : Nat} (h : AtomOwn w g n l) (hm : MarkOut w base e size v m k w') (hv : InR v lo hi) (hd : g < lo ∨ hi ≤ g) : AtomOwn w' g n l := by
  have hlt := h.lt
  obtain ⟨hl, cs, hblk, rest⟩ := h
  refine ⟨hl, cs, ?_, rest⟩
  exact (hm.1.block g (by omega) (fun he => by have := hv g he.symm; omega)).trans hblk
end Go.Proofs.YtgebjnoicgmdoaaGreatDoor

namespace Go.Proofs.YtgebjnoicgmdoaaGreatDoor
open Go.RowKit

set_option maxRecDepth 100000 in
set_option maxHeartbeats 800000 in
theorem atomsOk_any (w : World) (B : Nat) (A : Option Addr) (n c : Nat) (l : List (Int × Int)) (hB : B ≤ w.heap.size) (hl : TokR w B A n l) (hn : (n : Int) ≤ 140737488355328) :
    Calls Tryz.prog 161 #[.slice A n c] w fun e w' => e = .returned (.bool (Nm.allOk l)) ∧ Below w.heap.size w w' := by
  go_enter Tryz.func161, Tryz.ntmps161
  go_wp2
  go_loopw [7] (fun i wr => ∃ k : Nat, k ≤ n ∧ i = .int .i64 k ∧ Hid (∀ j, j < k → Nm.atOk (l.getD j (0, 0)) = true) ∧ Below w.heap.size w wr) (fun i _ => n - (intOf i).toNat)
  case atStart => exact ⟨0, Nat.zero_le _, rfl, (fun j hj => absurd hj (by omega)), Below.refl _ _⟩
  case round =>
    obtain ⟨k, hk, rfl, HA, hbel⟩ := hrel
    by_cases hlt : k < n
    · obtain ⟨b, off, rfl, hb, hc⟩ := hl.2 (by omega)
      obtain ⟨c1, c2⟩ := hc k hlt
      have HL := Lib.hid hl.1
      obtain ⟨t, ht⟩ : ∃ t, l.getD k (0, 0) = t := ⟨_, rfl⟩
      rw [ht] at c1 c2
      obtain ⟨p, x⟩ := t
      have HT := Lib.hid ht
      have k1 := (hbel.cell (p := ⟨b, off + k * 2, none⟩) (by show b < _; omega)).trans c1
      have k2 := (hbel.cell (p := ⟨b, off + k * 2 + 1, none⟩) (by show b < _; omega)).trans c2
      have HBA := Lib.hid (hbel.alloc hbel.size (.cells #[.int .i64 p, .int .i64 x] 92))
      clear c1 c2 hc hl ht
      by_cases hok : -1 ≤ p ∧ p < 5 ∧ 0 ≤ x ∧ x ≤ 1000
      · have HA2 : Hid (∀ j, j < k + 1 → Nm.atOk (l.getD j (0, 0)) = true) := by
          intro j hj
          by_cases e : j = k
          · subst e; rw [HT.out]; exact (Nm.atOk_iff _).2 hok
          · exact HA.out j (by omega)
        obtain ⟨h1, h2, h3, h4⟩ := hok
        have d1 : decide (p < -1) = false := by simp; omega
        have d2 : decide (5 ≤ p) = false := by simp; omega
        have d3 : decide (x < 0) = false := by simp; omega
        have d4 : decide (1000 < x) = false := by simp; omega
        go_wp2
        go_roundw
        case rel => exact ⟨k + 1, by omega, by go_num, HA2.out, HBA.out⟩
        case measure => simp [intOf]; omega
      · have HF : Hid (Nm.allOk l = false) := Nm.allOk_no (fun h => hok (by
          have := (Nm.atOk_iff _).1 (h k (by rw [HL.out]; exact hlt))
          rw [HT.out] at this; exact this))
        by_cases g1 : p < -1
        · clear hok
          go_wp2
          go_ret
          exact ⟨by rw [HF.out]; rfl, HBA.out⟩
        · have g1' : -1 ≤ p := by omega
          by_cases g2 : 5 ≤ p
          · clear hok
            go_wp2
            go_ret
            exact ⟨by rw [HF.out]; rfl, HBA.out⟩
          · have g2' : p < 5 := by omega
            by_cases g3 : x < 0
            · clear hok
              go_wp2
              go_ret
              exact ⟨by rw [HF.out]; rfl, HBA.out⟩
            · have g3' : 0 ≤ x := by omega
              have g4 : 1000 < x := by omega
              clear hok
              go_wp2
              go_ret
              exact ⟨by rw [HF.out]; rfl, HBA.out⟩
    · have HF : Hid (Nm.allOk l = true) := (Nm.allOk_iff l).2 (fun j hj => HA.out j (by have := hl.1; omega))
      clear hl
      go_wp2
      go_ret
      exact ⟨by rw [HF.out]; rfl, hbel⟩

set_option maxRecDepth 100000 in
set_option maxHeartbeats 800000 in
theorem numberExceeds_any (w : World) (B : Nat) (x : Int) (A : Option Addr) (n c : Nat) (l : List (Int × Int)) (hB : B ≤ w.heap.size) (hl : TokR w B A n l) (hn : (n : Int) ≤ 140737488355328) :
    Calls Tryz.prog 152 #[.int .i64 x, .slice A n c] w fun e w' => e = .returned (.bool (Nm.exceeds x l)) ∧ Below w.heap.size w w' := by
  go_enter Tryz.func152, Tryz.ntmps152
  go_wp2
  go_loopw [9] (fun i wr => ∃ k : Nat, k ≤ n ∧ i = .int .i64 k ∧ Hid (∀ j, j < k → (l.getD j (0, 0)).2 < x) ∧ Below w.heap.size w wr) (fun i _ => n - (intOf i).toNat)
  case atStart => exact ⟨0, Nat.zero_le _, rfl, (fun j hj => absurd hj (by omega)), Below.refl _ _⟩
  case round =>
    obtain ⟨k, hk, rfl, HA, hbel⟩ := hrel
    by_cases hlt : k < n
    · obtain ⟨b, off, rfl, hb, hc⟩ := hl.2 (by omega)
      obtain ⟨c1, c2⟩ := hc k hlt
      have HL := Lib.hid hl.1
      obtain ⟨t, ht⟩ : ∃ t, l.getD k (0, 0) = t := ⟨_, rfl⟩
      rw [ht] at c1 c2
      obtain ⟨p, y⟩ := t
      have HT := Lib.hid ht
      have k1 := (hbel.cell (p := ⟨b, off + k * 2, none⟩) (by show b < _; omega)).trans c1
      have k2 := (hbel.cell (p := ⟨b, off + k * 2 + 1, none⟩) (by show b < _; omega)).trans c2
      have HBA := Lib.hid (hbel.alloc hbel.size (.cells #[.int .i64 p, .int .i64 y] 92))
      clear c1 c2 hc hl ht
      by_cases hok : y < x
      · have HA2 : Hid (∀ j, j < k + 1 → (l.getD j (0, 0)).2 < x) := by
          intro j hj
          by_cases e : j = k
          · subst e; rw [HT.out]; exact hok
          · exact HA.out j (by omega)
        go_wp2
        go_roundw
        case rel => exact ⟨k + 1, by omega, by go_num, HA2.out, HBA.out⟩
        case measure => simp [intOf]; omega
      · have HF : Hid (Nm.exceeds x l = false) := Nm.exceeds_no (fun h => hok (by
          have := h k (by rw [HL.out]; exact hlt)
          rw [HT.out] at this; exact this))
        have g : x ≤ y := by omega
        clear hok
        go_wp2
        go_ret
        exact ⟨by rw [HF.out]; rfl, HBA.out⟩
    · have HF : Hid (Nm.exceeds x l = true) := (Nm.exceeds_iff x l).2 (fun j hj => HA.out j (by have := hl.1; omega))
      clear hl
      go_wp2
      go_ret
      exact ⟨by rw [HF.out]; rfl, hbel⟩

end Go.Proofs.YtgebjnoicgmdoaaGreatDoor
