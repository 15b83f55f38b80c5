/- Plain facts for constraints: what is implied; what is left when the constraints are considered one by one and each is removed that is not needed. -/
import Derived.Test.YtmmhcpigcdlnmaaCsMath3
namespace Go.Proofs.Ytmmhcpigcdlnmaa.Cs

/-- ConsImply's answer for a satisfiable list -/
def imp (l : List Cn) (c : Cn) : Bool :=
  if c.2.1 = 0 then decide (0 ≤ tab l (node c.1) (node c.2.2)) else if c.2.1 = 1 then decide (1 ≤ tab l (node c.1) (node c.2.2)) else decide (0 ≤ tab l (node c.1) (node c.2.2)) && decide (0 ≤ tab l (node c.2.2) (node c.1))
theorem imp_iff {l : List Cn} (hok : ok l) (hf : flat l = true) {c : Cn} (hc : cOk c = true) : imp l c = true ↔ ∀ v, SatAll v l → Sat v c := by
  have ho := (cOk_iff c).1 hc
  have n1 := node_lt ho.1.1 ho.1.2
  have n2 := node_lt ho.2.1.1 ho.2.1.2
  unfold imp Sat
  by_cases e0 : c.2.1 = 0
  · rw [if_pos e0, decide_eq_true_eq, far_iff hok hf n1 n2 (Int.le_refl 0)]
    constructor
    · intro h v hv; rw [if_pos e0]; have := h v hv; omega
    · intro h v hv; have := h v hv; rw [if_pos e0] at this; omega
  · rw [if_neg e0]
    by_cases e1 : c.2.1 = 1
    · rw [if_pos e1, decide_eq_true_eq, far_iff hok hf n1 n2 (by omega)]
      constructor
      · intro h v hv; rw [if_neg e0, if_pos e1]; have := h v hv; omega
      · intro h v hv; have := h v hv; rw [if_neg e0, if_pos e1] at this; omega
    · rw [if_neg e1, Bool.and_eq_true, decide_eq_true_eq, decide_eq_true_eq, far_iff hok hf n1 n2 (Int.le_refl 0), far_iff hok hf n2 n1 (Int.le_refl 0)]
      constructor
      · rintro ⟨h1, h2⟩ v hv; rw [if_neg e0, if_neg e1]; have := h1 v hv; have := h2 v hv; omega
      · intro h
        refine ⟨fun v hv => ?_, fun v hv => ?_⟩ <;> (have := h v hv; rw [if_neg e0, if_neg e1] at this; omega)

/-- the constraints that are not gone, the first of them number k -/
def skipFrom : Nat → List Cn → (Nat → Bool) → List Cn
  | _, [], _ => []
  | k, c :: r, g => if g k = true then skipFrom (k + 1) r g else c :: skipFrom (k + 1) r g
def skip (l : List Cn) (g : Nat → Bool) : List Cn := skipFrom 0 l g
theorem mem_skipFrom {c : Cn} {g : Nat → Bool} : ∀ {l : List Cn} {k : Nat}, c ∈ skipFrom k l g ↔ ∃ i, i < l.length ∧ g (k + i) = false ∧ l.getD i (0, 0, 0) = c := by
  intro l
  induction l with
  | nil => intro k; simp [skipFrom]
  | cons x r ih =>
    intro k
    have tail : (∃ i, i < r.length ∧ g (k + 1 + i) = false ∧ r.getD i (0, 0, 0) = c) → ∃ i, i < (x :: r).length ∧ g (k + i) = false ∧ (x :: r).getD i (0, 0, 0) = c := by
      rintro ⟨i, h1, h2, h3⟩
      exact ⟨i + 1, by simpa using h1, by rw [show k + (i + 1) = k + 1 + i by omega]; exact h2, by simpa using h3⟩
    have back : ∀ i, i < (x :: r).length → g (k + i) = false → (x :: r).getD i (0, 0, 0) = c → (i = 0 ∧ x = c ∧ g k = false) ∨ ∃ i, i < r.length ∧ g (k + 1 + i) = false ∧ r.getD i (0, 0, 0) = c := by
      intro i h1 h2 h3
      cases i with
      | zero => exact .inl ⟨rfl, by simpa using h3, by simpa using h2⟩
      | succ i => exact .inr ⟨i, by simpa using h1, by rw [show k + 1 + i = k + (i + 1) by omega]; exact h2, by simpa using h3⟩
    simp only [skipFrom]
    by_cases hg : g k = true
    · rw [if_pos hg, ih]
      refine ⟨tail, fun ⟨i, h1, h2, h3⟩ => ?_⟩
      rcases back i h1 h2 h3 with ⟨_, _, h⟩ | h
      · rw [hg] at h; cases h
      · exact h
    · rw [if_neg hg, List.mem_cons, ih]
      constructor
      · rintro (rfl | h)
        · exact ⟨0, by simp, by simpa using hg, by simp⟩
        · exact tail h
      · rintro ⟨i, h1, h2, h3⟩
        rcases back i h1 h2 h3 with ⟨_, h, _⟩ | h
        · exact .inl h.symm
        · exact .inr h
theorem mem_skip {c : Cn} {g : Nat → Bool} {l : List Cn} : c ∈ skip l g ↔ ∃ i, i < l.length ∧ g i = false ∧ l.getD i (0, 0, 0) = c := by
  unfold skip
  rw [mem_skipFrom]
  simp only [Nat.zero_add]
theorem skip_ok {l : List Cn} (h : ok l) (g : Nat → Bool) : ok (skip l g) := fun c hc => by
  obtain ⟨i, hi, _, rfl⟩ := mem_skip.1 hc
  refine h _ ?_
  rw [List.getD_eq_getElem?_getD, List.getElem?_eq_getElem hi]
  exact List.getElem_mem _
def mark (g : Nat → Bool) (i : Nat) (b : Bool) : Nat → Bool := fun x => if x = i then b else g x
/-- more gone: more values satisfy what is left -/
theorem sat_more {v : Nat → Int} {l : List Cn} {g h : Nat → Bool} (hg : ∀ i, g i = true → h i = true) (hv : SatAll v (skip l g)) : SatAll v (skip l h) := by
  refine ⟨hv.1, fun c hc => hv.2 c ?_⟩
  obtain ⟨i, h1, h2, h3⟩ := mem_skip.1 hc
  refine mem_skip.2 ⟨i, h1, ?_, h3⟩
  cases e : g i with
  | false => rfl
  | true => rw [hg i e] at h2; cases h2

/-- ConsCore: what is gone behind the first n constraints -/
def coreTo (l : List Cn) : Nat → (Nat → Bool)
  | 0 => fun _ => false
  | n + 1 => if flat (skip l (mark (coreTo l n) n true)) = true then coreTo l n else mark (coreTo l n) n true
theorem coreTo_mono (l : List Cn) (n m i : Nat) (h : coreTo l n i = true) : coreTo l (n + m) i = true := by
  induction m with
  | zero => exact h
  | succ m ih =>
    show coreTo l (n + m + 1) i = true
    simp only [coreTo]
    split
    · exact ih
    · unfold mark; split
      · rfl
      · exact ih
theorem coreTo_late (l : List Cn) (n i : Nat) (hi : n ≤ i) : coreTo l n i = false := by
  induction n with
  | zero => rfl
  | succ n ih =>
    simp only [coreTo]
    split
    · exact ih (by omega)
    · unfold mark; rw [if_neg (by omega)]; exact ih (by omega)
/-- what is left is never satisfiable -/
theorem core_bad {l : List Cn} (hok : ok l) (hf : flat l = false) : ∀ n, flat (skip l (coreTo l n)) = false := by
  intro n
  induction n with
  | zero =>
    cases e : flat (skip l (coreTo l 0)) with
    | false => rfl
    | true =>
      obtain ⟨v, hv⟩ := (sat_iff (skip_ok hok _)).1 e
      refine absurd (⟨hv.1, fun c hc => hv.2 c ?_⟩ : SatAll v l) (not_flat hok hf)
      obtain ⟨i, hi, rfl⟩ := List.getElem_of_mem hc
      exact mem_skip.2 ⟨i, hi, rfl, by rw [List.getD_eq_getElem?_getD, List.getElem?_eq_getElem hi]; rfl⟩
  | succ n ih =>
    simp only [coreTo]
    by_cases h : flat (skip l (mark (coreTo l n) n true)) = true
    · rw [if_pos h]; exact ih
    · rw [if_neg h]; simpa using h
/-- without any one of those that are left the rest is satisfiable -/
theorem core_min {l : List Cn} (hok : ok l) {i : Nat} (hi : i < l.length) (hk : coreTo l l.length i = false) : flat (skip l (mark (coreTo l l.length) i true)) = true := by
  have hstep : coreTo l (i + 1) i = false := by
    cases e : coreTo l (i + 1) i with
    | false => rfl
    | true =>
      have := coreTo_mono l (i + 1) (l.length - (i + 1)) i e
      rw [show i + 1 + (l.length - (i + 1)) = l.length by omega, hk] at this
      cases this
  have hsat : flat (skip l (mark (coreTo l i) i true)) = true := by
    simp only [coreTo] at hstep
    by_cases h : flat (skip l (mark (coreTo l i) i true)) = true
    · exact h
    · rw [if_neg h] at hstep
      simp [mark] at hstep
  obtain ⟨v, hv⟩ := (sat_iff (skip_ok hok _)).1 hsat
  refine (sat_iff (skip_ok hok _)).2 ⟨v, sat_more (fun j hj => ?_) hv⟩
  unfold mark at hj ⊢
  split
  · rfl
  · rename_i e
    rw [if_neg e] at hj
    have := coreTo_mono l i (l.length - i) j hj
    rwa [show i + (l.length - i) = l.length by omega] at this

/-- ConsThin: what is gone behind the first n constraints -/
def thinTo (l : List Cn) : Nat → (Nat → Bool)
  | 0 => fun _ => false
  | n + 1 => mark (thinTo l n) n (imp (skip l (mark (thinTo l n) n true)) (l.getD n (0, 0, 0)))
theorem thinTo_late (l : List Cn) (n i : Nat) (hi : n ≤ i) : thinTo l n i = false := by
  induction n with
  | zero => rfl
  | succ n ih =>
    simp only [thinTo, mark]
    rw [if_neg (by omega)]
    exact ih (by omega)
theorem thinTo_keep (l : List Cn) (n m i : Nat) (hi : i < n) : thinTo l (n + m) i = thinTo l n i := by
  induction m with
  | zero => rfl
  | succ m ih =>
    show thinTo l (n + m + 1) i = thinTo l n i
    simp only [thinTo, mark]
    rw [if_neg (by omega)]
    exact ih
section
variable {l : List Cn} (hok : ok l) (hf : flat l = true)
include hok hf
theorem skip_flat (g : Nat → Bool) : flat (skip l g) = true := by
  obtain ⟨v, hv⟩ := (sat_iff hok).1 hf
  refine (sat_iff (skip_ok hok g)).2 ⟨v, hv.1, fun c hc => hv.2 c ?_⟩
  obtain ⟨i, hi, _, rfl⟩ := mem_skip.1 hc
  rw [List.getD_eq_getElem?_getD, List.getElem?_eq_getElem hi]
  exact List.getElem_mem _
/-- what is left says what the list says -/
theorem thin_same : ∀ n, n ≤ l.length → ∀ v, SatAll v (skip l (thinTo l n)) → SatAll v l := by
  intro n
  induction n with
  | zero =>
    intro _ v hv
    refine ⟨hv.1, fun c hc => hv.2 c ?_⟩
    obtain ⟨i, hi, rfl⟩ := List.getElem_of_mem hc
    exact mem_skip.2 ⟨i, hi, rfl, by rw [List.getD_eq_getElem?_getD, List.getElem?_eq_getElem hi]; rfl⟩
  | succ n ih =>
    intro hn v hv
    refine ih (by omega) v ?_
    have hcn : cOk (l.getD n (0, 0, 0)) = true := by
      refine hok _ ?_
      rw [List.getD_eq_getElem?_getD, List.getElem?_eq_getElem (by omega)]
      exact List.getElem_mem _
    cases hi : imp (skip l (mark (thinTo l n) n true)) (l.getD n (0, 0, 0)) with
    | false =>
      refine sat_more (fun j hj => ?_) hv
      simp only [thinTo, hi, mark] at hj
      split at hj
      · cases hj
      · exact hj
    | true =>
      have hg : thinTo l (n + 1) = mark (thinTo l n) n true := by simp only [thinTo, hi]
      rw [hg] at hv
      have hs := (imp_iff (skip_ok hok _) (skip_flat hok hf _) hcn).1 hi v hv
      refine ⟨hv.1, fun c hc => ?_⟩
      obtain ⟨i, h1, h2, rfl⟩ := mem_skip.1 hc
      by_cases e : i = n
      · subst e; exact hs
      · exact hv.2 _ (mem_skip.2 ⟨i, h1, by unfold mark; rw [if_neg e]; exact h2, rfl⟩)
/-- none of what is left is implied by the others -/
theorem thin_min {i : Nat} (hi : i < l.length) (hk : thinTo l l.length i = false) : imp (skip l (mark (thinTo l l.length) i true)) (l.getD i (0, 0, 0)) = false := by
  have hci : cOk (l.getD i (0, 0, 0)) = true := by
    refine hok _ ?_
    rw [List.getD_eq_getElem?_getD, List.getElem?_eq_getElem hi]
    exact List.getElem_mem _
  have h1 : imp (skip l (mark (thinTo l i) i true)) (l.getD i (0, 0, 0)) = false := by
    have := thinTo_keep l (i + 1) (l.length - (i + 1)) i (by omega)
    rw [show i + 1 + (l.length - (i + 1)) = l.length by omega, hk] at this
    simp only [thinTo, mark, if_true] at this
    exact this.symm
  cases e : imp (skip l (mark (thinTo l l.length) i true)) (l.getD i (0, 0, 0)) with
  | false => rfl
  | true =>
    have h2 := (imp_iff (skip_ok hok _) (skip_flat hok hf _) hci).1 e
    have h3 : imp (skip l (mark (thinTo l i) i true)) (l.getD i (0, 0, 0)) = true := (imp_iff (skip_ok hok _) (skip_flat hok hf _) hci).2 fun v hv => by
      refine h2 v (sat_more (fun j hj => ?_) hv)
      unfold mark at hj ⊢
      split
      · rfl
      · rename_i ne
        rw [if_neg ne] at hj
        have hjl : j < i := by
          apply Classical.byContradiction
          intro hge
          rw [thinTo_late l i j (by omega)] at hj
          cases hj
        have := thinTo_keep l i (l.length - i) j hjl
        rw [show i + (l.length - i) = l.length by omega] at this
        rw [this]
        exact hj
    rw [h1] at h3
    cases h3
end
end Go.Proofs.Ytmmhcpigcdlnmaa.Cs
