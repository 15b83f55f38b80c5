/- Plain facts for constraints: what is implied; what is left when the constraints are considered one by one and each is removed that is not needed. -/
import Derived.Test.YtboogdkkcepifaaCsMath3
namespace Go.Proofs.Ytboogdkkcepifaa.Cs

/-- ConsImply's answer for a satisfiable list -/
def imp (l : List Cn) (c : Cn) : Bool :=
  if c.2.1 = 0 then decide (0 ≤ tab l (node c.1) (node c.2.2)) else if c.2.1 = 1 then decide (1 ≤ tab l (node c.1) (node c.2.2)) else decide (0 ≤ tab l (node c.1) (node c.2.2)) && decide (0 ≤ tab l (node c.2.2) (node c.1))
/-- the constraints that are not gone, the first of them number k -/
def skipFrom : Nat → List Cn → (Nat → Bool) → List Cn
  | _, [], _ => []
  | k, c :: r, g => if g k = true then skipFrom (k + 1) r g else c :: skipFrom (k + 1) r g
def skip (l : List Cn) (g : Nat → Bool) : List Cn := skipFrom 0 l g
theorem mem_skipFrom {c : Cn} {g : Nat → Bool} : ∀ {l : List Cn} {k : Nat}, c ∈ skipFrom k l g ↔ ∃ i, i < l.length ∧ g (k + i) = false ∧ l.getD i (0, 0, 0) = c := by
  intro l
  induction l with
  | nil => intro k; simp [skipFrom]
  | cons x r ih =>
    intro k
    have tail : (∃ i, i < r.length ∧ g (k + 1 + i) = false ∧ r.getD i (0, 0, 0) = c) → ∃ i, i < (x :: r).length ∧ g (k + i) = false ∧ (x :: r).getD i (0, 0, 0) = c := by
      rintro ⟨i, h1, h2, h3⟩
      exact ⟨i + 1, by simpa using h1, by rw [show k + (i + 1) = k + 1 + i by omega]; exact h2, by simpa using h3⟩
    have back : ∀ i, i < (x :: r).length → g (k + i) = false → (x :: r).getD i (0, 0, 0) = c → (i = 0 ∧ x = c ∧ g k = false) ∨ ∃ i, i < r.length ∧ g (k + 1 + i) = false ∧ r.getD i (0, 0, 0) = c := by
      intro i h1 h2 h3
      cases i with
      | zero => exact .inl ⟨rfl, by simpa using h3, by simpa using h2⟩
      | succ i => exact .inr ⟨i, by simpa using h1, by rw [show k + 1 + i = k + (i + 1) by omega]; exact h2, by simpa using h3⟩
    simp only [skipFrom]
    by_cases hg : g k = true
    · rw [if_pos hg, ih]
      refine ⟨tail, fun ⟨i, h1, h2, h3⟩ => ?_⟩
      rcases back i h1 h2 h3 with ⟨_, _, h⟩ | h
      · rw [hg] at h; cases h
      · exact h
    · rw [if_neg hg, List.mem_cons, ih]
      constructor
      · rintro (rfl | h)
        · exact ⟨0, by simp, by simpa using hg, by simp⟩
        · exact tail h
      · rintro ⟨i, h1, h2, h3⟩
        rcases back i h1 h2 h3 with ⟨_, h, _⟩ | h
        · exact .inl h.symm
        · exact .inr h
theorem mem_skip {c : Cn} {g : Nat → Bool} {l : List Cn} : c ∈ skip l g ↔ ∃ i, i < l.length ∧ g i = false ∧ l.getD i (0, 0, 0) = c := by
  unfold skip
  rw [mem_skipFrom]
  simp only [Nat.zero_add]
theorem skip_ok {l : List Cn} (h : ok l) (g : Nat → Bool) : ok (skip l g) := fun c hc => by
  obtain ⟨i, hi, _, rfl⟩ := mem_skip.1 hc
  refine h _ ?_
  rw [List.getD_eq_getElem?_getD, List.getElem?_eq_getElem hi]
  exact List.getElem_mem _
def mark (g : Nat → Bool) (i : Nat) (b : Bool) : Nat → Bool := fun x => if x = i then b else g x
/-- more gone: more values satisfy what is left -/
theorem sat_more {v : Nat → Int} {l : List Cn} {g h : Nat → Bool} (hg : ∀ i, g i = true → h i = true) (hv : SatAll v (skip l g)) : SatAll v (skip l h) := by
  refine ⟨hv.1, fun c hc => hv.2 c ?_⟩
  obtain ⟨i, h1, h2, h3⟩ := mem_skip.1 hc
  refine mem_skip.2 ⟨i, h1, ?_, h3⟩
  cases e : g i with
  | false => rfl
  | true => rw [hg i e] at h2; cases h2

/-- ConsCore: what is gone behind the first n constraints -/
def coreTo (l : List Cn) : Nat → (Nat → Bool)
  | 0 => fun _ => false
  | n + 1 => if flat (skip l (mark (coreTo l n) n true)) = true then coreTo l n else mark (coreTo l n) n true
theorem coreTo_mono (l : List Cn) (n m i : Nat) (h : coreTo l n i = true) : coreTo l (n + m) i = true := by
  induction m with
  | zero => exact h
  | succ m ih =>
    show coreTo l (n + m + 1) i = true
    simp only [coreTo]
    split
    · exact ih
    · unfold mark; split
      · rfl
      · exact ih
theorem coreTo_late (l : List Cn) (n i : Nat) (hi : n ≤ i) : coreTo l n i = false := by
  induction n with
  | zero => rfl
  | succ n ih =>
    simp only [coreTo]
    split
    · exact ih (by omega)
    · unfold mark; rw [if_neg (by omega)]; exact ih (by omega)
/-- ConsThin: what is gone behind the first n constraints -/
def thinTo (l : List Cn) : Nat → (Nat → Bool)
  | 0 => fun _ => false
  | n + 1 => mark (thinTo l n) n (imp (skip l (mark (thinTo l n) n true)) (l.getD n (0, 0, 0)))
theorem thinTo_late (l : List Cn) (n i : Nat) (hi : n ≤ i) : thinTo l n i = false := by
  induction n with
  | zero => rfl
  | succ n ih =>
    simp only [thinTo, mark]
    rw [if_neg (by omega)]
    exact ih (by omega)
theorem thinTo_keep (l : List Cn) (n m i : Nat) (hi : i < n) : thinTo l (n + m) i = thinTo l n i := by
  induction m with
  | zero => rfl
  | succ m ih =>
    show thinTo l (n + m + 1) i = thinTo l n i
    simp only [thinTo, mark]
    rw [if_neg (by omega)]
    exact ih
section
variable {l : List Cn} (hok : ok l) (hf : flat l = true)
include hok hf
end
end Go.Proofs.Ytboogdkkcepifaa.Cs
