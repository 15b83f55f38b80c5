/- NormUp, put together. -/
import Derived.Test.YtijiohdddfdjfaaDoorNUp
namespace Go.Proofs.YtijiohdddfdjfaaDoor
open Go.RowKit

theorem ok_small {l : List (Int × Int)} (h : Nm.AllOk l) : Small l := fun j hj => by have := (Nm.atOk_iff _).1 (h j hj); omega
theorem normUp_no {l : List (Int × Int)} {x : Int} (h : ¬ (Nm.normOk l = true ∧ 0 ≤ x ∧ x ≤ 1000 ∧ Nm.normOk (Nm.up x l) = true)) : Nm.normUp l x = none := if_neg h
theorem normUp_yes {l : List (Int × Int)} {x : Int} (h : Nm.normOk l = true ∧ 0 ≤ x ∧ x ≤ 1000 ∧ Nm.normOk (Nm.up x l) = true) : Nm.normUp l x = some (Nm.up x l) := if_pos h
theorem up_len (l : List (Int × Int)) (x : Int) : (Nm.up x l).length = l.length := by simp [Nm.up]

/-- the first j of the atoms are raised -/
def Half (l m : List (Int × Int)) (x : Int) (j : Nat) : Prop := m.length = l.length ∧ ∀ i, i < l.length → m.getD i (0, 0) = if i < j then ((l.getD i (0, 0)).1, (l.getD i (0, 0)).2 + x) else l.getD i (0, 0)
theorem half_start (l : List (Int × Int)) (x : Int) : Half l l x 0 := ⟨rfl, fun i _ => by simp⟩
theorem half_step {l m : List (Int × Int)} {x : Int} {j : Nat} (h : Half l m x j) (hj : j < l.length) {p y : Int} (hp : l.getD j (0, 0) = (p, y)) : Half l (m.set j (p, y + x)) x (j + 1) := by
  refine ⟨by rw [List.length_set]; exact h.1, fun i hi => ?_⟩
  by_cases e : i = j
  · subst e
    rw [if_pos (by omega), hp]
    simp [List.getD_eq_getElem?_getD, h.1, hj]
  · have := h.2 i hi
    rw [List.getD_eq_getElem?_getD, List.getElem?_set_ne (by omega), ← List.getD_eq_getElem?_getD, this]
    by_cases hij : i < j
    · rw [if_pos hij, if_pos (by omega)]
    · rw [if_neg hij, if_neg (by omega)]
theorem half_end {l m : List (Int × Int)} {x : Int} (h : Half l m x l.length) : m = Nm.up x l := by
  apply List.ext_getElem (by rw [up_len]; exact h.1)
  intro i h1 h2
  have := h.2 i (by rw [← h.1]; exact h1)
  rw [if_pos (by rw [← h.1]; exact h1)] at this
  have hl : i < l.length := by rw [← h.1]; exact h1
  simpa [Nm.up, List.getD_eq_getElem?_getD, List.getElem?_eq_getElem h1, List.getElem?_eq_getElem hl] using this
theorem half_at {l m : List (Int × Int)} {x : Int} {j : Nat} (h : Half l m x j) (hj : j < l.length) : m[j]? = some (l.getD j (0, 0)) := by
  have := h.2 j hj
  rw [if_neg (by omega)] at this
  rw [← this, List.getD_eq_getElem?_getD, List.getElem?_eq_getElem (by rw [h.1]; exact hj)]
  rfl

end Go.Proofs.YtijiohdddfdjfaaDoor
