/- ResidLe of the reference model (written by tools/mkrle.py). -/
import Derived.Test.YtghoofgfimeedaaGreatDoorRLe
import Derived.Test.YtghoofgfimeedaaGreatDoorROk2

namespace Go.Proofs.YtghoofgfimeedaaGreatDoor
open Go.RowKit

open Classical in
/-- some of the first k atoms of m serves for x -/
noncomputable def rheldB (x : Int × Int) (m : List (Int × Int)) (k : Nat) : Bool := decide (∃ j, j < k ∧ Nm.RFits x (m.getD j (0, 0)))
theorem rheldB_zero (x : Int × Int) (m : List (Int × Int)) : rheldB x m 0 = false := by simp [rheldB]
theorem rheldB_yes {x : Int × Int} {m : List (Int × Int)} {k : Nat} (h : Nm.RFits x (m.getD k (0, 0))) : rheldB x m (k + 1) = true := by
  simp only [rheldB, decide_eq_true_eq]; exact ⟨k, by omega, h⟩
theorem rheldB_had {x : Int × Int} {m : List (Int × Int)} {k : Nat} (h : rheldB x m k = true) : rheldB x m (k + 1) = true := by
  simp only [rheldB, decide_eq_true_eq] at h ⊢
  obtain ⟨j, hj, hh⟩ := h
  exact ⟨j, by omega, hh⟩
theorem rheldB_no {x : Int × Int} {m : List (Int × Int)} {k : Nat} (h : rheldB x m k = false) (hn : ¬ Nm.RFits x (m.getD k (0, 0))) : rheldB x m (k + 1) = false := by
  simp only [rheldB, decide_eq_false_iff_not] at h ⊢
  rintro ⟨j, hj, hh⟩
  by_cases e : j = k
  · subst e; exact hn hh
  · exact h ⟨j, by omega, hh⟩
theorem rheldB_all (x : Int × Int) (m : List (Int × Int)) : rheldB x m m.length = true ↔ Nm.ratomLe x m := by
  simp only [rheldB, decide_eq_true_eq]
  exact Iff.rfl

end Go.Proofs.YtghoofgfimeedaaGreatDoor
