/- LevelLe, LevelLess and LevelEq of the reference model. -/
import Derived.Test.YtghoofgfimeedaaGreatDoorDcMath4
import Derived.Test.YtghoofgfimeedaaGreatDoorRLe2
import Derived.Test.YtghoofgfimeedaaGreatDoorSRes2
import Derived.Test.YtghoofgfimeedaaGreatDoorNUp

namespace Go.Proofs.YtghoofgfimeedaaGreatDoor
open Go.RowKit

theorem Dc.leR_no {a b : List (Int × Int)} (h : ¬ (Lv.levelOk a = true ∧ Lv.levelOk b = true)) : Dc.leR a b = false := by
  cases e : Dc.leR a b with
  | false => rfl
  | true => exact absurd ⟨((Dc.leR_iff a b).1 e).1, ((Dc.leR_iff a b).1 e).2.1⟩ h
theorem Dc.lessR_no {a b : List (Int × Int)} (h : ¬ (Lv.levelOk a = true ∧ Lv.levelOk b = true)) : Dc.lessR a b = false := by
  cases e : Dc.lessR a b with
  | false => rfl
  | true => exact absurd ⟨((Dc.lessR_iff a b).1 e).1, ((Dc.lessR_iff a b).1 e).2.1⟩ h
theorem Dc.resid_up {a : List (Int × Int)} {s : Int} (ha : Lv.levelOk a = true) : Nm.resid s (Nm.up 1 (Nm.rnorm (Nm.wl s a))) = Nm.rnorm (Nm.up 1 (Nm.rnorm (Nm.wl s a))) := by
  unfold Nm.resid
  rw [Nm.pl_self (((Dc.wl_fine2 (s := s) ha).2.1.rnorm).up 1)]

end Go.Proofs.YtghoofgfimeedaaGreatDoor
