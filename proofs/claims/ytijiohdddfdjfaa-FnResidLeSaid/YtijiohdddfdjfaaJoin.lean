/- LevelJoin of the program and of the reference model. -/
import Derived.Test.YtijiohdddfdjfaaSucc
namespace Go.Proofs.Ytijiohdddfdjfaa
open Go.RowKit

/-- LevelJoin's answer -/
def joinR (op : Int) (a b : List (Int × Int)) : Option (List (Int × Int)) :=
  if (op = 2 ∨ op = 3) ∧ Lv.levelOk a = true ∧ Lv.levelOk b = true then ifR (a ++ (b ++ [(op, 0)])) else none

theorem ok_len {l : List (Int × Int)} {n : Nat} (h : Lv.levelOk l = true) (hn : l.length = n) : 1 ≤ n ∧ n ≤ 24 := by
  simp [Lv.levelOk] at h
  omega

end Go.Proofs.Ytijiohdddfdjfaa
