/- LevelParams of the program and of the reference model. -/
import Derived.Test.YtijiohdddfdjfaaDoorParams
namespace Go.Proofs.YtijiohdddfdjfaaDoor
open Go.RowKit

/-- the parameters below p that stand in l -/
def prmsTo (l : List (Int × Int)) (p : Nat) : List Int := ((List.range p).filter fun q => decide ((4, ((q : Nat) : Int)) ∈ l)).map Int.ofNat
def prms (l : List (Int × Int)) : List Int := if Lv.levelOk l = true then prmsTo l 5 else []
theorem prmsTo_zero (l : List (Int × Int)) : prmsTo l 0 = [] := rfl
theorem prmsTo_yes {l : List (Int × Int)} {p : Nat} (h : (4, (p : Int)) ∈ l) : prmsTo l (p + 1) = prmsTo l p ++ [(p : Int)] := by
  simp [prmsTo, List.range_succ, List.filter_append, h]
theorem prmsTo_no {l : List (Int × Int)} {p : Nat} (h : (4, (p : Int)) ∉ l) : prmsTo l (p + 1) = prmsTo l p := by
  simp [prmsTo, List.range_succ, List.filter_append, h]
theorem prmsTo_len (l : List (Int × Int)) (p : Nat) : (prmsTo l p).length ≤ p := by
  simp only [prmsTo, List.length_map]
  exact Nat.le_trans (List.length_filter_le _ _) (by simp)

/-- a call gives back a slice of numbers of its own -/
def ResI (w : World) (l : List Int) (e : Ending) (w' : World) : Prop :=
  ∃ A c, e = .returned (.slice A l.length c) ∧ OwnI w' w.heap.size A l.length c l ∧ Below w.heap.size w w'

end Go.Proofs.YtijiohdddfdjfaaDoor
