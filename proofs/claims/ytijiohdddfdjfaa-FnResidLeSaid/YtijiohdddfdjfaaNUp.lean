/- NormUp of the program and of the reference model. -/
import Derived.Test.YtijiohdddfdjfaaNOk2
import Derived.Test.YtijiohdddfdjfaaNOk3
import Derived.Test.YtijiohdddfdjfaaSlc
import Derived.Deep.AppendLies
namespace Go.Proofs.Ytijiohdddfdjfaa
open Go.RowKit

/-- a call gives back a slice of atoms of its own and a bool -/
def ResA (w : World) (R : Option (List (Int × Int))) (e : Ending) (w' : World) : Prop :=
  ∃ A c, e = .returned (.tuple #[.slice A (R.getD []).length c, .bool R.isSome]) ∧ OwnA w' w.heap.size A (R.getD []).length c (R.getD []) ∧ Below w.heap.size w w'
theorem resA_none {w w' : World} (hb : Below w.heap.size w w') : ResA w none (.returned (.tuple #[.slice none 0 0, .bool false])) w' := ⟨none, 0, rfl, World.ownsRow_nil _ _ _ _, hb⟩

theorem own_put {w : World} {base g n c size : Nat} {e : TypeId} {xs : List Value} (h : w.ownsRow base e size (.slice (some ⟨g, 0, none⟩) n c) n xs) (i : Nat) (u : Value) :
    (w.setCell ⟨g, i, none⟩ u).ownsRow base e size (.slice (some ⟨g, 0, none⟩) n c) n (xs.set i u) := by
  refine ⟨by rw [List.length_set]; exact h.1, ?_⟩
  rcases h.2 with ⟨h0, _⟩ | ⟨g', cap, cur, hv, hb, hgg, h1, h2, h3, h4⟩
  · cases h0
  · injection hv with e1 e2 e3
    injection e1 with e1
    injection e1 with e1
    subst e1; subst e3
    refine .inr ⟨g, c, _, rfl, hb, Blk.put (w := w) (t := e) hgg i u, h1, h2, by simp [h3], ?_⟩
    rw [Array.toList_setIfInBounds, List.take_set, h4]
theorem tokCells_set (l : List (Int × Int)) (j : Nat) (p x y : Int) (h : l[j]? = some (p, x)) : tokCells (l.set j (p, y)) = (tokCells l).set (j * 2 + 1) (.int .i64 y) := by
  induction l generalizing j with
  | nil => simp at h
  | cons t r ih =>
    cases j with
    | zero =>
      simp at h
      subst h
      rfl
    | succ j =>
      rw [List.set_cons_succ, tokCells_cons, tokCells_cons, ih j (by simpa using h), show (j + 1) * 2 + 1 = j * 2 + 1 + 1 + 1 by omega, List.set_cons_succ, List.set_cons_succ]

theorem up_take (k : Int) (l : List (Int × Int)) (j : Nat) (hj : j < l.length) : Nm.up k (l.take (j + 1)) = Nm.up k (l.take j) ++ [((l.getD j (0, 0)).1, (l.getD j (0, 0)).2 + k)] := by
  have e : l.getD j (0, 0) = l[j] := by simp [List.getD_eq_getElem?_getD, List.getElem?_eq_getElem hj]
  rw [List.take_succ_eq_append_getElem hj, e]
  unfold Nm.up
  rw [List.map_append]
  rfl
/-- Offs that a number of this size may be added to -/
def Small (l : List (Int × Int)) : Prop := ∀ j, j < l.length → 0 ≤ (l.getD j (0, 0)).2 ∧ (l.getD j (0, 0)).2 ≤ 1000000

end Go.Proofs.Ytijiohdddfdjfaa
