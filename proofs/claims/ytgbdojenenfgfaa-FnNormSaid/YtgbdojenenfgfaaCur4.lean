/- The model's cursor: levels that may be bad. -/
import Derived.Test.YtgbdojenenfgfaaCur3
namespace Go.Proofs.Ytgbdojenenfgfaa
open Go.RowKit

theorem tokCells_setC (l : List (Int × Int)) : ∀ (i : Nat) (v : Int), i < l.length →
    tokCells (l.set i (v, (l.getD i (0, 0)).2)) = (tokCells l).set (i * 2) (.int .i64 v) ∧ tokCells (l.set i ((l.getD i (0, 0)).1, v)) = (tokCells l).set (i * 2 + 1) (.int .i64 v) := by
  induction l with
  | nil => intro i v h; simp at h
  | cons t r ih =>
    intro i v h
    cases i with
    | zero => simp [tokCells_cons]
    | succ i =>
      have := ih i v (by simpa using h)
      rw [show (i + 1) * 2 = i * 2 + 1 + 1 by omega]
      simp only [List.set_cons_succ, tokCells_cons, List.getD_cons_succ, this.1, this.2]
      exact ⟨trivial, trivial⟩

def lenOf : Value → Nat
  | .slice _ n _ => n
  | _ => 0
end Go.Proofs.Ytgbdojenenfgfaa
