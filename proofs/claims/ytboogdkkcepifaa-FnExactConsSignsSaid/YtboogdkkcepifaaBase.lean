/- The machine's struct with its stack. -/
import Derived.Test.YtboogdkkcepifaaMem
namespace Go.Proofs.Ytboogdkkcepifaa
open Go.RowKit

section
variable {w w' w'' : World}
end

/-- the cells of the machine's struct -/
def machCells (env : List Int) (sv : Value) : Array Value := (env.map (Value.int .i64) ++ [sv]).toArray

theorem mach_stack (env : List Int) (sv : Value) (h : env.length = 5) : (machCells env sv)[5]? = some sv := by
  simp [machCells, h]
theorem mach_env (env : List Int) (sv : Value) (h : env.length = 5) (i : Nat) (hi : i < 5) : (machCells env sv)[i]? = some (.int .i64 (env.getD i 0)) := by
  have hl : i < env.length := by omega
  simp [machCells, List.getElem?_append, hl]
theorem mach_put (env : List Int) (sv sv' : Value) (h : env.length = 5) : (machCells env sv).setIfInBounds 5 sv' = machCells env sv' := by
  simp [machCells, h]

/-- what the variable errLevel holds -/
def ErrAt (w : World) (T : TypeId) (pv : Value) : Prop := w.cell? ⟨0, 0, none⟩ = some (.iface T pv)
theorem ErrAt.below {w w' : World} {B : Nat} {T : TypeId} {pv : Value} (h : ErrAt w T pv) (hb : Below B w w') (hB : 0 < B) : ErrAt w' T pv := (hb.cell (p := ⟨0, 0, none⟩) hB).trans h

end Go.Proofs.Ytboogdkkcepifaa
