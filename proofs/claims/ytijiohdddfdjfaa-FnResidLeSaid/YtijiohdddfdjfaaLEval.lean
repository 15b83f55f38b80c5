/- LevelEval and LevelOk, for every argument. -/
import Derived.Test.YtijiohdddfdjfaaEval
import Derived.Laws.CopyOwn
import Derived.Defers
namespace Go.Proofs.Ytijiohdddfdjfaa
open Go.RowKit

/-- LevelEval's answer -/
def evalR (env : List Int) (l : List (Int × Int)) : Option Int := if envOk env = true then Lv.eval env l else none

/-- an answer as the pair of its values -/
def evalV : Option Int → Value
  | some v => .tuple #[.int .i64 v, .bool true]
  | none => .tuple #[.int .i64 0, .bool false]

end Go.Proofs.Ytijiohdddfdjfaa
