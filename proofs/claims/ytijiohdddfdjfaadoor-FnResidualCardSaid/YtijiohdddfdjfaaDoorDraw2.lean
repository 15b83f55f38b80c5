/- The model's cursor: environments; the draw of LevelEval. -/
import Derived.Test.YtijiohdddfdjfaaDoorFnPar
namespace Go.Proofs.YtijiohdddfdjfaaDoor
open Go.RowKit

end Go.Proofs.YtijiohdddfdjfaaDoor
