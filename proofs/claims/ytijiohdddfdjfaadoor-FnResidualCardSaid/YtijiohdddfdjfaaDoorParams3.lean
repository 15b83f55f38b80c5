/- LevelParams of the reference model. -/
import Derived.Test.YtijiohdddfdjfaaDoorParams2
namespace Go.Proofs.YtijiohdddfdjfaaDoor
open Go.RowKit

end Go.Proofs.YtijiohdddfdjfaaDoor
