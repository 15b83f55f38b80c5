/- LevelOff of the program and of the reference model; the law of LevelOff. -/
import Derived.Test.YtijiohdddfdjfaaDoorLaws2
import Derived.Test.YtijiohdddfdjfaaDoorSpec
namespace Go.Proofs.YtijiohdddfdjfaaDoor
open Go.RowKit

end Go.Proofs.YtijiohdddfdjfaaDoor
