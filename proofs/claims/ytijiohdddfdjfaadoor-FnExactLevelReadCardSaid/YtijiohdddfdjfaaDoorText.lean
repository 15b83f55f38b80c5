/- LevelText of the program. -/
import Derived.Test.YtijiohdddfdjfaaDoorText0
namespace Go.Proofs.YtijiohdddfdjfaaDoor
open Go.RowKit

end Go.Proofs.YtijiohdddfdjfaaDoor
