/- slices.Repeat of one token, up to a thousand times. -/
import Derived.Test.YtijiohdddfdjfaaDoorSlc
namespace Go.Proofs.YtijiohdddfdjfaaDoor
open Go.RowKit

end Go.Proofs.YtijiohdddfdjfaaDoor
