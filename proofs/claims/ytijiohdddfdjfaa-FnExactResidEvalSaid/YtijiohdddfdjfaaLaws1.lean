/- The laws' own helpers on slices of tokens: sizes, copies, comparison. -/
import Derived.Test.YtijiohdddfdjfaaMem
namespace Go.Proofs.Ytijiohdddfdjfaa
open Go.RowKit

end Go.Proofs.Ytijiohdddfdjfaa
