/- LevelSubst of the reference model. -/
import Derived.Test.YtgbdojenenfgfaaDoorSubst
namespace Go.Proofs.YtgbdojenenfgfaaDoor
open Go.RowKit

end Go.Proofs.YtgbdojenenfgfaaDoor
