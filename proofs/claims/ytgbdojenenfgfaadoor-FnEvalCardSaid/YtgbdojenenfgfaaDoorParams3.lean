/- LevelParams of the reference model. -/
import Derived.Test.YtgbdojenenfgfaaDoorParams2
namespace Go.Proofs.YtgbdojenenfgfaaDoor
open Go.RowKit

end Go.Proofs.YtgbdojenenfgfaaDoor
