/- The model's cursor: environments; the draw of LevelEval. -/
import Derived.Test.YtgbdojenenfgfaaDoorFnPar
namespace Go.Proofs.YtgbdojenenfgfaaDoor
open Go.RowKit

end Go.Proofs.YtgbdojenenfgfaaDoor
