/- The laws' own helpers on slices of tokens: sizes, copies, comparison. -/
import Derived.Test.YtgbdojenenfgfaaMem
namespace Go.Proofs.Ytgbdojenenfgfaa
open Go.RowKit

end Go.Proofs.Ytgbdojenenfgfaa
