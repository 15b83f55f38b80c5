/- The laws' own helpers on slices of tokens: sizes, copies, comparison. -/
import Derived.Test.YtboogdkkcepifaaMem
namespace Go.Proofs.Ytboogdkkcepifaa
open Go.RowKit

end Go.Proofs.Ytboogdkkcepifaa
