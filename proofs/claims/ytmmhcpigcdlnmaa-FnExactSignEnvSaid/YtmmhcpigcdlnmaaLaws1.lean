/- The laws' own helpers on slices of tokens: sizes, copies, comparison. -/
import Derived.Test.YtmmhcpigcdlnmaaMem
namespace Go.Proofs.Ytmmhcpigcdlnmaa
open Go.RowKit

end Go.Proofs.Ytmmhcpigcdlnmaa
