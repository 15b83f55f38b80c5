/- The machine's loop over the tokens, and its run: the plain function on lists, or the panic. -/
import Derived.Test.YtfmhmnpmdjpmeaaBase

namespace Go.Proofs.Ytfmhmnpmdjpmeaa
open Go.RowKit

theorem run_store_fn (P : Program) (w : World) (a : Addr) (m : Mode) (fn : Fn) (first cap : Array Value) : (store a (.func fn first cap) m).run P w = stored P w a (.func fn first cap) m := run_store P w a _ m rfl
attribute [local go_sem] run_store_fn

end Go.Proofs.Ytfmhmnpmdjpmeaa
