/- slices.Grow and Concat over slices of atoms. -/
import Derived.Test.YtmmhcpigcdlnmaaJoin
import Derived.Test.YtmmhcpigcdlnmaaNOk2

namespace Go.Proofs.Ytmmhcpigcdlnmaa
open Go.RowKit

/-- a call gives back a slice of tokens of its own that is not nil -/
def ResAt (w : World) (l : List (Int × Int)) (e : Ending) (w' : World) : Prop :=
  ∃ g c, e = .returned (.slice (some ⟨g, 0, none⟩) l.length c) ∧ OwnA w' w.heap.size (some ⟨g, 0, none⟩) l.length c l ∧ Below w.heap.size w w'

end Go.Proofs.Ytmmhcpigcdlnmaa
