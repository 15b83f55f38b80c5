/- Residuals as lists of pairs: what is right for a sign, and what is at most what. -/
import Derived.Test.YtmmhcpigcdlnmaaSgMath

namespace Go.Proofs.Ytmmhcpigcdlnmaa

namespace Nm
/-- a residual for a sign -/
def ROk (s : Int) (l : List At) : Prop := Sg.isSign s = true ∧ 1 ≤ l.length ∧ AllOk l ∧ Incr l ∧ (∀ k, k < l.length → (l.getD k (0, 0)).1 = -1 ∨ Sg.has s (l.getD k (0, 0)).1 = true) ∧ ((l.getD 0 (0, 0)).1 = -1 → Exceeds ((l.getD 0 (0, 0)).2 - 1) (l.drop 1))
open Classical in
noncomputable def residOk (s : Int) (l : List At) : Bool := decide (ROk s l)
theorem residOk_iff (s : Int) (l : List At) : residOk s l = true ↔ ROk s l := by simp [residOk]
theorem residOk_no {s : Int} {l : List At} (h : ¬ ROk s l) : residOk s l = false := by simp [residOk, h]
end Nm
end Go.Proofs.Ytmmhcpigcdlnmaa
