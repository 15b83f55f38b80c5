/- ResidLe of the program (written by tools/mkrle.py). -/
import Derived.Test.YtmmhcpigcdlnmaaROk

namespace Go.Proofs.Ytmmhcpigcdlnmaa
open Go.RowKit

namespace Nm
/-- the atom y serves for x where positive parameters are at least 1 -/
def RFits (x y : At) : Prop := x.1 = y.1 ∧ x.2 ≤ y.2 ∨ x.1 = -1 ∧ 0 ≤ y.1 ∧ x.2 ≤ y.2 + 1
/-- some atom of b serves for x -/
def ratomLe (x : At) (b : List At) : Prop := ∃ k, k < b.length ∧ RFits x (b.getD k (0, 0))
open Classical in
noncomputable def ratomLeB (x : At) (b : List At) : Bool := decide (ratomLe x b)
theorem ratomLeB_iff (x : At) (b : List At) : ratomLeB x b = true ↔ ratomLe x b := by simp [ratomLeB]
theorem ratomLeB_no {x : At} {b : List At} (h : ¬ ratomLe x b) : ratomLeB x b = false := by simp [ratomLeB, h]
open Classical in
noncomputable def residLe (s : Int) (a b : List At) : Bool := decide (ROk s a ∧ ROk s b ∧ ∀ k, k < a.length → ratomLe (a.getD k (0, 0)) b)
theorem residLe_iff (s : Int) (a b : List At) : residLe s a b = true ↔ ROk s a ∧ ROk s b ∧ ∀ k, k < a.length → ratomLe (a.getD k (0, 0)) b := by simp [residLe]
theorem residLe_no {s : Int} {a b : List At} (h : ¬ (ROk s a ∧ ROk s b ∧ ∀ k, k < a.length → ratomLe (a.getD k (0, 0)) b)) : residLe s a b = false := by
  simp only [residLe, decide_eq_false_iff_not]; exact h
theorem residLe_notA {s : Int} {a b : List At} (h : residOk s a = false) : residLe s a b = false :=
  residLe_no (fun hh => by rw [(residOk_iff s a).2 hh.1] at h; cases h)
theorem residLe_notB {s : Int} {a b : List At} (h : residOk s b = false) : residLe s a b = false :=
  residLe_no (fun hh => by rw [(residOk_iff s b).2 hh.2.1] at h; cases h)
end Nm

end Go.Proofs.Ytmmhcpigcdlnmaa
