/- NormMax of the program and of the reference model. -/
import Derived.Test.YtmmhcpigcdlnmaaNOf

namespace Go.Proofs.Ytmmhcpigcdlnmaa
open Go.RowKit

theorem normMax_no {a b : List (Int × Int)} (h : ¬ (Nm.normOk a = true ∧ Nm.normOk b = true)) : Nm.normMax a b = none := if_neg h
theorem normMax_yes {a b : List (Int × Int)} (h : Nm.normOk a = true ∧ Nm.normOk b = true) : Nm.normMax a b = some (Nm.norm (a ++ b)) := if_pos h

theorem partsA {w2 : World} {B : Nat} {q0 q1 : Addr} {n0 c0 n1 c1 : Nat} {l0 l1 : List (Int × Int)} (hB : B ≤ w2.heap.size) (h0 : TokA w2 B q0 l0) (h1 : TokA w2 B q1 l1) (e0 : l0.length = n0) (e1 : l1.length = n1) :
    Parts (w2.alloc (.cells #[.slice (some q0) n0 c0, .slice (some q1) n1 c1] 59)) (w2.heap.size + 1) w2.heap.size (fun i => if i = 0 then q0 else q1) (fun i => if i = 0 then c0 else c1) [l0, l1] := by
  have hba : Below B w2 (w2.alloc (.cells #[.slice (some q0) n0 c0, .slice (some q1) n1 c1] 59)) := (Below.refl _ _).alloc hB _
  have hbk := Blk.made w2 59 #[.slice (some q0) n0 c0, .slice (some q1) n1 c1]
  refine ⟨by omega, fun i hi => ?_⟩
  have hi2 : i = 0 ∨ i = 1 := by simp at hi; omega
  rcases hi2 with rfl | rfl
  · exact ⟨(hbk.cell 0).trans (by simp [e0]), ((h0.below hba).more (B' := w2.heap.size + 1) (by omega)).1, (h0.below hba).2⟩
  · exact ⟨(hbk.cell 1).trans (by simp [e1]), ((h1.below hba).more (B' := w2.heap.size + 1) (by omega)).1, (h1.below hba).2⟩

end Go.Proofs.Ytmmhcpigcdlnmaa
