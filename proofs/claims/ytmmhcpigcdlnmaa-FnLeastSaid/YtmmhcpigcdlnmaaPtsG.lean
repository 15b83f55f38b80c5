/- Two appends of parts of a row in a drawn region: what goes along. -/
import Derived.Test.YtmmhcpigcdlnmaaCsErase
import Derived.Test.YtmmhcpigcdlnmaaRegInv2

namespace Go.Proofs.Ytmmhcpigcdlnmaa
open Go.RowKit
open Cs (Cn)

/-- the row that is being made: empty, with the first part, with both -/
structure PtsG (a b e : Nat) (W : World) (L : List Cn) (M i : Nat) (d : Nat → Bool) (f : Nat → Value) (w : World) : Prop where
  bel : Below W.heap.size W w
  p0 : d 0 = true → d 4 = false → ∃ h, f a = .slice (some ⟨h, 0, none⟩) 0 0 ∧ OwnC w W.heap.size (some ⟨h, 0, none⟩) 0 0 []
  p4 : d 4 = true → d 9 = false → ∃ h c, f b = .slice (some ⟨h, 0, none⟩) i c ∧ OwnC w W.heap.size (some ⟨h, 0, none⟩) i c (L.take i)
  p9 : d 9 = true → ∃ h c, f e = .slice (some ⟨h, 0, none⟩) (M - 1) c ∧ OwnC w W.heap.size (some ⟨h, 0, none⟩) (M - 1) c (L.eraseIdx i)
section
variable {a b e M i j : Nat} {W w w' : World} {L : List Cn} {d : Nat → Bool} {f : Nat → Value} {o : Option Nat} {v : Value}
theorem PtsG.step (h : PtsG a b e W L M i d f w) (hb : Below w.heap.size w w') (j0 : j ≠ 0) (j4 : j ≠ 4) (j9 : j ≠ 9) (oa : o ≠ some a) (ob : o ≠ some b) (oe : o ≠ some e) : PtsG a b e W L M i (mark d j) (upd f o v) w' := by
  refine ⟨h.bel.trans (hb.mono h.bel.size), fun e0 e4 => ?_, fun e4 e9 => ?_, fun e9 => ?_⟩
  · rw [mark_eq j0] at e0; rw [mark_eq j4] at e4
    obtain ⟨q, h1, h2⟩ := h.p0 e0 e4
    exact ⟨q, (upd_other f v oa).trans h1, own_below' h2 hb⟩
  · rw [mark_eq j4] at e4; rw [mark_eq j9] at e9
    obtain ⟨q, c, h1, h2⟩ := h.p4 e4 e9
    exact ⟨q, c, (upd_other f v ob).trans h1, own_below' h2 hb⟩
  · rw [mark_eq j9] at e9
    obtain ⟨q, c, h1, h2⟩ := h.p9 e9
    exact ⟨q, c, (upd_other f v oe).trans h1, own_below' h2 hb⟩
theorem PtsG.same (h : PtsG a b e W L M i d f w) (j0 : j ≠ 0) (j4 : j ≠ 4) (j9 : j ≠ 9) (oa : o ≠ some a) (ob : o ≠ some b) (oe : o ≠ some e) : PtsG a b e W L M i (mark d j) (upd f o v) w := h.step (Below.refl _ _) j0 j4 j9 oa ob oe
theorem PtsG.first (h : PtsG a b e W L M i d f w) (d4 : d 4 = false) (d9 : d 9 = false) : PtsG a b e W L M i (mark d 0) (upd f (some a) (.slice (some ⟨w.heap.size, 0, none⟩) 0 0)) (w.alloc (.cells #[] 34)) := by
  refine ⟨h.bel.alloc h.bel.size _, fun _ _ => ⟨w.heap.size, upd_same _ _ _, World.ownsRow_made w #[] 0 h.bel.size (by simp [maxLen]) (by simp)⟩, fun e4 => ?_, fun e9 => ?_⟩
  · rw [mark_eq (by decide), d4] at e4; cases e4
  · rw [mark_eq (by decide), d9] at e9; cases e9
theorem PtsG.second {q c : Nat} (d9 : d 9 = false) (hb : Below W.heap.size W w') (ho : OwnC w' W.heap.size (some ⟨q, 0, none⟩) i c (L.take i)) : PtsG a b e W L M i (mark d 4) (upd f (some b) (.slice (some ⟨q, 0, none⟩) i c)) w' := by
  refine ⟨hb, fun _ e4 => ?_, fun _ _ => ⟨q, c, upd_same _ _ _, ho⟩, fun e9 => ?_⟩
  · rw [mark_self] at e4; cases e4
  · rw [mark_eq (by decide), d9] at e9; cases e9
theorem PtsG.third {q c : Nat} (d4 : d 4 = true) (hb : Below W.heap.size W w') (ho : OwnC w' W.heap.size (some ⟨q, 0, none⟩) (M - 1) c (L.eraseIdx i)) : PtsG a b e W L M i (mark d 9) (upd f (some e) (.slice (some ⟨q, 0, none⟩) (M - 1) c)) w' := by
  refine ⟨hb, fun _ e4 => ?_, fun _ e9 => ?_, fun _ => ⟨q, c, upd_same _ _ _, ho⟩⟩
  · rw [mark_eq (by decide), d4] at e4; cases e4
  · rw [mark_self] at e9; cases e9
end
end Go.Proofs.Ytmmhcpigcdlnmaa
