/- The model's cursor: atoms, norms and norms that may be bad. -/
/- The model's cursor: norms that may be bad. -/
import Derived.Test.YtmmhcpigcdlnmaaDraw1
import Derived.Test.YtmmhcpigcdlnmaaNNorm
import Derived.Test.YtmmhcpigcdlnmaaNOk2

namespace Go.Proofs.Ytmmhcpigcdlnmaa
open Go.RowKit

theorem own_putA {w : World} {base g n c j : Nat} {l : List (Int × Int)} (h : OwnA w base (some ⟨g, 0, none⟩) n c l) (hj : j < n * 2) (v : Int) :
    ∃ l' : List (Int × Int), l'.length = l.length ∧ OwnA (w.setCell ⟨g, j, none⟩ (.int .i64 v)) base (some ⟨g, 0, none⟩) n c l' := by
  obtain ⟨hlen, hc⟩ := h
  have hl : l.length = n := by rw [tokCells_len] at hlen; omega
  rcases hc with ⟨h0, _⟩ | ⟨g', cap, cur, hv, hb, hh, hnc, hm, hs, ht⟩
  · cases h0
  · injection hv with hv1 hv2 hv3
    injection hv1 with hv1
    injection hv1 with hv1
    subst hv1 hv3
    have hblk : Blk w g 57 cur := hh
    have key : ∀ l' : List (Int × Int), l'.length = n → tokCells l' = (tokCells l).set j (.int .i64 v) → OwnA (w.setCell ⟨g, j, none⟩ (.int .i64 v)) base (some ⟨g, 0, none⟩) n c l' := by
      intro l' hl' ht'
      refine ⟨by rw [tokCells_len, hl'], .inr ⟨g, c, _, rfl, hb, hblk.put j _, hnc, hm, by simp [hs], ?_⟩⟩
      rw [Array.toList_setIfInBounds, List.take_set, ht, ht']
    rcases Nat.mod_two_eq_zero_or_one j with h0 | h0
    · obtain ⟨k, rfl⟩ : ∃ k, j = k * 2 := ⟨j / 2, by omega⟩
      exact ⟨l.set k (v, (l.getD k (0, 0)).2), by simp, key _ (by simp [hl]) (tokCells_setC l k v (by omega)).1⟩
    · obtain ⟨k, rfl⟩ : ∃ k, j = k * 2 + 1 := ⟨j / 2, by omega⟩
      exact ⟨l.set k ((l.getD k (0, 0)).1, v), by simp, key _ (by simp [hl]) (tokCells_setC l k v (by omega)).2⟩
theorem own_spotA {w : World} {base g n c j : Nat} {l : List (Int × Int)} (h : OwnA w base (some ⟨g, 0, none⟩) n c l) (hj : j < n * 2) : (∃ v, w.cell? ⟨g, j, none⟩ = some v) ∧ w.frozen? ⟨g, j, none⟩ = false := by
  obtain ⟨_, hc⟩ := h
  rcases hc with ⟨h0, _⟩ | ⟨g', cap, cur, hv, hb, hh, hnc, hm, hs, ht⟩
  · cases h0
  · injection hv with hv1 hv2 hv3
    injection hv1 with hv1
    injection hv1 with hv1
    subst hv1
    have hblk : Blk w g 57 cur := hh
    have : n * 2 ≤ cap * 2 := Nat.mul_le_mul_right 2 hnc
    exact ⟨⟨_, (hblk.cell j).trans (Array.getElem?_eq_getElem (by omega))⟩, hblk.thawed j⟩

end Go.Proofs.Ytmmhcpigcdlnmaa

namespace Go.Proofs.Ytmmhcpigcdlnmaa
open Go.RowKit

/-- what a draw of atoms gives -/
def DrewA (lo hi bc : Nat) (A : Option Addr) (n c K : Nat) (w : World) (e : Ending) (w' : World) : Prop :=
  ∃ g cap l, e = .returned (.slice (some ⟨g, 0, none⟩) l.length cap) ∧ lo ≤ l.length ∧ l.length ≤ hi ∧ OwnA w' w.heap.size (some ⟨g, 0, none⟩) l.length cap l ∧ Cur w' bc A n c K ∧ Kp bc w w'

end Go.Proofs.Ytmmhcpigcdlnmaa
