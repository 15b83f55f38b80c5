/- The model's cursor: atoms, norms and norms that may be bad. -/
import Derived.Test.YtijiohdddfdjfaaDraw1
import Derived.Test.YtijiohdddfdjfaaNNorm
import Derived.Test.YtijiohdddfdjfaaNOk2
namespace Go.Proofs.Ytijiohdddfdjfaa
open Go.RowKit

theorem own_putA {w : World} {base g n c j : Nat} {l : List (Int × Int)} (h : OwnA w base (some ⟨g, 0, none⟩) n c l) (hj : j < n * 2) (v : Int) :
    ∃ l' : List (Int × Int), l'.length = l.length ∧ OwnA (w.setCell ⟨g, j, none⟩ (.int .i64 v)) base (some ⟨g, 0, none⟩) n c l' := by
  obtain ⟨hlen, hc⟩ := h
  have hl : l.length = n := by rw [tokCells_len] at hlen; omega
  rcases hc with ⟨h0, _⟩ | ⟨g', cap, cur, hv, hb, hh, hnc, hm, hs, ht⟩
  · cases h0
  · injection hv with hv1 hv2 hv3
    injection hv1 with hv1
    injection hv1 with hv1
    subst hv1 hv3
    have hblk : Blk w g 30 cur := hh
    have key : ∀ l' : List (Int × Int), l'.length = n → tokCells l' = (tokCells l).set j (.int .i64 v) → OwnA (w.setCell ⟨g, j, none⟩ (.int .i64 v)) base (some ⟨g, 0, none⟩) n c l' := by
      intro l' hl' ht'
      refine ⟨by rw [tokCells_len, hl'], .inr ⟨g, c, _, rfl, hb, hblk.put j _, hnc, hm, by simp [hs], ?_⟩⟩
      rw [Array.toList_setIfInBounds, List.take_set, ht, ht']
    rcases Nat.mod_two_eq_zero_or_one j with h0 | h0
    · obtain ⟨k, rfl⟩ : ∃ k, j = k * 2 := ⟨j / 2, by omega⟩
      exact ⟨l.set k (v, (l.getD k (0, 0)).2), by simp, key _ (by simp [hl]) (tokCells_setC l k v (by omega)).1⟩
    · obtain ⟨k, rfl⟩ : ∃ k, j = k * 2 + 1 := ⟨j / 2, by omega⟩
      exact ⟨l.set k ((l.getD k (0, 0)).1, v), by simp, key _ (by simp [hl]) (tokCells_setC l k v (by omega)).2⟩
theorem own_spotA {w : World} {base g n c j : Nat} {l : List (Int × Int)} (h : OwnA w base (some ⟨g, 0, none⟩) n c l) (hj : j < n * 2) : (∃ v, w.cell? ⟨g, j, none⟩ = some v) ∧ w.frozen? ⟨g, j, none⟩ = false := by
  obtain ⟨_, hc⟩ := h
  rcases hc with ⟨h0, _⟩ | ⟨g', cap, cur, hv, hb, hh, hnc, hm, hs, ht⟩
  · cases h0
  · injection hv with hv1 hv2 hv3
    injection hv1 with hv1
    injection hv1 with hv1
    subst hv1
    have hblk : Blk w g 30 cur := hh
    have : n * 2 ≤ cap * 2 := Nat.mul_le_mul_right 2 hnc
    exact ⟨⟨_, (hblk.cell j).trans (Array.getElem?_eq_getElem (by omega))⟩, hblk.thawed j⟩

set_option maxRecDepth 100000 in
set_option maxHeartbeats 1600000 in
theorem atom_any (w : World) (bc : Nat) (A : Option Addr) (n c K : Nat) (hc : Cur w bc A n c K) (hK : K ≤ 900000) (hn : n ≤ 1048576) :
    Calls Try.prog 47 #[.pointer (some ⟨bc, 0, none⟩)] w fun e w' => ∃ p x : Int, e = .returned (.agg #[.int .i64 p, .int .i64 x]) ∧ (-1 ≤ p ∧ p ≤ 2 ∧ 0 ≤ x ∧ x ≤ 3) ∧ Cur w' bc A n c (K + 2) ∧ Kp bc w w' := by
  have hlt := hc.lt
  go_enter Try.func47, Try.ntmps47
  go_wp2_with fail
  refine (pick_any _ bc A n c K 4 (hc.alloc _) (by omega) (by omega) hn).mono ?_
  rintro e w1 ⟨r, rfl, hr, hc1, hk1⟩
  have hb1 := Kp.blk (Blk.made w _ _) hk1 (by omega)
  have hk01 : Kp bc w w1 := ((Kp.refl bc w).alloc _).trans hk1
  have hr4 : r < 4 := by omega
  clear hk1 hr
  go_wp2_with fail
  refine (pick_any w1 bc A n c _ 4 hc1 (by omega) (by omega) hn).mono ?_
  rintro e w2 ⟨r2, rfl, hr2, hc2, hk2⟩
  have hb2 := Kp.blk hb1 hk2 (by omega)
  have hk02 := hk01.trans hk2
  have hr24 : r2 < 4 := by omega
  have f0 := hb2.thawed 0
  have f1 := hb2.thawed 1
  have x0 := hb2.cell 0
  have x1 := hb2.cell 1
  have hw1 : wrap64 ((r : Int) - 1) = (r : Int) - 1 := by unfold wrap64; omega
  have hq := (hb2.put 0 (.int .i64 ((r : Int) - 1))).put 1 (.int .i64 (r2 : Int))
  have y0 : ((w2.setCell ⟨w.heap.size, 0, none⟩ (.int .i64 ((r : Int) - 1))).setCell ⟨w.heap.size, 1, none⟩ (.int .i64 (r2 : Int))).cell? ⟨w.heap.size, 0, none⟩ = some (.int .i64 ((r : Int) - 1)) := hq.cell 0
  have y1 : ((w2.setCell ⟨w.heap.size, 0, none⟩ (.int .i64 ((r : Int) - 1))).setCell ⟨w.heap.size, 1, none⟩ (.int .i64 (r2 : Int))).cell? ⟨w.heap.size, 1, none⟩ = some (.int .i64 (r2 : Int)) := hq.cell 1
  have HC := Lib.hid ((hc2.grown (Kp.put w2 w.heap.size 0 (.int .i64 ((r : Int) - 1))) (fun k h => by injection h with h; omega)).grown (Kp.put _ w.heap.size 1 (.int .i64 (r2 : Int))) (fun k h => by injection h with h; omega))
  have HK := Lib.hid ((hk02.more (Kp.put w2 w.heap.size 0 (.int .i64 ((r : Int) - 1))) (fun k h => by injection h with h; omega)).more (Kp.put _ w.heap.size 1 (.int .i64 (r2 : Int))) (fun k h => by injection h with h; omega))
  clear hk2 hc1 hc2 hb1 hb2 hk01 hk02 hq hr2
  go_wp2
  exact bodyPost_ret (v := .agg #[.int .i64 ((r : Int) - 1), .int .i64 (r2 : Int)]) (by simp [results, Try.results47, go_sem, y0, y1]) rfl ⟨_, _, rfl, ⟨by omega, by omega, by omega, by omega⟩, HC.out.more (by omega), HK.out⟩
end Go.Proofs.Ytijiohdddfdjfaa
