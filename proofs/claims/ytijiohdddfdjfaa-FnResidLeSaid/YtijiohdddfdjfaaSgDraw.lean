/- A sign that is drawn; the draws of LevelSign and of Residual. -/
import Derived.Test.YtijiohdddfdjfaaDraw2
namespace Go.Proofs.Ytijiohdddfdjfaa
open Go.RowKit

set_option maxRecDepth 100000 in
set_option maxHeartbeats 1600000 in
theorem sign_any (w : World) (bc : Nat) (A : Option Addr) (n c K : Nat) (hc : Cur w bc A n c K) (hK : K ≤ 800000) (hn : n ≤ 1048576) :
    Calls Try.prog 28 #[.pointer (some ⟨bc, 0, none⟩)] w fun e w' => ∃ r : Int, e = .returned (.int .i64 r) ∧ (∃ K', K' ≤ K + 4 ∧ Cur w' bc A n c K') ∧ Kp bc w w' := by
  have hlt := hc.lt
  go_enter Try.func28, Try.ntmps28
  go_wp2_with fail
  refine (once_any w bc A n c K 9 hc (by omega) (by omega) hn).mono ?_
  rintro e w1 ⟨r, rfl, hc1, hk1⟩
  cases r with
  | true =>
    go_wp2_with fail
    refine (raw_any w1 bc A n c (K + 1) hc1 (by omega) hn).mono ?_
    rintro e w2 ⟨u, rfl, hc2, hk2⟩
    have s1 := hk1.size
    have s2 := hk2.size
    go_wp2_with fail
    refine (pick_any _ bc A n c (K + 1 + 2) 4 (hc2.alloc _) (by omega) (by omega) hn).mono ?_
    rintro e w3 ⟨x, rfl, hx, hc3, hk3⟩
    have hbk := Kp.blk (Blk.made w2 _ _) hk3 (by omega)
    obtain ⟨v, hv⟩ : ∃ v, w3.cell? ⟨w2.heap.size, x, none⟩ = some (.int .i64 v) := by
      rcases (show x = 0 ∨ x = 1 ∨ x = 2 ∨ x = 3 by omega) with rfl | rfl | rfl | rfl <;> exact ⟨_, hbk.cell _⟩
    have hx4 : x < 4 := by omega
    have HK := Lib.hid ((hk1.trans hk2).trans ((Kp.of_below ((Below.refl _ _).alloc (Nat.le_refl _) _)).trans hk3))
    have HC := Lib.hid hc3
    clear hbk hk3 hk2 hk1 hc3 hc2 hc1 hx
    go_wp2
    go_ret
    exact ⟨_, rfl, ⟨_, by omega, HC.out⟩, HK.out⟩
  | false =>
    go_wp2_with fail
    refine (pick_any w1 bc A n c (K + 1) 32 hc1 (by omega) (by omega) hn).mono ?_
    rintro e w2 ⟨x, rfl, hx, hc2, hk2⟩
    go_wp2
    go_ret
    exact ⟨_, rfl, ⟨_, by omega, hc2⟩, hk1.trans hk2⟩

end Go.Proofs.Ytijiohdddfdjfaa
