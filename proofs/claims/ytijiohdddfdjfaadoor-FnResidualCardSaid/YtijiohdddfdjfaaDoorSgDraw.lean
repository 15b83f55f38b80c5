/- A sign that is drawn; the draws of LevelSign and of Residual. -/
import Derived.Test.YtijiohdddfdjfaaDoorDraw2
namespace Go.Proofs.YtijiohdddfdjfaaDoor
open Go.RowKit

set_option maxRecDepth 100000 in
set_option maxHeartbeats 1600000 in
theorem sign_any (w : World) (bc : Nat) (A : Option Addr) (n c K : Nat) (hc : Cur w bc A n c K) (hK : K ≤ 800000) (hn : n ≤ 1048576) :
    Calls Tryd.prog 38 #[.pointer (some ⟨bc, 0, none⟩)] w fun e w' => ∃ r : Int, e = .returned (.int .i64 r) ∧ (∃ K', K' ≤ K + 4 ∧ Cur w' bc A n c K') ∧ Kp bc w w' := by
  have hlt := hc.lt
  go_enter Tryd.func38, Tryd.ntmps38
  go_wp2_with fail
  refine (once_any w bc A n c K 9 hc (by omega) (by omega) hn).mono ?_
  rintro e w1 ⟨r, rfl, hc1, hk1⟩
  cases r with
  | true =>
    go_wp2_with fail
    refine (raw_any w1 bc A n c (K + 1) hc1 (by omega) hn).mono ?_
    rintro e w2 ⟨u, rfl, hc2, hk2⟩
    have s1 := hk1.size
    have s2 := hk2.size
    go_wp2_with fail
    refine (pick_any _ bc A n c (K + 1 + 2) 4 (hc2.alloc _) (by omega) (by omega) hn).mono ?_
    rintro e w3 ⟨x, rfl, hx, hc3, hk3⟩
    have hbk := Kp.blk (Blk.made w2 _ _) hk3 (by omega)
    obtain ⟨v, hv⟩ : ∃ v, w3.cell? ⟨w2.heap.size, x, none⟩ = some (.int .i64 v) := by
      rcases (show x = 0 ∨ x = 1 ∨ x = 2 ∨ x = 3 by omega) with rfl | rfl | rfl | rfl <;> exact ⟨_, hbk.cell _⟩
    have hx4 : x < 4 := by omega
    have HK := Lib.hid ((hk1.trans hk2).trans ((Kp.of_below ((Below.refl _ _).alloc (Nat.le_refl _) _)).trans hk3))
    have HC := Lib.hid hc3
    clear hbk hk3 hk2 hk1 hc3 hc2 hc1 hx
    go_wp2
    go_ret
    exact ⟨_, rfl, ⟨_, by omega, HC.out⟩, HK.out⟩
  | false =>
    go_wp2_with fail
    refine (pick_any w1 bc A n c (K + 1) 32 hc1 (by omega) (by omega) hn).mono ?_
    rintro e w2 ⟨x, rfl, hx, hc2, hk2⟩
    go_wp2
    go_ret
    exact ⟨_, rfl, ⟨_, by omega, hc2⟩, hk1.trans hk2⟩

/-- a level of its own and a number -/
def LevNum (w : World) (e : Ending) (w' : World) : Prop :=
  ∃ (g cap : Nat) (l : List (Int × Int)) (s : Int), e = .returned (.tuple #[.slice (some ⟨g, 0, none⟩) l.length cap, .int .i64 s]) ∧ 1 ≤ l.length ∧ l.length ≤ 25 ∧ OwnT w' w.heap.size (some ⟨g, 0, none⟩) l.length cap l ∧ Below w.heap.size w w'

set_option maxHeartbeats 800000 in
theorem drawLevelSign_any (w : World) (B : Nat) (A : Option Addr) (n c : Nat) (hB : B ≤ w.heap.size) (hb : BytR w B A n) (hn : n ≤ 1048576) :
    Calls Tryd.prog 10 #[.slice A n c] w (LevNum w) := by
  go_enter Tryd.func10, Tryd.ntmps10
  go_wp2_with fail
  refine (open_any w B A n c hB hb hn).mono ?_
  rintro e w1 ⟨rfl, hb1, hc1⟩
  have hs1 := hb1.size
  have hlt := hc1.lt
  go_wp2_with fail
  refine (badLevel_any w1 w.heap.size A n c 0 hc1 (by omega) hn).mono ?_
  rintro e w2 ⟨g, cap, l, rfl, h1, h2, ho, hc2, hk2⟩
  clear hc1
  go_wp2_with fail
  refine (sign_any w2 w.heap.size A n c _ hc2 (by omega) hn).mono ?_
  rintro e w3 ⟨s, rfl, _, hk3⟩
  have hk13 := hk2.trans hk3
  have HB3 := Lib.hid (Kp.below hb1 hk13 (Nat.le_refl _) hs1)
  have HO3 := Lib.hid (own_base (base' := w.heap.size) (Kp.own ho hk3 (by omega)) hs1)
  clear hc2 hk2 hk3 hk13 ho
  go_wp2
  go_ret2
  exact ⟨g, cap, l, s, rfl, h1, h2, HO3.out, HB3.out⟩

set_option maxHeartbeats 800000 in
theorem drawResidual_any (w : World) (B : Nat) (A : Option Addr) (n c : Nat) (hB : B ≤ w.heap.size) (hb : BytR w B A n) (hn : n ≤ 1048576) :
    Calls Tryd.prog 17 #[.slice A n c] w (LevNum w) := by
  go_enter Tryd.func17, Tryd.ntmps17
  go_wp2_with fail
  refine (open_any w B A n c hB hb hn).mono ?_
  rintro e w1 ⟨rfl, hb1, hc1⟩
  have hs1 := hb1.size
  have hlt := hc1.lt
  go_wp2_with fail
  refine (badLevel_any w1 w.heap.size A n c 0 hc1 (by omega) hn).mono ?_
  rintro e w2 ⟨g, cap, l, rfl, h1, h2, ho, hc2, hk2⟩
  clear hc1
  go_wp2_with fail
  refine (sign_any w2 w.heap.size A n c _ hc2 (by omega) hn).mono ?_
  rintro e w3 ⟨s, rfl, _, hk3⟩
  have hk13 := hk2.trans hk3
  have HB3 := Lib.hid (Kp.below hb1 hk13 (Nat.le_refl _) hs1)
  have HO3 := Lib.hid (own_base (base' := w.heap.size) (Kp.own ho hk3 (by omega)) hs1)
  clear hc2 hk2 hk3 hk13 ho
  go_wp2
  go_ret2
  exact ⟨g, cap, l, s, rfl, h1, h2, HO3.out, HB3.out⟩
end Go.Proofs.YtijiohdddfdjfaaDoor
