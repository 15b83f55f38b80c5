/- The cursor's size; the draw of NormMax. -/
import Derived.Test.YtgbdojenenfgfaaDrawN3
namespace Go.Proofs.Ytgbdojenenfgfaa
open Go.RowKit

set_option maxRecDepth 100000 in
set_option maxHeartbeats 1600000 in
theorem size8_any (w : World) (bc : Nat) (A : Option Addr) (n c K : Nat) (hc : Cur w bc A n c K) (hK : K ≤ 900000) (hn : n ≤ 1048576) :
    Calls Try.prog 38 #[.pointer (some ⟨bc, 0, none⟩), .int .i64 8] w fun e w' => ∃ r : Nat, e = .returned (.int .i64 r) ∧ r ≤ 8 ∧ Cur w' bc A n c (K + 1) ∧ Kp bc w w' := by
  have hcast : (n : Int) / 8 = ((n / 8 : Nat) : Int) := by omega
  have hq : n / 8 ≤ 131072 := by omega
  generalize n / 8 = q at hcast hq
  obtain ⟨hby, p, s, hblk, hp, hs⟩ := hc
  have k0 : w.cell? ⟨bc, 0, none⟩ = some (.slice A n c) := hblk.cell 0
  have HC : Hid (Cur w bc A n c K) := ⟨hby, p, s, hblk, hp, hs⟩
  clear hby hblk hp hs
  by_cases h8 : ¬ (1 + q < 8)
  · have h8' : ¬ (1 + (q : Int) < 8) := by omega
    go_enter Try.func38, Try.ntmps38
    go_wp2_with fail
    refine (pick_any w bc A n c K 9 HC.out (by omega) (by omega) hn).mono ?_
    rintro e w1 ⟨r, rfl, hr, hc1, hk1⟩
    go_wp2
    go_ret
    exact ⟨r, rfl, by omega, hc1, hk1⟩
  · have h8' : 1 + (q : Int) < 8 := by omega
    have hp := pick_any w bc A n c K (q + 2) HC.out (by omega) (by omega) hn
    have e1 : ((q + 2 : Nat) : Int) = 1 + (q : Int) + 1 := by omega
    rw [e1] at hp
    have HP := Lib.hid hp
    clear hp e1
    go_enter Try.func38, Try.ntmps38
    go_wp2_with fail
    refine HP.out.mono ?_
    rintro e w1 ⟨r, rfl, hr, hc1, hk1⟩
    go_wp2
    go_ret
    exact ⟨r, rfl, by omega, hc1, hk1⟩

set_option maxRecDepth 100000 in
set_option maxHeartbeats 2000000 in
theorem drawNormMax_any (w : World) (B : Nat) (A : Option Addr) (n c : Nat) (hB : B ≤ w.heap.size) (hb : BytR w B A n) (hn : n ≤ 1048576) :
    Calls Try.prog 18 #[.slice A n c] w (DrawTwo w) := by
  go_enter Try.func18, Try.ntmps18
  go_wp2_with fail
  refine (open_any w B A n c hB hb hn).mono ?_
  rintro e w1 ⟨rfl, hb1, hc1⟩
  have hs1 := hb1.size
  have hlt := hc1.lt
  go_wp2_with fail
  refine (badNorm_any w1 w.heap.size A n c 0 hc1 (by omega) hn).mono ?_
  rintro e w2 ⟨ga, ca, la, rfl, ha1, ha2, hoa, hc2, hk2⟩
  have hs2 := hk2.size
  go_wp2_with fail
  refine (badNorm_any w2 w.heap.size A n c _ hc2 (by omega) hn).mono ?_
  rintro e w3 ⟨gb, cb, lb, rfl, hb1', hb2', hob, hc3, hk3⟩
  have hoa3 := own_base (base' := w.heap.size) (Kp.own hoa hk3 (by omega)) hs1
  have hob3 := own_base (base' := w.heap.size) hob (Nat.le_trans hs1 hs2)
  have hb3 := Kp.below hb1 (hk2.trans hk3) (Nat.le_refl _) hs1
  have hca := own_capA hoa3
  have hcb := own_capA hob3
  have HA := Lib.hid hoa3
  have HBb := Lib.hid hob3
  have HB3 := Lib.hid hb3
  clear hoa hob hoa3 hob3 hk2 hk3 hc1 hc2 hc3 hb1 hb3
  go_wp2
  go_ret2
  exact ⟨_, ca, la, _, cb, lb, rfl, ⟨HA.out, hca, by omega⟩, ⟨HBb.out, hcb, by omega⟩, HB3.out⟩
end Go.Proofs.Ytgbdojenenfgfaa
