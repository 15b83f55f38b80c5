/- The law FnExactLevelConst: the walk. -/
import Derived.Test.YtghoofgfimeedaaDoorDCsp

namespace Go.Proofs.YtghoofgfimeedaaDoor
open Go.RowKit

set_option maxRecDepth 100000 in
set_option maxHeartbeats 4000000 in
theorem levelConstLaw_any (w : World) (B : Nat) (A0 : Option Addr) (n0 c0 : Nat) (l0 : List (Int × Int)) (T : TypeId) (pv : Value) (h0 : 0 < B) (hB : B ≤ w.heap.size)
    (hl0 : TokR w B A0 n0 l0) (hn0 : (n0 : Int) ≤ 9223372036854775807) (hE : ErrAt w T pv) :
    Calls Tryd.prog 13 #[.slice A0 n0 c0] w fun e w' => e = .returned (.bool true) ∧ Below w.heap.size w w' := by
  by_cases hbig0 : 1048576 < (n0 : Int)
  · go_enter Tryd.func13, Tryd.ntmps13
    go_wp2_with fail
    refine (szTokS_any A0 n0 c0 (1048576) w (by omega) (by omega) hn0).mono ?_
    rintro e w' ⟨rfl, rfl⟩
    rw [if_pos (by omega)]
    go_wp2
    go_ret
    exact ⟨rfl, Below.refl _ _⟩
  · skip
    have hm0 : n0 ≤ 1048576 := by omega
    go_enter Tryd.func13, Tryd.ntmps13
    go_wp2_with fail
    refine (szTokS_any A0 n0 c0 (1048576) w (by omega) (by omega) hn0).mono ?_
    rintro e w' ⟨rfl, rfl⟩
    rw [if_neg (by omega)]
    have hs0 : ¬ (1048576 - (n0 : Int) < 0) := by omega
    have hB0 : Below w.heap.size w w := Below.refl _ _
    go_wp2_with fail
    refine (toTokS_any w B A0 n0 c0 l0 (Nat.le_trans hB hB0.size) (hl0.below (hB0.mono hB)) hm0).mono ?_
    rintro e w1 ⟨rfl, hb1, p0x1⟩
    have hz1 : w.heap.size + 1 ≤ w1.heap.size := by obtain ⟨_, cs, hblk, _⟩ := p0x1; exact hblk.lt
    have hB1 : Below w.heap.size w w1 := hB0.trans (hb1.mono hB0.size)
    have s1 := hb1.size
    go_wp2_with fail
    refine (specLevelConst_any w1 w1.heap.size (some ⟨w.heap.size, 0, none⟩) n0 n0 l0 (Nat.le_refl _) (p0x1.reads.more (by omega)) (by omega)).mono ?_
    rintro e w2 ⟨rfl, hb2⟩
    have hB2 : Below w.heap.size w w2 := hB1.trans (hb2.mono hB1.size)
    have s2 := hb2.size
    have p0x2 := p0x1.below hb2 (by omega)
    clear p0x1
    clear p0x2
    go_wp2_with fail
    refine (toTokS_any w2 B A0 n0 c0 l0 (Nat.le_trans hB hB2.size) (hl0.below (hB2.mono hB)) hm0).mono ?_
    rintro e w3 ⟨rfl, hb3, x0x3⟩
    have hz3 : w2.heap.size + 1 ≤ w3.heap.size := by obtain ⟨_, cs, hblk, _⟩ := x0x3; exact hblk.lt
    have hB3 : Below w.heap.size w w3 := hB2.trans (hb3.mono hB2.size)
    have s3 := hb3.size
    go_wp2_with fail
    refine (implLevelConst_any w3 w3.heap.size (some ⟨w2.heap.size, 0, none⟩) n0 n0 l0 T pv (by omega) (Nat.le_refl _) (x0x3.reads.more (by omega)) (by omega) (hE.below (hB3.mono hB) h0)).mono ?_
    rintro e w4 ⟨rfl, hb4⟩
    have hB4 : Below w.heap.size w w4 := hB3.trans (hb4.mono hB3.size)
    have s4 := hb4.size
    have x0x4 := x0x3.below hb4 (by omega)
    clear x0x3
    have hbb : ((Dc.cstR l0) != (Dc.cstR l0)) = false := by simp
    go_wp2_with fail
    refine (toTokS_any w4 B A0 n0 c0 l0 (Nat.le_trans hB hB4.size) (hl0.below (hB4.mono hB)) hm0).mono ?_
    rintro e w5 ⟨rfl, hb5, z5⟩
    have hz5 : w4.heap.size + 1 ≤ w5.heap.size := by obtain ⟨_, cs, hblk, _⟩ := z5; exact hblk.lt
    have hB5 : Below w.heap.size w w5 := hB4.trans (hb5.mono hB4.size)
    have s5 := hb5.size
    have x0x5 := x0x4.below hb5 (by omega)
    clear x0x4
    go_wp2_with fail
    refine (eqTokS_any w5 w5.heap.size _ _ n0 n0 n0 n0 l0 l0 (Nat.le_refl _) (x0x5.reads.more (by omega)) (z5.reads.more (by omega)) (by omega) (by omega)).mono ?_
    rintro e w6 ⟨rfl, hb6⟩
    rw [decide_eq_true rfl]
    clear z5
    have hB6 : Below w.heap.size w w6 := hB5.trans (hb6.mono hB5.size)
    have s6 := hb6.size
    have x0x6 := x0x5.below hb6 (by omega)
    clear x0x5
    go_wp2
    go_ret
    exact ⟨rfl, hB6⟩
end Go.Proofs.YtghoofgfimeedaaDoor
