/- The law FnExactPairsUnder: the walk. -/
import Derived.Test.YtgebjnoicgmdoaaGreatDoorLawC
import Derived.Test.YtgebjnoicgmdoaaGreatDoorMeth

namespace Go.Proofs.YtgebjnoicgmdoaaGreatDoor
open Go.RowKit

set_option maxRecDepth 100000 in
set_option maxHeartbeats 4000000 in
theorem pairsUnderLaw_any (w : World) (B : Nat) (A0 : Option Addr) (n0 c0 : Nat) (l0 : List Cs.Cn) (A1 : Option Addr) (n1 c1 : Nat) (l1 : List Pr) (T : TypeId) (pv : Value) (h0 : 1 < B) (Tc : TypeId) (pc : Value) (h0c : 0 < B) (hB : B ≤ w.heap.size)
    (hl0 : ConR w B A0 n0 l0) (hn0 : (n0 : Int) ≤ 9223372036854775807) (hl1 : PrR w B A1 n1 l1) (hn1 : (n1 : Int) ≤ 9223372036854775807) (hE : ErrAt w T pv) (hEc : ErrCAt w Tc pc) :
    Calls Tryz.prog 8 #[.slice A0 n0 c0, .slice A1 n1 c1] w fun e w' => e = .returned (.bool true) ∧ Below w.heap.size w w' := by
  by_cases hbig0 : 1048576 < (n0 : Int)
  · go_enter Tryz.func8, Tryz.ntmps8
    go_wp2_with fail
    refine (szConS_any A0 n0 c0 (1048576) w (by omega) (by omega) hn0).mono ?_
    rintro e w' ⟨rfl, rfl⟩
    rw [if_pos (by omega)]
    go_wp2
    go_ret
    exact ⟨rfl, Below.refl _ _⟩
  · skip
    by_cases hbig1 : 1048576 - (n0 : Int) < (pbulk l1 : Int)
    · go_enter Tryz.func8, Tryz.ntmps8
      go_wp2_with fail
      refine (szConS_any A0 n0 c0 (1048576) w (by omega) (by omega) hn0).mono ?_
      rintro e w' ⟨rfl, rfl⟩
      rw [if_neg (by omega)]
      have hs0 : ¬ (1048576 - (n0 : Int) < 0) := by omega
      go_wp2_with fail
      refine (szPairS_any w B A1 n1 c1 l1 (1048576 - (n0 : Int)) hB hl1 hn1 (by omega) (by omega)).mono ?_
      rintro e u1 ⟨rfl, hbu1⟩
      rw [szR_pos (by omega)]
      go_wp2
      go_ret
      exact ⟨rfl, hbu1⟩
    · skip
      have hm0 : n0 ≤ 1048576 := by omega
      have hm1 : pbulk l1 ≤ 1048576 := by omega
      go_enter Tryz.func8, Tryz.ntmps8
      go_wp2_with fail
      refine (szConS_any A0 n0 c0 (1048576) w (by omega) (by omega) hn0).mono ?_
      rintro e w' ⟨rfl, rfl⟩
      rw [if_neg (by omega)]
      have hs0 : ¬ (1048576 - (n0 : Int) < 0) := by omega
      go_wp2_with fail
      refine (szPairS_any w B A1 n1 c1 l1 (1048576 - (n0 : Int)) hB hl1 hn1 (by omega) (by omega)).mono ?_
      rintro e u1 ⟨rfl, hbu1⟩
      rw [szR_neg (by omega)]
      have hs1 : ¬ (1048576 - (n0 : Int) - (pbulk l1 : Int) < 0) := by omega
      have hB0 : Below w.heap.size w u1 := hbu1
      have s0 := hB0.size
      go_wp2_with fail
      refine (toConS_any u1 B A0 n0 c0 l0 (Nat.le_trans hB hB0.size) (hl0.below (hB0.mono hB)) hm0).mono ?_
      rintro e w1 ⟨rfl, hb1, p0x1⟩
      have hz1 : u1.heap.size + 1 ≤ w1.heap.size := by obtain ⟨_, cs, hblk, _⟩ := p0x1; exact hblk.lt
      have hB1 : Below w.heap.size w w1 := hB0.trans (hb1.mono hB0.size)
      have s1 := hb1.size
      go_wp2_with fail
      refine (toPairS_any w1 B A1 n1 c1 l1 (Nat.le_trans hB hB1.size) (hl1.below (hB1.mono hB)) hm1).mono ?_
      rintro e w2 ⟨rfl, hb2, hz2, p1x2⟩
      have hB2 : Below w.heap.size w w2 := hB1.trans (hb2.mono hB1.size)
      have s2 := hb2.size
      have p0x2 := p0x1.below hb2 (by omega)
      clear p0x1
      go_wp2_with fail
      refine (specPairsUnder_reads w2 w2.heap.size _ 0 n0 n0 l0 _ n1 n1 l1 (Nat.le_refl _) (p0x2.reads.more (by omega)) (by omega) (p1x2.more (by omega)) hm1).mono ?_
      rintro e w3 ⟨rfl, hb3⟩
      have hB3 : Below w.heap.size w w3 := hB2.trans (hb3.mono hB2.size)
      have s3 := hb3.size
      have p0x3 := p0x2.below hb3 (by omega)
      clear p0x2
      have p1x3 := p1x2.below (hb3.mono (by omega))
      clear p1x2
      clear p0x3
      clear p1x3
      go_wp2_with fail
      refine (toConS_any w3 B A0 n0 c0 l0 (Nat.le_trans hB hB3.size) (hl0.below (hB3.mono hB)) hm0).mono ?_
      rintro e w4 ⟨rfl, hb4, x0x4⟩
      have hz4 : w3.heap.size + 1 ≤ w4.heap.size := by obtain ⟨_, cs, hblk, _⟩ := x0x4; exact hblk.lt
      have hB4 : Below w.heap.size w w4 := hB3.trans (hb4.mono hB3.size)
      have s4 := hb4.size
      go_wp2_with fail
      refine (toPairS_any w4 B A1 n1 c1 l1 (Nat.le_trans hB hB4.size) (hl1.below (hB4.mono hB)) hm1).mono ?_
      rintro e w5 ⟨rfl, hb5, hz5, x1x5⟩
      have hB5 : Below w.heap.size w w5 := hB4.trans (hb5.mono hB4.size)
      have s5 := hb5.size
      have x0x5 := x0x4.below hb5 (by omega)
      clear x0x4
      go_wp2_with fail
      refine (implPairsUnder_reads w5 w5.heap.size (some ⟨w3.heap.size, 0, none⟩) n0 n0 l0 (some ⟨w4.heap.size, 0, none⟩) n1 n1 l1 T pv Tc pc (by omega) (by omega) (Nat.le_refl _) (.inl ⟨_, _, rfl⟩) (x0x5.reads.more (by omega)) (by omega) (x1x5.more (by omega)) hm1 (hE.below (hB5.mono hB) h0) (hEc.below (hB5.mono hB) h0c)).mono ?_
      rintro e w6 ⟨rfl, hb6⟩
      have hB6 : Below w.heap.size w w6 := hB5.trans (hb6.mono hB5.size)
      have s6 := hb6.size
      have x0x6 := x0x5.below hb6 (by omega)
      clear x0x5
      have x1x6 := x1x5.below (hb6.mono (by omega))
      clear x1x5
      have hbb : ((pairsR l0 l1) != (pairsR l0 l1)) = false := by simp
      go_wp2_with fail
      refine (toConS_any w6 B A0 n0 c0 l0 (Nat.le_trans hB hB6.size) (hl0.below (hB6.mono hB)) hm0).mono ?_
      rintro e w7 ⟨rfl, hb7, z7⟩
      have hz7 : w6.heap.size + 1 ≤ w7.heap.size := by obtain ⟨_, cs, hblk, _⟩ := z7; exact hblk.lt
      have hB7 : Below w.heap.size w w7 := hB6.trans (hb7.mono hB6.size)
      have s7 := hb7.size
      have x0x7 := x0x6.below hb7 (by omega)
      clear x0x6
      have x1x7 := x1x6.below (hb7.mono (by omega))
      clear x1x6
      go_wp2_with fail
      refine (eqConS_any w7 w7.heap.size _ _ n0 n0 n0 n0 l0 l0 (Nat.le_refl _) (x0x7.reads.more (by omega)) (z7.reads.more (by omega)) (by omega) (by omega)).mono ?_
      rintro e w8 ⟨rfl, hb8⟩
      rw [decide_eq_true rfl]
      clear z7
      have hB8 : Below w.heap.size w w8 := hB7.trans (hb8.mono hB7.size)
      have s8 := hb8.size
      have x0x8 := x0x7.below hb8 (by omega)
      clear x0x7
      have x1x8 := x1x7.below (hb8.mono (by omega))
      clear x1x7
      go_wp2_with fail
      refine (toPairS_any w8 B A1 n1 c1 l1 (Nat.le_trans hB hB8.size) (hl1.below (hB8.mono hB)) hm1).mono ?_
      rintro e w9 ⟨rfl, hb9, hz9, z9⟩
      have hB9 : Below w.heap.size w w9 := hB8.trans (hb9.mono hB8.size)
      have s9 := hb9.size
      have x0x9 := x0x8.below hb9 (by omega)
      clear x0x8
      have x1x9 := x1x8.below (hb9.mono (by omega))
      clear x1x8
      go_wp2_with fail
      refine (eqPairS_reads w9 w9.heap.size _ _ n1 n1 n1 l1 (Nat.le_refl _) (x1x9.more (by omega)) (z9.more (by omega)) hm1).mono ?_
      rintro e w10 ⟨rfl, hb10⟩
      clear z9
      have hB10 : Below w.heap.size w w10 := hB9.trans (hb10.mono hB9.size)
      have s10 := hb10.size
      have x0x10 := x0x9.below hb10 (by omega)
      clear x0x9
      have x1x10 := x1x9.below (hb10.mono (by omega))
      clear x1x9
      go_wp2
      go_ret
      exact ⟨rfl, hB10⟩
end Go.Proofs.YtgebjnoicgmdoaaGreatDoor
