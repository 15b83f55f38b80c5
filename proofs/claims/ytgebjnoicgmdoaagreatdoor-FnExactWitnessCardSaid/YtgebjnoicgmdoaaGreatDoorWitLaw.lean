/- The law FnExactWitness: the walk. -/
import Derived.Test.YtgebjnoicgmdoaaGreatDoorLawC
import Derived.Test.YtgebjnoicgmdoaaGreatDoorMarkBig

namespace Go.Proofs.YtgebjnoicgmdoaaGreatDoor
open Go.RowKit

set_option maxRecDepth 100000 in
set_option maxHeartbeats 4000000 in
theorem witnessLaw_any (w : World) (B : Nat) (A0 : Option Addr) (n0 c0 : Nat) (l0 : List Cs.Cn) (A1 : Option Addr) (n1 c1 : Nat) (l1 : List (Int × Int)) (A2 : Option Addr) (n2 c2 : Nat) (l2 : List (Int × Int)) (pv pc : Value) (h0 : 1 < B) (h0c : 0 < B) (h0t : 2 < B) (hB : B ≤ w.heap.size)
    (hl0 : ConR w B A0 n0 l0) (hn0 : (n0 : Int) ≤ 9223372036854775807) (hl1 : TokR w B A1 n1 l1) (hn1 : (n1 : Int) ≤ 9223372036854775807) (hl2 : TokR w B A2 n2 l2) (hn2 : (n2 : Int) ≤ 9223372036854775807) (hE : ErrAt w 228 pv) (hEc : ErrCAt w 228 pc) (hEt : ErrTAt w) :
    Calls Tryz.prog 7 #[.slice A0 n0 c0, .slice A1 n1 c1, .slice A2 n2 c2] w fun e w' => e = .returned (.bool true) ∧ Below w.heap.size w w' := by
  by_cases hbig0 : 1048576 < (n0 : Int)
  · go_enter Tryz.func7, Tryz.ntmps7
    go_wp2_with fail
    refine (szConS_any A0 n0 c0 (1048576) w (by omega) (by omega) hn0).mono ?_
    rintro e w' ⟨rfl, rfl⟩
    rw [if_pos (by omega)]
    go_wp2
    go_ret
    exact ⟨rfl, (Below.refl _ _)⟩
  · skip
    by_cases hbig1 : 1048576 - (n0 : Int) < (n1 : Int)
    · go_enter Tryz.func7, Tryz.ntmps7
      go_wp2_with fail
      refine (szConS_any A0 n0 c0 (1048576) w (by omega) (by omega) hn0).mono ?_
      rintro e w' ⟨rfl, rfl⟩
      rw [if_neg (by omega)]
      have hs0 : ¬ (1048576 - (n0 : Int) < 0) := by omega
      go_wp2_with fail
      refine (szTokS_any A1 n1 c1 (1048576 - (n0 : Int)) w (by omega) (by omega) hn1).mono ?_
      rintro e w' ⟨rfl, rfl⟩
      rw [if_pos (by omega)]
      go_wp2
      go_ret
      exact ⟨rfl, (Below.refl _ _)⟩
    · skip
      by_cases hbig2 : 1048576 - (n0 : Int) - (n1 : Int) < (n2 : Int)
      · go_enter Tryz.func7, Tryz.ntmps7
        go_wp2_with fail
        refine (szConS_any A0 n0 c0 (1048576) w (by omega) (by omega) hn0).mono ?_
        rintro e w' ⟨rfl, rfl⟩
        rw [if_neg (by omega)]
        have hs0 : ¬ (1048576 - (n0 : Int) < 0) := by omega
        go_wp2_with fail
        refine (szTokS_any A1 n1 c1 (1048576 - (n0 : Int)) w (by omega) (by omega) hn1).mono ?_
        rintro e w' ⟨rfl, rfl⟩
        rw [if_neg (by omega)]
        have hs1 : ¬ (1048576 - (n0 : Int) - (n1 : Int) < 0) := by omega
        go_wp2_with fail
        refine (szTokS_any A2 n2 c2 (1048576 - (n0 : Int) - (n1 : Int)) w (by omega) (by omega) hn2).mono ?_
        rintro e w' ⟨rfl, rfl⟩
        rw [if_pos (by omega)]
        go_wp2
        go_ret
        exact ⟨rfl, (Below.refl _ _)⟩
      · skip
        have hm0 : n0 ≤ 1048576 := by omega
        have hm1 : n1 ≤ 1048576 := by omega
        have hm2 : n2 ≤ 1048576 := by omega
        have hR := witR_len (l := l0) (a := l1) (b := l2)
        go_enter Tryz.func7, Tryz.ntmps7
        go_wp2_with fail
        refine (szConS_any A0 n0 c0 (1048576) w (by omega) (by omega) hn0).mono ?_
        rintro e w' ⟨rfl, rfl⟩
        rw [if_neg (by omega)]
        have hs0 : ¬ (1048576 - (n0 : Int) < 0) := by omega
        go_wp2_with fail
        refine (szTokS_any A1 n1 c1 (1048576 - (n0 : Int)) w (by omega) (by omega) hn1).mono ?_
        rintro e w' ⟨rfl, rfl⟩
        rw [if_neg (by omega)]
        have hs1 : ¬ (1048576 - (n0 : Int) - (n1 : Int) < 0) := by omega
        go_wp2_with fail
        refine (szTokS_any A2 n2 c2 (1048576 - (n0 : Int) - (n1 : Int)) w (by omega) (by omega) hn2).mono ?_
        rintro e w' ⟨rfl, rfl⟩
        rw [if_neg (by omega)]
        have hs2 : ¬ (1048576 - (n0 : Int) - (n1 : Int) - (n2 : Int) < 0) := by omega
        have hB0 : Below w.heap.size w w := (Below.refl _ _)
        go_wp2_with fail
        refine (toConS_any w B A0 n0 c0 l0 (Nat.le_trans hB hB0.size) (hl0.below (hB0.mono hB)) hm0).mono ?_
        rintro e w1 ⟨rfl, hb1, p0x1⟩
        have hz1 : w.heap.size + 1 ≤ w1.heap.size := p0x1.lt
        have hB1 : Below w.heap.size w w1 := hB0.trans (hb1.mono hB0.size)
        have s1 := hb1.size
        go_wp2_with fail
        refine (toTokS_any w1 B A1 n1 c1 l1 (Nat.le_trans hB hB1.size) (hl1.below (hB1.mono hB)) hm1).mono ?_
        rintro e w2 ⟨rfl, hb2, p1x2⟩
        have hz2 : w1.heap.size + 1 ≤ w2.heap.size := p1x2.lt
        have hB2 : Below w.heap.size w w2 := hB1.trans (hb2.mono hB1.size)
        have s2 := hb2.size
        have p0x2 := p0x1.below hb2 (by omega)
        clear p0x1
        go_wp2_with fail
        refine (toTokS_any w2 B A2 n2 c2 l2 (Nat.le_trans hB hB2.size) (hl2.below (hB2.mono hB)) hm2).mono ?_
        rintro e w3 ⟨rfl, hb3, p2x3⟩
        have hz3 : w2.heap.size + 1 ≤ w3.heap.size := p2x3.lt
        have hB3 : Below w.heap.size w w3 := hB2.trans (hb3.mono hB2.size)
        have s3 := hb3.size
        have p0x3 := p0x2.below hb3 (by omega)
        clear p0x2
        have p1x3 := p1x2.below hb3 (by omega)
        clear p1x2
        go_wp2_with fail
        refine (specWitness_any w3 w3.heap.size _ 0 n0 n0 l0 (some ⟨w1.heap.size, 0, none⟩) n1 n1 l1 (some ⟨w2.heap.size, 0, none⟩) n2 n2 l2 (Nat.le_refl _) (p0x3.reads.more (by omega)) (by omega) (p1x3.reads.more (by omega)) (by omega) (p2x3.reads.more (by omega)) (by omega)).mono ?_
        rintro e w4 ⟨Aow, cow, rfl, ow4, hb4⟩
        have iow : InR (.slice Aow ((witR l0 l1 l2).getD []).length cow) w3.heap.size w4.heap.size := own_in ow4
        have hB4 : Below w.heap.size w w4 := hB3.trans (hb4.mono hB3.size)
        have s4 := hb4.size
        have p0x4 := p0x3.below hb4 (by omega)
        clear p0x3
        have p1x4 := p1x3.below hb4 (by omega)
        clear p1x3
        have p2x4 := p2x3.below hb4 (by omega)
        clear p2x3
        clear p0x4
        clear p1x4
        clear p2x4
        go_wp2_with fail
        refine (toConS_any w4 B A0 n0 c0 l0 (Nat.le_trans hB hB4.size) (hl0.below (hB4.mono hB)) hm0).mono ?_
        rintro e w5 ⟨rfl, hb5, x0x5⟩
        have hz5 : w4.heap.size + 1 ≤ w5.heap.size := x0x5.lt
        have hB5 : Below w.heap.size w w5 := hB4.trans (hb5.mono hB4.size)
        have s5 := hb5.size
        have ow5 := own_below' ow4 hb5
        clear ow4
        go_wp2_with fail
        refine (toTokS_any w5 B A1 n1 c1 l1 (Nat.le_trans hB hB5.size) (hl1.below (hB5.mono hB)) hm1).mono ?_
        rintro e w6 ⟨rfl, hb6, x1x6⟩
        have hz6 : w5.heap.size + 1 ≤ w6.heap.size := x1x6.lt
        have hB6 : Below w.heap.size w w6 := hB5.trans (hb6.mono hB5.size)
        have s6 := hb6.size
        have ow6 := own_below' ow5 hb6
        clear ow5
        have x0x6 := x0x5.below hb6 (by omega)
        clear x0x5
        go_wp2_with fail
        refine (toTokS_any w6 B A2 n2 c2 l2 (Nat.le_trans hB hB6.size) (hl2.below (hB6.mono hB)) hm2).mono ?_
        rintro e w7 ⟨rfl, hb7, x2x7⟩
        have hz7 : w6.heap.size + 1 ≤ w7.heap.size := x2x7.lt
        have hB7 : Below w.heap.size w w7 := hB6.trans (hb7.mono hB6.size)
        have s7 := hb7.size
        have ow7 := own_below' ow6 hb7
        clear ow6
        have x0x7 := x0x6.below hb7 (by omega)
        clear x0x6
        have x1x7 := x1x6.below hb7 (by omega)
        clear x1x6
        go_wp2_with fail
        refine (implWitness_any w7 w7.heap.size (some ⟨w4.heap.size, 0, none⟩) n0 n0 l0 (some ⟨w5.heap.size, 0, none⟩) n1 n1 l1 (some ⟨w6.heap.size, 0, none⟩) n2 n2 l2 pv pc (by omega) (by omega) (by omega) (Nat.le_refl _) (.inl ⟨_, _, rfl⟩) (x0x7.reads.more (by omega)) (by omega) (x1x7.reads.more (by omega)) (by omega) (x2x7.reads.more (by omega)) (by omega) (hE.below (hB7.mono hB) h0) (hEc.below (hB7.mono hB) h0c) (hEt.below (hB7.mono hB) h0t)).mono ?_
        rintro e w8 ⟨Aog, cog, rfl, og8, hb8⟩
        have iog : InR (.slice Aog ((witR l0 l1 l2).getD []).length cog) w7.heap.size w8.heap.size := own_in og8
        have hB8 : Below w.heap.size w w8 := hB7.trans (hb8.mono hB7.size)
        have s8 := hb8.size
        have ow8 := own_below' ow7 hb8
        clear ow7
        have x0x8 := x0x7.below hb8 (by omega)
        clear x0x7
        have x1x8 := x1x7.below hb8 (by omega)
        clear x1x7
        have x2x8 := x2x7.below hb8 (by omega)
        clear x2x7
        have hbb : (((witR l0 l1 l2)).isSome != ((witR l0 l1 l2)).isSome) = false := by simp
        go_wp2_with fail
        refine (eqIntS_any w8 w8.heap.size _ _ _ _ _ _ _ _ (Nat.le_refl _) (OwnI.reads og8) (OwnI.reads ow8) (by omega) (by omega)).mono ?_
        rintro e w9 ⟨rfl, hb9⟩
        rw [decide_eq_true rfl]
        have hB9 : Below w.heap.size w w9 := hB8.trans (hb9.mono hB8.size)
        have s9 := hb9.size
        have ow9 := own_below' ow8 hb9
        clear ow8
        have og9 := own_below' og8 hb9
        clear og8
        have x0x9 := x0x8.below hb9 (by omega)
        clear x0x8
        have x1x9 := x1x8.below hb9 (by omega)
        clear x1x8
        have x2x9 := x2x8.below hb9 (by omega)
        clear x2x8
        go_wp2_with fail
        refine (toConS_any w9 B A0 n0 c0 l0 (Nat.le_trans hB hB9.size) (hl0.below (hB9.mono hB)) hm0).mono ?_
        rintro e w10 ⟨rfl, hb10, z10⟩
        have hz10 : w9.heap.size + 1 ≤ w10.heap.size := z10.lt
        have hB10 : Below w.heap.size w w10 := hB9.trans (hb10.mono hB9.size)
        have s10 := hb10.size
        have ow10 := own_below' ow9 hb10
        clear ow9
        have og10 := own_below' og9 hb10
        clear og9
        have x0x10 := x0x9.below hb10 (by omega)
        clear x0x9
        have x1x10 := x1x9.below hb10 (by omega)
        clear x1x9
        have x2x10 := x2x9.below hb10 (by omega)
        clear x2x9
        go_wp2_with fail
        refine (eqConS_any w10 w10.heap.size _ _ n0 n0 n0 n0 l0 l0 (Nat.le_refl _) (x0x10.reads.more (by omega)) (z10.reads.more (by omega)) (by omega) (by omega)).mono ?_
        rintro e w11 ⟨rfl, hb11⟩
        rw [decide_eq_true rfl]
        clear z10
        have hB11 : Below w.heap.size w w11 := hB10.trans (hb11.mono hB10.size)
        have s11 := hb11.size
        have ow11 := own_below' ow10 hb11
        clear ow10
        have og11 := own_below' og10 hb11
        clear og10
        have x0x11 := x0x10.below hb11 (by omega)
        clear x0x10
        have x1x11 := x1x10.below hb11 (by omega)
        clear x1x10
        have x2x11 := x2x10.below hb11 (by omega)
        clear x2x10
        go_wp2_with fail
        refine (toTokS_any w11 B A1 n1 c1 l1 (Nat.le_trans hB hB11.size) (hl1.below (hB11.mono hB)) hm1).mono ?_
        rintro e w12 ⟨rfl, hb12, z12⟩
        have hz12 : w11.heap.size + 1 ≤ w12.heap.size := z12.lt
        have hB12 : Below w.heap.size w w12 := hB11.trans (hb12.mono hB11.size)
        have s12 := hb12.size
        have ow12 := own_below' ow11 hb12
        clear ow11
        have og12 := own_below' og11 hb12
        clear og11
        have x0x12 := x0x11.below hb12 (by omega)
        clear x0x11
        have x1x12 := x1x11.below hb12 (by omega)
        clear x1x11
        have x2x12 := x2x11.below hb12 (by omega)
        clear x2x11
        go_wp2_with fail
        refine (eqTokS_any w12 w12.heap.size _ _ n1 n1 n1 n1 l1 l1 (Nat.le_refl _) (x1x12.reads.more (by omega)) (z12.reads.more (by omega)) (by omega) (by omega)).mono ?_
        rintro e w13 ⟨rfl, hb13⟩
        rw [decide_eq_true rfl]
        clear z12
        have hB13 : Below w.heap.size w w13 := hB12.trans (hb13.mono hB12.size)
        have s13 := hb13.size
        have ow13 := own_below' ow12 hb13
        clear ow12
        have og13 := own_below' og12 hb13
        clear og12
        have x0x13 := x0x12.below hb13 (by omega)
        clear x0x12
        have x1x13 := x1x12.below hb13 (by omega)
        clear x1x12
        have x2x13 := x2x12.below hb13 (by omega)
        clear x2x12
        go_wp2_with fail
        refine (toTokS_any w13 B A2 n2 c2 l2 (Nat.le_trans hB hB13.size) (hl2.below (hB13.mono hB)) hm2).mono ?_
        rintro e w14 ⟨rfl, hb14, z14⟩
        have hz14 : w13.heap.size + 1 ≤ w14.heap.size := z14.lt
        have hB14 : Below w.heap.size w w14 := hB13.trans (hb14.mono hB13.size)
        have s14 := hb14.size
        have ow14 := own_below' ow13 hb14
        clear ow13
        have og14 := own_below' og13 hb14
        clear og13
        have x0x14 := x0x13.below hb14 (by omega)
        clear x0x13
        have x1x14 := x1x13.below hb14 (by omega)
        clear x1x13
        have x2x14 := x2x13.below hb14 (by omega)
        clear x2x13
        go_wp2_with fail
        refine (eqTokS_any w14 w14.heap.size _ _ n2 n2 n2 n2 l2 l2 (Nat.le_refl _) (x2x14.reads.more (by omega)) (z14.reads.more (by omega)) (by omega) (by omega)).mono ?_
        rintro e w15 ⟨rfl, hb15⟩
        rw [decide_eq_true rfl]
        clear z14
        have hB15 : Below w.heap.size w w15 := hB14.trans (hb15.mono hB14.size)
        have s15 := hb15.size
        have ow15 := own_below' ow14 hb15
        clear ow14
        have og15 := own_below' og14 hb15
        clear og14
        have x0x15 := x0x14.below hb15 (by omega)
        clear x0x14
        have x1x15 := x1x14.below hb15 (by omega)
        clear x1x14
        have x2x15 := x2x14.below hb15 (by omega)
        clear x2x14
        have hx0 := x0x15.owns hm0
        have ix0 : InR (.slice (some ⟨w4.heap.size, 0, none⟩) n0 n0) w4.heap.size (w4.heap.size + 1) := fun k hk => by have h' : w4.heap.size = k := (by simpa [Value.ownBlock] using hk); omega
        clear x0x15
        go_wp2_with fail
        refine (markConS_any w15 _ _ n0 n0 _ hx0 (1) (by omega) (by omega)).mono ?_
        rintro e w16 ⟨rfl, hk16⟩
        have hB16 : Below w.heap.size w w16 := markBelow hB15 hk16 ix0 (by omega) hB15.size
        have ow16 := markKept ow15 hk16 ix0 iow (by omega)
        clear ow15
        have og16 := markKept og15 hk16 ix0 iog (by omega)
        clear og15
        have x1x16 := x1x15.mark hk16 ix0 (by omega)
        clear x1x15
        have x2x16 := x2x15.mark hk16 ix0 (by omega)
        clear x2x15
        have s16 : w15.heap.size ≤ w16.heap.size := by rw [hk16.2.1]; exact Nat.le_refl _
        clear hk16 hx0
        have hx1 := x1x16.owns hm1
        have ix1 : InR (.slice (some ⟨w5.heap.size, 0, none⟩) n1 n1) w5.heap.size (w5.heap.size + 1) := fun k hk => by have h' : w5.heap.size = k := (by simpa [Value.ownBlock] using hk); omega
        clear x1x16
        go_wp2_with fail
        refine (markTokS_big w16 _ _ n1 n1 _ hx1 (1 + n0 * 3) (by omega) (by omega)).mono ?_
        rintro e w17 ⟨rfl, hk17⟩
        have hB17 : Below w.heap.size w w17 := markBelow hB16 hk17 ix1 (by omega) hB16.size
        have ow17 := markKept ow16 hk17 ix1 iow (by omega)
        clear ow16
        have og17 := markKept og16 hk17 ix1 iog (by omega)
        clear og16
        have x2x17 := x2x16.mark hk17 ix1 (by omega)
        clear x2x16
        have s17 : w16.heap.size ≤ w17.heap.size := by rw [hk17.2.1]; exact Nat.le_refl _
        clear hk17 hx1
        have hx2 := x2x17.owns hm2
        have ix2 : InR (.slice (some ⟨w6.heap.size, 0, none⟩) n2 n2) w6.heap.size (w6.heap.size + 1) := fun k hk => by have h' : w6.heap.size = k := (by simpa [Value.ownBlock] using hk); omega
        clear x2x17
        go_wp2_with fail
        refine (markTokS_big w17 _ _ n2 n2 _ hx2 (1 + n0 * 3 + n1 * 2) (by omega) (by omega)).mono ?_
        rintro e w18 ⟨rfl, hk18⟩
        have hB18 : Below w.heap.size w w18 := markBelow hB17 hk18 ix2 (by omega) hB17.size
        have ow18 := markKept ow17 hk18 ix2 iow (by omega)
        clear ow17
        have og18 := markKept og17 hk18 ix2 iog (by omega)
        clear og17
        have s18 : w17.heap.size ≤ w18.heap.size := by rw [hk18.2.1]; exact Nat.le_refl _
        clear hk18 hx2
        have hkk : ¬ (((1 + n0 * 3 + n1 * 2 + n2 * 2 : Nat) : Int) < 0) := by omega
        go_wp2_with fail
        refine (eqIntS_any w18 w18.heap.size _ _ _ _ _ _ _ _ (Nat.le_refl _) (OwnI.reads og18) (OwnI.reads ow18) (by omega) (by omega)).mono ?_
        rintro e w19 ⟨rfl, hb19⟩
        rw [decide_eq_true rfl]
        have hB19 : Below w.heap.size w w19 := hB18.trans (hb19.mono hB18.size)
        have s19 := hb19.size
        have ow19 := own_below' ow18 hb19
        clear ow18
        have og19 := own_below' og18 hb19
        clear og18
        go_wp2_with fail
        refine (markIntS_any w19 _ _ _ _ _ og19 1 (by omega) (by omega)).mono ?_
        rintro e w20 ⟨rfl, hk20⟩
        have hB20 : Below w.heap.size w w20 := markBelow hB19 hk20 iog (by omega) hB19.size
        have ow20 := markKept ow19 hk20 iog iow (by omega)
        have og20 := hk20.2.2
        have s20 : w19.heap.size ≤ w20.heap.size := by rw [hk20.2.1]; exact Nat.le_refl _
        clear hk20 ow19 og19
        go_wp2_with fail
        refine (heldIntS_any w20 _ _ _ _ 1 og20 (by omega) (by omega)).mono ?_
        rintro e w' ⟨rfl, rfl⟩
        have hq1 : ¬ (((1 + ((witR l0 l1 l2).getD []).length : Nat) : Int) < 0) := by omega
        have hq2 : (((1 + ((witR l0 l1 l2).getD []).length : Nat) : Int) != ((1 + ((witR l0 l1 l2).getD []).length : Nat) : Int)) = false := by simp
        go_wp2_with fail
        refine (toConS_any w20 B A0 n0 c0 l0 (Nat.le_trans hB hB20.size) (hl0.below (hB20.mono hB)) hm0).mono ?_
        rintro e w21 ⟨rfl, hb21, y0x21⟩
        have hz21 : w20.heap.size + 1 ≤ w21.heap.size := y0x21.lt
        have hB21 : Below w.heap.size w w21 := hB20.trans (hb21.mono hB20.size)
        have s21 := hb21.size
        have ow21 := own_below' ow20 hb21
        clear ow20
        have og21 := own_below' og20 hb21
        clear og20
        go_wp2_with fail
        refine (toTokS_any w21 B A1 n1 c1 l1 (Nat.le_trans hB hB21.size) (hl1.below (hB21.mono hB)) hm1).mono ?_
        rintro e w22 ⟨rfl, hb22, y1x22⟩
        have hz22 : w21.heap.size + 1 ≤ w22.heap.size := y1x22.lt
        have hB22 : Below w.heap.size w w22 := hB21.trans (hb22.mono hB21.size)
        have s22 := hb22.size
        have ow22 := own_below' ow21 hb22
        clear ow21
        have og22 := own_below' og21 hb22
        clear og21
        have y0x22 := y0x21.below hb22 (by omega)
        clear y0x21
        go_wp2_with fail
        refine (toTokS_any w22 B A2 n2 c2 l2 (Nat.le_trans hB hB22.size) (hl2.below (hB22.mono hB)) hm2).mono ?_
        rintro e w23 ⟨rfl, hb23, y2x23⟩
        have hz23 : w22.heap.size + 1 ≤ w23.heap.size := y2x23.lt
        have hB23 : Below w.heap.size w w23 := hB22.trans (hb23.mono hB22.size)
        have s23 := hb23.size
        have ow23 := own_below' ow22 hb23
        clear ow22
        have og23 := own_below' og22 hb23
        clear og22
        have y0x23 := y0x22.below hb23 (by omega)
        clear y0x22
        have y1x23 := y1x22.below hb23 (by omega)
        clear y1x22
        go_wp2_with fail
        refine (implWitness_any w23 w23.heap.size (some ⟨w20.heap.size, 0, none⟩) n0 n0 l0 (some ⟨w21.heap.size, 0, none⟩) n1 n1 l1 (some ⟨w22.heap.size, 0, none⟩) n2 n2 l2 pv pc (by omega) (by omega) (by omega) (Nat.le_refl _) (.inl ⟨_, _, rfl⟩) (y0x23.reads.more (by omega)) (by omega) (y1x23.reads.more (by omega)) (by omega) (y2x23.reads.more (by omega)) (by omega) (hE.below (hB23.mono hB) h0) (hEc.below (hB23.mono hB) h0c) (hEt.below (hB23.mono hB) h0t)).mono ?_
        rintro e w24 ⟨Aoh, coh, rfl, oh24, hb24⟩
        have ioh : InR (.slice Aoh ((witR l0 l1 l2).getD []).length coh) w23.heap.size w24.heap.size := own_in oh24
        have hB24 : Below w.heap.size w w24 := hB23.trans (hb24.mono hB23.size)
        have s24 := hb24.size
        have ow24 := own_below' ow23 hb24
        clear ow23
        have og24 := own_below' og23 hb24
        clear og23
        have y0x24 := y0x23.below hb24 (by omega)
        clear y0x23
        have y1x24 := y1x23.below hb24 (by omega)
        clear y1x23
        have y2x24 := y2x23.below hb24 (by omega)
        clear y2x23
        clear y0x24
        clear y1x24
        clear y2x24
        go_wp2_with fail
        refine (eqIntS_any w24 w24.heap.size _ _ _ _ _ _ _ _ (Nat.le_refl _) (OwnI.reads oh24) (OwnI.reads ow24) (by omega) (by omega)).mono ?_
        rintro e w25 ⟨rfl, hb25⟩
        rw [decide_eq_true rfl]
        have hB25 : Below w.heap.size w w25 := hB24.trans (hb25.mono hB24.size)
        have s25 := hb25.size
        have ow25 := own_below' ow24 hb25
        clear ow24
        have og25 := own_below' og24 hb25
        clear og24
        have oh25 := own_below' oh24 hb25
        clear oh24
        go_wp2_with fail
        refine (heldIntS_any w25 _ _ _ _ 1 og25 (by omega) (by omega)).mono ?_
        rintro e w' ⟨rfl, rfl⟩
        go_wp2
        go_ret
        exact ⟨rfl, hB25⟩
end Go.Proofs.YtgebjnoicgmdoaaGreatDoor
