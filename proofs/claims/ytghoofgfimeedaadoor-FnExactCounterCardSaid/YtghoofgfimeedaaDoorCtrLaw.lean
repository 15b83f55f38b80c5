/- The law FnExactCounter: the walk. -/
import Derived.Test.YtghoofgfimeedaaDoorDCts

namespace Go.Proofs.YtghoofgfimeedaaDoor
open Go.RowKit

theorem TokOwn.lt {w : World} {g n : Nat} {l : List (Int × Int)} (h : TokOwn w g n l) : g + 1 ≤ w.heap.size := by obtain ⟨_, cs, hblk, _⟩ := h; exact hblk.lt
theorem TokOwn.mark {w w' : World} {g n base m k size : Nat} {e : TypeId} {v : Value} {l : List (Int × Int)} {lo hi : Nat} (h : TokOwn w g n l) (hm : MarkOut w base e size v m k w') (hv : InR v lo hi) (hd : g < lo ∨ hi ≤ g) : TokOwn w' g n l := by
  have hlt := h.lt
  obtain ⟨hl, cs, hblk, rest⟩ := h
  refine ⟨hl, cs, ?_, rest⟩
  exact (hm.1.block g (by omega) (fun he => by have := hv g he.symm; omega)).trans hblk

set_option maxRecDepth 100000 in
set_option maxHeartbeats 4000000 in
theorem counterLaw_any (w : World) (B : Nat) (A0 : Option Addr) (n0 c0 : Nat) (l0 : List (Int × Int)) (A1 : Option Addr) (n1 c1 : Nat) (l1 : List (Int × Int)) (T : TypeId) (pv : Value) (h0 : 0 < B) (hB : B ≤ w.heap.size)
    (hl0 : TokR w B A0 n0 l0) (hn0 : (n0 : Int) ≤ 9223372036854775807) (hl1 : TokR w B A1 n1 l1) (hn1 : (n1 : Int) ≤ 9223372036854775807) (hE : ErrAt w T pv) :
    Calls Tryd.prog 10 #[.slice A0 n0 c0, .slice A1 n1 c1] w fun e w' => e = .returned (.bool true) ∧ Below w.heap.size w w' := by
  by_cases hbig0 : 1048576 < (n0 : Int)
  · go_enter Tryd.func10, Tryd.ntmps10
    go_wp2_with fail
    refine (szTokS_any A0 n0 c0 (1048576) w (by omega) (by omega) hn0).mono ?_
    rintro e w' ⟨rfl, rfl⟩
    rw [if_pos (by omega)]
    go_wp2
    go_ret
    exact ⟨rfl, (Below.refl _ _)⟩
  · skip
    by_cases hbig1 : 1048576 - (n0 : Int) < (n1 : Int)
    · go_enter Tryd.func10, Tryd.ntmps10
      go_wp2_with fail
      refine (szTokS_any A0 n0 c0 (1048576) w (by omega) (by omega) hn0).mono ?_
      rintro e w' ⟨rfl, rfl⟩
      rw [if_neg (by omega)]
      have hs0 : ¬ (1048576 - (n0 : Int) < 0) := by omega
      go_wp2_with fail
      refine (szTokS_any A1 n1 c1 (1048576 - (n0 : Int)) w (by omega) (by omega) hn1).mono ?_
      rintro e w' ⟨rfl, rfl⟩
      rw [if_pos (by omega)]
      go_wp2
      go_ret
      exact ⟨rfl, (Below.refl _ _)⟩
    · skip
      have hm0 : n0 ≤ 1048576 := by omega
      have hm1 : n1 ≤ 1048576 := by omega
      have hR := Dc.ctrR_len l0 l1
      go_enter Tryd.func10, Tryd.ntmps10
      go_wp2_with fail
      refine (szTokS_any A0 n0 c0 (1048576) w (by omega) (by omega) hn0).mono ?_
      rintro e w' ⟨rfl, rfl⟩
      rw [if_neg (by omega)]
      have hs0 : ¬ (1048576 - (n0 : Int) < 0) := by omega
      go_wp2_with fail
      refine (szTokS_any A1 n1 c1 (1048576 - (n0 : Int)) w (by omega) (by omega) hn1).mono ?_
      rintro e w' ⟨rfl, rfl⟩
      rw [if_neg (by omega)]
      have hs1 : ¬ (1048576 - (n0 : Int) - (n1 : Int) < 0) := by omega
      have hB0 : Below w.heap.size w w := (Below.refl _ _)
      go_wp2_with fail
      refine (toTokS_any w B A0 n0 c0 l0 (Nat.le_trans hB hB0.size) (hl0.below (hB0.mono hB)) hm0).mono ?_
      rintro e w1 ⟨rfl, hb1, p0x1⟩
      have hz1 : w.heap.size + 1 ≤ w1.heap.size := p0x1.lt
      have hB1 : Below w.heap.size w w1 := hB0.trans (hb1.mono hB0.size)
      have s1 := hb1.size
      go_wp2_with fail
      refine (toTokS_any w1 B A1 n1 c1 l1 (Nat.le_trans hB hB1.size) (hl1.below (hB1.mono hB)) hm1).mono ?_
      rintro e w2 ⟨rfl, hb2, p1x2⟩
      have hz2 : w1.heap.size + 1 ≤ w2.heap.size := p1x2.lt
      have hB2 : Below w.heap.size w w2 := hB1.trans (hb2.mono hB1.size)
      have s2 := hb2.size
      have p0x2 := p0x1.below hb2 (by omega)
      clear p0x1
      go_wp2_with fail
      refine (specCounter_any w2 w2.heap.size (some ⟨w.heap.size, 0, none⟩) n0 n0 l0 (some ⟨w1.heap.size, 0, none⟩) n1 n1 l1 (Nat.le_refl _) (p0x2.reads.more (by omega)) (by omega) (p1x2.reads.more (by omega)) (by omega)).mono ?_
      rintro e w3 ⟨Aow, cow, rfl, ow3, hb3⟩
      have iow : InR (.slice Aow ((Dc.ctrR l0 l1).getD []).length cow) w2.heap.size w3.heap.size := own_in ow3
      have hB3 : Below w.heap.size w w3 := hB2.trans (hb3.mono hB2.size)
      have s3 := hb3.size
      have p0x3 := p0x2.below hb3 (by omega)
      clear p0x2
      have p1x3 := p1x2.below hb3 (by omega)
      clear p1x2
      clear p0x3
      clear p1x3
      go_wp2_with fail
      refine (toTokS_any w3 B A0 n0 c0 l0 (Nat.le_trans hB hB3.size) (hl0.below (hB3.mono hB)) hm0).mono ?_
      rintro e w4 ⟨rfl, hb4, x0x4⟩
      have hz4 : w3.heap.size + 1 ≤ w4.heap.size := x0x4.lt
      have hB4 : Below w.heap.size w w4 := hB3.trans (hb4.mono hB3.size)
      have s4 := hb4.size
      have ow4 := own_below' ow3 hb4
      clear ow3
      go_wp2_with fail
      refine (toTokS_any w4 B A1 n1 c1 l1 (Nat.le_trans hB hB4.size) (hl1.below (hB4.mono hB)) hm1).mono ?_
      rintro e w5 ⟨rfl, hb5, x1x5⟩
      have hz5 : w4.heap.size + 1 ≤ w5.heap.size := x1x5.lt
      have hB5 : Below w.heap.size w w5 := hB4.trans (hb5.mono hB4.size)
      have s5 := hb5.size
      have ow5 := own_below' ow4 hb5
      clear ow4
      have x0x5 := x0x4.below hb5 (by omega)
      clear x0x4
      go_wp2_with fail
      refine (implCounter_any w5 w5.heap.size (some ⟨w3.heap.size, 0, none⟩) n0 n0 l0 (some ⟨w4.heap.size, 0, none⟩) n1 n1 l1 T pv (by omega) (Nat.le_refl _) (x0x5.reads.more (by omega)) (by omega) (x1x5.reads.more (by omega)) (by omega) (hE.below (hB5.mono hB) h0)).mono ?_
      rintro e w6 ⟨Aog, cog, rfl, og6, hb6⟩
      have iog : InR (.slice Aog ((Dc.ctrR l0 l1).getD []).length cog) w5.heap.size w6.heap.size := own_in og6
      have hB6 : Below w.heap.size w w6 := hB5.trans (hb6.mono hB5.size)
      have s6 := hb6.size
      have ow6 := own_below' ow5 hb6
      clear ow5
      have x0x6 := x0x5.below hb6 (by omega)
      clear x0x5
      have x1x6 := x1x5.below hb6 (by omega)
      clear x1x5
      have hbb : (((Dc.ctrR l0 l1)).isSome != ((Dc.ctrR l0 l1)).isSome) = false := by simp
      go_wp2_with fail
      refine (eqIntS_any w6 w6.heap.size _ _ _ _ _ _ _ _ (Nat.le_refl _) (OwnI.reads og6) (OwnI.reads ow6) (by omega) (by omega)).mono ?_
      rintro e w7 ⟨rfl, hb7⟩
      rw [decide_eq_true rfl]
      have hB7 : Below w.heap.size w w7 := hB6.trans (hb7.mono hB6.size)
      have s7 := hb7.size
      have ow7 := own_below' ow6 hb7
      clear ow6
      have og7 := own_below' og6 hb7
      clear og6
      have x0x7 := x0x6.below hb7 (by omega)
      clear x0x6
      have x1x7 := x1x6.below hb7 (by omega)
      clear x1x6
      go_wp2_with fail
      refine (toTokS_any w7 B A0 n0 c0 l0 (Nat.le_trans hB hB7.size) (hl0.below (hB7.mono hB)) hm0).mono ?_
      rintro e w8 ⟨rfl, hb8, z8⟩
      have hz8 : w7.heap.size + 1 ≤ w8.heap.size := z8.lt
      have hB8 : Below w.heap.size w w8 := hB7.trans (hb8.mono hB7.size)
      have s8 := hb8.size
      have ow8 := own_below' ow7 hb8
      clear ow7
      have og8 := own_below' og7 hb8
      clear og7
      have x0x8 := x0x7.below hb8 (by omega)
      clear x0x7
      have x1x8 := x1x7.below hb8 (by omega)
      clear x1x7
      go_wp2_with fail
      refine (eqTokS_any w8 w8.heap.size _ _ n0 n0 n0 n0 l0 l0 (Nat.le_refl _) (x0x8.reads.more (by omega)) (z8.reads.more (by omega)) (by omega) (by omega)).mono ?_
      rintro e w9 ⟨rfl, hb9⟩
      rw [decide_eq_true rfl]
      clear z8
      have hB9 : Below w.heap.size w w9 := hB8.trans (hb9.mono hB8.size)
      have s9 := hb9.size
      have ow9 := own_below' ow8 hb9
      clear ow8
      have og9 := own_below' og8 hb9
      clear og8
      have x0x9 := x0x8.below hb9 (by omega)
      clear x0x8
      have x1x9 := x1x8.below hb9 (by omega)
      clear x1x8
      go_wp2_with fail
      refine (toTokS_any w9 B A1 n1 c1 l1 (Nat.le_trans hB hB9.size) (hl1.below (hB9.mono hB)) hm1).mono ?_
      rintro e w10 ⟨rfl, hb10, z10⟩
      have hz10 : w9.heap.size + 1 ≤ w10.heap.size := z10.lt
      have hB10 : Below w.heap.size w w10 := hB9.trans (hb10.mono hB9.size)
      have s10 := hb10.size
      have ow10 := own_below' ow9 hb10
      clear ow9
      have og10 := own_below' og9 hb10
      clear og9
      have x0x10 := x0x9.below hb10 (by omega)
      clear x0x9
      have x1x10 := x1x9.below hb10 (by omega)
      clear x1x9
      go_wp2_with fail
      refine (eqTokS_any w10 w10.heap.size _ _ n1 n1 n1 n1 l1 l1 (Nat.le_refl _) (x1x10.reads.more (by omega)) (z10.reads.more (by omega)) (by omega) (by omega)).mono ?_
      rintro e w11 ⟨rfl, hb11⟩
      rw [decide_eq_true rfl]
      clear z10
      have hB11 : Below w.heap.size w w11 := hB10.trans (hb11.mono hB10.size)
      have s11 := hb11.size
      have ow11 := own_below' ow10 hb11
      clear ow10
      have og11 := own_below' og10 hb11
      clear og10
      have x0x11 := x0x10.below hb11 (by omega)
      clear x0x10
      have x1x11 := x1x10.below hb11 (by omega)
      clear x1x10
      have hx0 := x0x11.owns hm0
      have ix0 : InR (.slice (some ⟨w3.heap.size, 0, none⟩) n0 n0) w3.heap.size (w3.heap.size + 1) := fun k hk => by have h' : w3.heap.size = k := (by simpa [Value.ownBlock] using hk); omega
      clear x0x11
      go_wp2_with fail
      refine (markTokS_any w11 _ _ n0 n0 _ hx0 (1) (by omega) (by omega)).mono ?_
      rintro e w12 ⟨rfl, hk12⟩
      have hB12 : Below w.heap.size w w12 := markBelow hB11 hk12 ix0 (by omega) hB11.size
      have ow12 := markKept ow11 hk12 ix0 iow (by omega)
      clear ow11
      have og12 := markKept og11 hk12 ix0 iog (by omega)
      clear og11
      have x1x12 := x1x11.mark hk12 ix0 (by omega)
      clear x1x11
      have s12 : w11.heap.size ≤ w12.heap.size := by rw [hk12.2.1]; exact Nat.le_refl _
      clear hk12 hx0
      have hx1 := x1x12.owns hm1
      have ix1 : InR (.slice (some ⟨w4.heap.size, 0, none⟩) n1 n1) w4.heap.size (w4.heap.size + 1) := fun k hk => by have h' : w4.heap.size = k := (by simpa [Value.ownBlock] using hk); omega
      clear x1x12
      go_wp2_with fail
      refine (markTokS_any w12 _ _ n1 n1 _ hx1 (1 + n0 * 2) (by omega) (by omega)).mono ?_
      rintro e w13 ⟨rfl, hk13⟩
      have hB13 : Below w.heap.size w w13 := markBelow hB12 hk13 ix1 (by omega) hB12.size
      have ow13 := markKept ow12 hk13 ix1 iow (by omega)
      clear ow12
      have og13 := markKept og12 hk13 ix1 iog (by omega)
      clear og12
      have s13 : w12.heap.size ≤ w13.heap.size := by rw [hk13.2.1]; exact Nat.le_refl _
      clear hk13 hx1
      have hkk : ¬ (((1 + n0 * 2 + n1 * 2 : Nat) : Int) < 0) := by omega
      go_wp2_with fail
      refine (eqIntS_any w13 w13.heap.size _ _ _ _ _ _ _ _ (Nat.le_refl _) (OwnI.reads og13) (OwnI.reads ow13) (by omega) (by omega)).mono ?_
      rintro e w14 ⟨rfl, hb14⟩
      rw [decide_eq_true rfl]
      have hB14 : Below w.heap.size w w14 := hB13.trans (hb14.mono hB13.size)
      have s14 := hb14.size
      have ow14 := own_below' ow13 hb14
      clear ow13
      have og14 := own_below' og13 hb14
      clear og13
      go_wp2_with fail
      refine (markIntS_any w14 _ _ _ _ _ og14 1 (by omega) (by omega)).mono ?_
      rintro e w15 ⟨rfl, hk15⟩
      have hB15 : Below w.heap.size w w15 := markBelow hB14 hk15 iog (by omega) hB14.size
      have ow15 := markKept ow14 hk15 iog iow (by omega)
      have og15 := hk15.2.2
      have s15 : w14.heap.size ≤ w15.heap.size := by rw [hk15.2.1]; exact Nat.le_refl _
      clear hk15 ow14 og14
      go_wp2_with fail
      refine (heldIntS_any w15 _ _ _ _ 1 og15 (by omega) (by omega)).mono ?_
      rintro e w' ⟨rfl, rfl⟩
      have hq1 : ¬ (((1 + ((Dc.ctrR l0 l1).getD []).length : Nat) : Int) < 0) := by omega
      have hq2 : (((1 + ((Dc.ctrR l0 l1).getD []).length : Nat) : Int) != ((1 + ((Dc.ctrR l0 l1).getD []).length : Nat) : Int)) = false := by simp
      go_wp2_with fail
      refine (toTokS_any w15 B A0 n0 c0 l0 (Nat.le_trans hB hB15.size) (hl0.below (hB15.mono hB)) hm0).mono ?_
      rintro e w16 ⟨rfl, hb16, y0x16⟩
      have hz16 : w15.heap.size + 1 ≤ w16.heap.size := y0x16.lt
      have hB16 : Below w.heap.size w w16 := hB15.trans (hb16.mono hB15.size)
      have s16 := hb16.size
      have ow16 := own_below' ow15 hb16
      clear ow15
      have og16 := own_below' og15 hb16
      clear og15
      go_wp2_with fail
      refine (toTokS_any w16 B A1 n1 c1 l1 (Nat.le_trans hB hB16.size) (hl1.below (hB16.mono hB)) hm1).mono ?_
      rintro e w17 ⟨rfl, hb17, y1x17⟩
      have hz17 : w16.heap.size + 1 ≤ w17.heap.size := y1x17.lt
      have hB17 : Below w.heap.size w w17 := hB16.trans (hb17.mono hB16.size)
      have s17 := hb17.size
      have ow17 := own_below' ow16 hb17
      clear ow16
      have og17 := own_below' og16 hb17
      clear og16
      have y0x17 := y0x16.below hb17 (by omega)
      clear y0x16
      go_wp2_with fail
      refine (implCounter_any w17 w17.heap.size (some ⟨w15.heap.size, 0, none⟩) n0 n0 l0 (some ⟨w16.heap.size, 0, none⟩) n1 n1 l1 T pv (by omega) (Nat.le_refl _) (y0x17.reads.more (by omega)) (by omega) (y1x17.reads.more (by omega)) (by omega) (hE.below (hB17.mono hB) h0)).mono ?_
      rintro e w18 ⟨Aoh, coh, rfl, oh18, hb18⟩
      have ioh : InR (.slice Aoh ((Dc.ctrR l0 l1).getD []).length coh) w17.heap.size w18.heap.size := own_in oh18
      have hB18 : Below w.heap.size w w18 := hB17.trans (hb18.mono hB17.size)
      have s18 := hb18.size
      have ow18 := own_below' ow17 hb18
      clear ow17
      have og18 := own_below' og17 hb18
      clear og17
      have y0x18 := y0x17.below hb18 (by omega)
      clear y0x17
      have y1x18 := y1x17.below hb18 (by omega)
      clear y1x17
      clear y0x18
      clear y1x18
      go_wp2_with fail
      refine (eqIntS_any w18 w18.heap.size _ _ _ _ _ _ _ _ (Nat.le_refl _) (OwnI.reads oh18) (OwnI.reads ow18) (by omega) (by omega)).mono ?_
      rintro e w19 ⟨rfl, hb19⟩
      rw [decide_eq_true rfl]
      have hB19 : Below w.heap.size w w19 := hB18.trans (hb19.mono hB18.size)
      have s19 := hb19.size
      have ow19 := own_below' ow18 hb19
      clear ow18
      have og19 := own_below' og18 hb19
      clear og18
      have oh19 := own_below' oh18 hb19
      clear oh18
      go_wp2_with fail
      refine (heldIntS_any w19 _ _ _ _ 1 og19 (by omega) (by omega)).mono ?_
      rintro e w' ⟨rfl, rfl⟩
      go_wp2
      go_ret
      exact ⟨rfl, hB19⟩
end Go.Proofs.YtghoofgfimeedaaDoor
