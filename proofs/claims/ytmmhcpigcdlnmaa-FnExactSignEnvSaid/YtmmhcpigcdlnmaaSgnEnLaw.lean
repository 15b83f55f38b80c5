/- The law FnExactSignEnv: the walk. -/
import Derived.Test.YtmmhcpigcdlnmaaUnSgn
import Derived.Test.YtmmhcpigcdlnmaaLawC2
namespace Go.Proofs.Ytmmhcpigcdlnmaa
open Go.RowKit
open Cs (Cn)

theorem signO_len (l : List Cn) (s : Int) : ((signO l s).getD []).length ≤ 3000000 := by
  unfold signO
  split
  · simp [Cs.leastEnv_len]
  · simp

set_option maxRecDepth 100000 in
set_option maxHeartbeats 4000000 in
theorem signEnvLaw_any (w : World) (B : Nat) (A0 : Option Addr) (n0 c0 : Nat) (l0 : List Cn) (x1 : Int) (hB : B ≤ w.heap.size)
    (hl0 : ConR w B A0 n0 l0) (hn0 : (n0 : Int) ≤ 9223372036854775807) :
    Calls Try.prog 7 #[.slice A0 n0 c0, .int .i64 x1] w fun e w' => e = .returned (.bool true) ∧ Below w.heap.size w w' := by
  by_cases hbig0 : 1048576 < (n0 : Int)
  · go_enter Try.func7, Try.ntmps7
    go_wp2_with fail
    refine (szConS_any A0 n0 c0 (1048576) w (by omega) (by omega) hn0).mono ?_
    rintro e w' ⟨rfl, rfl⟩
    rw [if_pos (by omega)]
    go_wp2
    go_ret
    exact ⟨rfl, (Below.refl _ _)⟩
  · skip
    have hm0 : n0 ≤ 1048576 := by omega
    have hR := signO_len l0 x1
    go_enter Try.func7, Try.ntmps7
    go_wp2_with fail
    refine (szConS_any A0 n0 c0 (1048576) w (by omega) (by omega) hn0).mono ?_
    rintro e w' ⟨rfl, rfl⟩
    rw [if_neg (by omega)]
    have hs0 : ¬ (1048576 - (n0 : Int) < 0) := by omega
    have hB0 : Below w.heap.size w w := (Below.refl _ _)
    go_wp2_with fail
    refine (toConS_any w B A0 n0 c0 l0 (Nat.le_trans hB hB0.size) (hl0.below (hB0.mono hB)) hm0).mono ?_
    rintro e w1 ⟨rfl, hb1, p0x1⟩
    have hz1 : w.heap.size + 1 ≤ w1.heap.size := p0x1.lt
    have hB1 : Below w.heap.size w w1 := hB0.trans (hb1.mono hB0.size)
    have s1 := hb1.size
    go_wp2_with fail
    refine (specSignEnv_any w1 w1.heap.size _ 0 n0 n0 l0 x1 (Nat.le_refl _) (p0x1.reads.more (by omega)) (by omega)).mono ?_
    rintro e w2 ⟨Aow, cow, rfl, ow2, hb2⟩
    have iow : InR (.slice Aow ((signO l0 x1).getD []).length cow) w1.heap.size w2.heap.size := own_in ow2
    have hB2 : Below w.heap.size w w2 := hB1.trans (hb2.mono hB1.size)
    have s2 := hb2.size
    have p0x2 := p0x1.below hb2 (by omega)
    clear p0x1
    clear p0x2
    go_wp2_with fail
    refine (toConS_any w2 B A0 n0 c0 l0 (Nat.le_trans hB hB2.size) (hl0.below (hB2.mono hB)) hm0).mono ?_
    rintro e w3 ⟨rfl, hb3, x0x3⟩
    have hz3 : w2.heap.size + 1 ≤ w3.heap.size := x0x3.lt
    have hB3 : Below w.heap.size w w3 := hB2.trans (hb3.mono hB2.size)
    have s3 := hb3.size
    have ow3 := own_below' ow2 hb3
    clear ow2
    go_wp2_with fail
    refine (implSignEnv_any w3 w3.heap.size _ 0 n0 n0 l0 x1 (Nat.le_refl _) (x0x3.reads.more (by omega)) (by omega)).mono ?_
    rintro e w4 ⟨Aog, cog, rfl, og4, hb4⟩
    have iog : InR (.slice Aog ((signO l0 x1).getD []).length cog) w3.heap.size w4.heap.size := own_in og4
    have hB4 : Below w.heap.size w w4 := hB3.trans (hb4.mono hB3.size)
    have s4 := hb4.size
    have ow4 := own_below' ow3 hb4
    clear ow3
    have x0x4 := x0x3.below hb4 (by omega)
    clear x0x3
    have hbb : (((signO l0 x1)).isSome != ((signO l0 x1)).isSome) = false := by simp
    go_wp2_with fail
    refine (eqIntS_any w4 w4.heap.size _ _ _ _ _ _ _ _ (Nat.le_refl _) (OwnI.reads og4) (OwnI.reads ow4) (by omega) (by omega)).mono ?_
    rintro e w5 ⟨rfl, hb5⟩
    rw [decide_eq_true rfl]
    have hB5 : Below w.heap.size w w5 := hB4.trans (hb5.mono hB4.size)
    have s5 := hb5.size
    have ow5 := own_below' ow4 hb5
    clear ow4
    have og5 := own_below' og4 hb5
    clear og4
    have x0x5 := x0x4.below hb5 (by omega)
    clear x0x4
    go_wp2_with fail
    refine (toConS_any w5 B A0 n0 c0 l0 (Nat.le_trans hB hB5.size) (hl0.below (hB5.mono hB)) hm0).mono ?_
    rintro e w6 ⟨rfl, hb6, z6⟩
    have hz6 : w5.heap.size + 1 ≤ w6.heap.size := z6.lt
    have hB6 : Below w.heap.size w w6 := hB5.trans (hb6.mono hB5.size)
    have s6 := hb6.size
    have ow6 := own_below' ow5 hb6
    clear ow5
    have og6 := own_below' og5 hb6
    clear og5
    have x0x6 := x0x5.below hb6 (by omega)
    clear x0x5
    go_wp2_with fail
    refine (eqConS_any w6 w6.heap.size _ _ n0 n0 n0 n0 l0 l0 (Nat.le_refl _) (x0x6.reads.more (by omega)) (z6.reads.more (by omega)) (by omega) (by omega)).mono ?_
    rintro e w7 ⟨rfl, hb7⟩
    rw [decide_eq_true rfl]
    clear z6
    have hB7 : Below w.heap.size w w7 := hB6.trans (hb7.mono hB6.size)
    have s7 := hb7.size
    have ow7 := own_below' ow6 hb7
    clear ow6
    have og7 := own_below' og6 hb7
    clear og6
    have x0x7 := x0x6.below hb7 (by omega)
    clear x0x6
    have hx0 := x0x7.owns hm0
    have ix0 : InR (.slice (some ⟨w2.heap.size, 0, none⟩) n0 n0) w2.heap.size (w2.heap.size + 1) := fun k hk => by have h' : w2.heap.size = k := (by simpa [Value.ownBlock] using hk); omega
    clear x0x7
    go_wp2_with fail
    refine (markConS_any w7 _ _ n0 n0 _ hx0 (1) (by omega) (by omega)).mono ?_
    rintro e w8 ⟨rfl, hk8⟩
    have hB8 : Below w.heap.size w w8 := markBelow hB7 hk8 ix0 (by omega) hB7.size
    have ow8 := markKept ow7 hk8 ix0 iow (by omega)
    clear ow7
    have og8 := markKept og7 hk8 ix0 iog (by omega)
    clear og7
    have s8 : w7.heap.size ≤ w8.heap.size := by rw [hk8.2.1]; exact Nat.le_refl _
    clear hk8 hx0
    have hkk : ¬ (((1 + n0 * 3 : Nat) : Int) < 0) := by omega
    go_wp2_with fail
    refine (eqIntS_any w8 w8.heap.size _ _ _ _ _ _ _ _ (Nat.le_refl _) (OwnI.reads og8) (OwnI.reads ow8) (by omega) (by omega)).mono ?_
    rintro e w9 ⟨rfl, hb9⟩
    rw [decide_eq_true rfl]
    have hB9 : Below w.heap.size w w9 := hB8.trans (hb9.mono hB8.size)
    have s9 := hb9.size
    have ow9 := own_below' ow8 hb9
    clear ow8
    have og9 := own_below' og8 hb9
    clear og8
    go_wp2_with fail
    refine (markIntS_any w9 _ _ _ _ _ og9 1 (by omega) (by omega)).mono ?_
    rintro e w10 ⟨rfl, hk10⟩
    have hB10 : Below w.heap.size w w10 := markBelow hB9 hk10 iog (by omega) hB9.size
    have ow10 := markKept ow9 hk10 iog iow (by omega)
    have og10 := hk10.2.2
    have s10 : w9.heap.size ≤ w10.heap.size := by rw [hk10.2.1]; exact Nat.le_refl _
    clear hk10 ow9 og9
    go_wp2_with fail
    refine (heldIntS_any w10 _ _ _ _ 1 og10 (by omega) (by omega)).mono ?_
    rintro e w' ⟨rfl, rfl⟩
    have hq1 : ¬ (((1 + ((signO l0 x1).getD []).length : Nat) : Int) < 0) := by omega
    have hq2 : (((1 + ((signO l0 x1).getD []).length : Nat) : Int) != ((1 + ((signO l0 x1).getD []).length : Nat) : Int)) = false := by simp
    go_wp2_with fail
    refine (toConS_any w10 B A0 n0 c0 l0 (Nat.le_trans hB hB10.size) (hl0.below (hB10.mono hB)) hm0).mono ?_
    rintro e w11 ⟨rfl, hb11, y0x11⟩
    have hz11 : w10.heap.size + 1 ≤ w11.heap.size := y0x11.lt
    have hB11 : Below w.heap.size w w11 := hB10.trans (hb11.mono hB10.size)
    have s11 := hb11.size
    have ow11 := own_below' ow10 hb11
    clear ow10
    have og11 := own_below' og10 hb11
    clear og10
    go_wp2_with fail
    refine (implSignEnv_any w11 w11.heap.size _ 0 n0 n0 l0 x1 (Nat.le_refl _) (y0x11.reads.more (by omega)) (by omega)).mono ?_
    rintro e w12 ⟨Aoh, coh, rfl, oh12, hb12⟩
    have ioh : InR (.slice Aoh ((signO l0 x1).getD []).length coh) w11.heap.size w12.heap.size := own_in oh12
    have hB12 : Below w.heap.size w w12 := hB11.trans (hb12.mono hB11.size)
    have s12 := hb12.size
    have ow12 := own_below' ow11 hb12
    clear ow11
    have og12 := own_below' og11 hb12
    clear og11
    have y0x12 := y0x11.below hb12 (by omega)
    clear y0x11
    clear y0x12
    go_wp2_with fail
    refine (eqIntS_any w12 w12.heap.size _ _ _ _ _ _ _ _ (Nat.le_refl _) (OwnI.reads oh12) (OwnI.reads ow12) (by omega) (by omega)).mono ?_
    rintro e w13 ⟨rfl, hb13⟩
    rw [decide_eq_true rfl]
    have hB13 : Below w.heap.size w w13 := hB12.trans (hb13.mono hB12.size)
    have s13 := hb13.size
    have ow13 := own_below' ow12 hb13
    clear ow12
    have og13 := own_below' og12 hb13
    clear og12
    have oh13 := own_below' oh12 hb13
    clear oh12
    go_wp2_with fail
    refine (heldIntS_any w13 _ _ _ _ 1 og13 (by omega) (by omega)).mono ?_
    rintro e w' ⟨rfl, rfl⟩
    go_wp2
    go_ret
    exact ⟨rfl, hB13⟩
end Go.Proofs.Ytmmhcpigcdlnmaa
