/- The law FnExactArenaLevel: the walk. -/
import Derived.Test.YtfmhmnpmdjpmeaaDoorApMath
import Derived.Test.YtfmhmnpmdjpmeaaDoorLawN2
import Derived.Test.YtfmhmnpmdjpmeaaDoorEvalLaw

namespace Go.Proofs.YtfmhmnpmdjpmeaaDoor
open Go.RowKit

theorem alvR_len {l : List Nd} {n : Nat} {x : Int} : ((alvR l n x).getD []).length ≤ 24 := by
  unfold alvR
  split
  · split
    · simpa
    · simp
  · simp

set_option maxRecDepth 100000 in
set_option maxHeartbeats 4000000 in
theorem arenaLevelLaw_any (w : World) (B : Nat) (A1 : Option Addr) (n1 c1 : Nat) (l1 : List Nd) (x : Int) (T : TypeId) (pv : Value) (h0 : 0 < B) (hB : B ≤ w.heap.size)
    (hl1 : NodR w B A1 n1 l1) (hn1 : (n1 : Int) ≤ 9223372036854775807) (hE : ErrAt w T pv) :
    Calls Tryd.prog 4 #[.slice A1 n1 c1, .int .i64 x] w fun e w' => e = .returned (.bool true) ∧ Below w.heap.size w w' := by
  by_cases hbig : (1048576 : Int) < n1
  · go_enter Tryd.func4, Tryd.ntmps4
    go_wp2_with fail
    refine (szNodeS_any A1 n1 c1 1048576 w (by omega) (by omega) hn1).mono ?_
    rintro e w' ⟨rfl, rfl⟩
    rw [if_pos hbig]
    go_wp2
    go_ret
    exact ⟨rfl, Below.refl _ _⟩
  · have hm1 : n1 ≤ 1048576 := by omega
    have hNL : ((alvR l1 n1 x).getD []).length ≤ 24 := alvR_len
    generalize hRR : alvR l1 n1 x = RR at hNL
    have hspec : ∀ (w : World) (B : Nat) (A : Option Addr) (c : Nat), B ≤ w.heap.size → NodR w B A n1 l1 → Calls Tryd.prog 22 #[.slice A n1 c, .int .i64 x] w (ResP w RR) := by
      intro w B A c h1 h2
      have := specALevel_any w B A n1 c l1 x h1 h2 hm1
      rw [hRR] at this
      exact this
    have himpl : ∀ (w : World) (B : Nat) (A : Option Addr) (c : Nat), 0 < B → ErrAt w T pv → B ≤ w.heap.size → NodR w B A n1 l1 → Calls Tryd.prog 23 #[.slice A n1 c, .int .i64 x] w (ResP w RR) := by
      intro w B A c h0 hE h1 h2
      have := implALevel_any w B A n1 c l1 x T pv h0 h1 h2 hm1 hE
      rw [hRR] at this
      exact this
    clear hRR
    go_enter Tryd.func4, Tryd.ntmps4
    go_wp2_with fail
    refine (szNodeS_any A1 n1 c1 1048576 w (by omega) (by omega) hn1).mono ?_
    rintro e w' ⟨rfl, rfl⟩
    rw [if_neg (by omega)]
    have hs1 : ¬ (1048576 - (n1 : Int) < 0) := by omega
    have hB0 : Below w.heap.size w w := Below.refl _ _
    have hbb : (RR.isSome != RR.isSome) = false := by simp
    go_wp2_with fail
    refine (toNodeS_any w B A1 n1 c1 l1 (Nat.le_trans hB hB0.size) (hl1.below (hB0.mono hB)) hm1).mono ?_
    rintro e w1 ⟨rfl, hb1, p_w1⟩
    have hz1 : w.heap.size + 1 ≤ w1.heap.size := p_w1.lt
    have hB1 : Below w.heap.size w w1 := hB0.trans (hb1.mono hB0.size)
    have s1 := hb1.size
    clear hb1
    go_wp2_with fail
    refine (hspec w1 w1.heap.size (some ⟨w.heap.size, 0, none⟩) n1 (Nat.le_refl _) (p_w1.reads.more (by omega))).mono ?_
    rintro e w2 ⟨Aw, cw, rfl, w_w2, hb2⟩
    have hB2 : Below w.heap.size w w2 := hB1.trans (hb2.mono hB1.size)
    have s2 := hb2.size
    have p_w2 := p_w1.below hb2 (by omega)
    clear p_w1
    clear hb2
    have iw : InR (.slice Aw (RR.getD []).length cw) w1.heap.size w2.heap.size := own_in w_w2
    clear p_w2
    go_wp2_with fail
    refine (toNodeS_any w2 B A1 n1 c1 l1 (Nat.le_trans hB hB2.size) (hl1.below (hB2.mono hB)) hm1).mono ?_
    rintro e w3 ⟨rfl, hb3, x_w3⟩
    have hz3 : w2.heap.size + 1 ≤ w3.heap.size := x_w3.lt
    have hB3 : Below w.heap.size w w3 := hB2.trans (hb3.mono hB2.size)
    have s3 := hb3.size
    have w_w3 := own_below' w_w2 hb3
    clear w_w2
    clear hb3
    go_wp2_with fail
    refine (himpl w3 w3.heap.size (some ⟨w2.heap.size, 0, none⟩) n1 (by omega) (hE.below (hB3.mono hB) h0) (Nat.le_refl _) (x_w3.reads.more (by omega))).mono ?_
    rintro e w4 ⟨Ag, cg, rfl, g_w4, hb4⟩
    have hB4 : Below w.heap.size w w4 := hB3.trans (hb4.mono hB3.size)
    have s4 := hb4.size
    have w_w4 := own_below' w_w3 hb4
    clear w_w3
    have x_w4 := x_w3.below hb4 (by omega)
    clear x_w3
    clear hb4
    have ig : InR (.slice Ag (RR.getD []).length cg) w3.heap.size w4.heap.size := own_in g_w4
    go_wp2_with fail
    refine (eqTokS_any w4 w4.heap.size _ _ _ _ _ _ _ _ (Nat.le_refl _) (OwnT.reads g_w4) (OwnT.reads w_w4) (by omega) (by omega)).mono ?_
    rintro e w5 ⟨rfl, hb5⟩
    rw [decide_eq_true rfl]
    have hB5 : Below w.heap.size w w5 := hB4.trans (hb5.mono hB4.size)
    have s5 := hb5.size
    have w_w5 := own_below' w_w4 hb5
    clear w_w4
    have g_w5 := own_below' g_w4 hb5
    clear g_w4
    have x_w5 := x_w4.below hb5 (by omega)
    clear x_w4
    clear hb5
    go_wp2_with fail
    refine (toNodeS_any w5 B A1 n1 c1 l1 (Nat.le_trans hB hB5.size) (hl1.below (hB5.mono hB)) hm1).mono ?_
    rintro e w6 ⟨rfl, hb6, z_w6⟩
    have hz6 : w5.heap.size + 1 ≤ w6.heap.size := z_w6.lt
    have hB6 : Below w.heap.size w w6 := hB5.trans (hb6.mono hB5.size)
    have s6 := hb6.size
    have w_w6 := own_below' w_w5 hb6
    clear w_w5
    have g_w6 := own_below' g_w5 hb6
    clear g_w5
    have x_w6 := x_w5.below hb6 (by omega)
    clear x_w5
    clear hb6
    go_wp2_with fail
    refine (eqNodeS_any w6 w6.heap.size _ _ n1 n1 n1 n1 l1 l1 (Nat.le_refl _) (x_w6.reads.more (by omega)) (z_w6.reads.more (by omega)) (by omega) (by omega)).mono ?_
    rintro e w7 ⟨rfl, hb7⟩
    rw [decide_eq_true rfl]
    have hB7 : Below w.heap.size w w7 := hB6.trans (hb7.mono hB6.size)
    have s7 := hb7.size
    have w_w7 := own_below' w_w6 hb7
    clear w_w6
    have g_w7 := own_below' g_w6 hb7
    clear g_w6
    have x_w7 := x_w6.below hb7 (by omega)
    clear x_w6
    have z_w7 := z_w6.below hb7 (by omega)
    clear z_w6
    clear hb7
    clear z_w7
    have hx := x_w7.owns hm1
    have ix : InR (.slice (some ⟨w2.heap.size, 0, none⟩) n1 n1) w2.heap.size (w2.heap.size + 1) := fun k hk => by have h' : w2.heap.size = k := (by simpa [Value.ownBlock] using hk); omega
    clear x_w7
    go_wp2_with fail
    refine (markNodeS_any w7 _ _ n1 n1 _ hx (1) (by omega) (by omega)).mono ?_
    rintro e w8 ⟨rfl, hk8⟩
    have hB8 : Below w.heap.size w w8 := markBelow hB7 hk8 ix (by omega) hB7.size
    have w_w8 := markKept w_w7 hk8 ix iw (by omega)
    clear w_w7
    have g_w8 := markKept g_w7 hk8 ix ig (by omega)
    clear g_w7
    have s8 : w7.heap.size ≤ w8.heap.size := by rw [hk8.2.1]; exact Nat.le_refl _
    clear hk8 hx ix
    have hkk : ¬ (((1 + n1 * 4 : Nat) : Int) < 0) := by omega
    go_wp2_with fail
    refine (eqTokS_any w8 w8.heap.size _ _ _ _ _ _ _ _ (Nat.le_refl _) (OwnT.reads g_w8) (OwnT.reads w_w8) (by omega) (by omega)).mono ?_
    rintro e w9 ⟨rfl, hb9⟩
    rw [decide_eq_true rfl]
    have hB9 : Below w.heap.size w w9 := hB8.trans (hb9.mono hB8.size)
    have s9 := hb9.size
    have w_w9 := own_below' w_w8 hb9
    clear w_w8
    have g_w9 := own_below' g_w8 hb9
    clear g_w8
    clear hb9
    go_wp2_with fail
    refine (markTokS_any w9 _ _ _ _ _ g_w9 (1) (by omega) (by omega)).mono ?_
    rintro e w10 ⟨rfl, hk10⟩
    have hB10 : Below w.heap.size w w10 := markBelow hB9 hk10 ig (by omega) hB9.size
    have w_w10 := markKept w_w9 hk10 ig iw (by omega)
    clear w_w9
    have g_w10 := hk10.2.2
    clear g_w9
    have s10 : w9.heap.size ≤ w10.heap.size := by rw [hk10.2.1]; exact Nat.le_refl _
    clear hk10
    go_wp2_with fail
    refine (heldTokS_any w10 _ _ _ _ (1) g_w10 (by omega) (by omega)).mono ?_
    rintro e w' ⟨rfl, rfl⟩
    have hq1 : ¬ (((1 + (RR.getD []).length * 2 : Nat) : Int) < 0) := by omega
    have hq3 : (((1 + (RR.getD []).length * 2 : Nat) : Int) != ((1 + (RR.getD []).length * 2 : Nat) : Int)) = false := by simp
    go_wp2_with fail
    refine (toNodeS_any w10 B A1 n1 c1 l1 (Nat.le_trans hB hB10.size) (hl1.below (hB10.mono hB)) hm1).mono ?_
    rintro e w11 ⟨rfl, hb11, x_w11⟩
    have hz11 : w10.heap.size + 1 ≤ w11.heap.size := x_w11.lt
    have hB11 : Below w.heap.size w w11 := hB10.trans (hb11.mono hB10.size)
    have s11 := hb11.size
    have w_w11 := own_below' w_w10 hb11
    clear w_w10
    have g_w11 := own_below' g_w10 hb11
    clear g_w10
    clear hb11
    go_wp2_with fail
    refine (himpl w11 w11.heap.size (some ⟨w10.heap.size, 0, none⟩) n1 (by omega) (hE.below (hB11.mono hB) h0) (Nat.le_refl _) (x_w11.reads.more (by omega))).mono ?_
    rintro e w12 ⟨Ar, cr, rfl, r_w12, hb12⟩
    have hB12 : Below w.heap.size w w12 := hB11.trans (hb12.mono hB11.size)
    have s12 := hb12.size
    have w_w12 := own_below' w_w11 hb12
    clear w_w11
    have g_w12 := own_below' g_w11 hb12
    clear g_w11
    have x_w12 := x_w11.below hb12 (by omega)
    clear x_w11
    clear hb12
    have ir : InR (.slice Ar (RR.getD []).length cr) w11.heap.size w12.heap.size := own_in r_w12
    clear x_w12
    go_wp2_with fail
    refine (eqTokS_any w12 w12.heap.size _ _ _ _ _ _ _ _ (Nat.le_refl _) (OwnT.reads r_w12) (OwnT.reads w_w12) (by omega) (by omega)).mono ?_
    rintro e w13 ⟨rfl, hb13⟩
    rw [decide_eq_true rfl]
    have hB13 : Below w.heap.size w w13 := hB12.trans (hb13.mono hB12.size)
    have s13 := hb13.size
    have w_w13 := own_below' w_w12 hb13
    clear w_w12
    have g_w13 := own_below' g_w12 hb13
    clear g_w12
    have r_w13 := own_below' r_w12 hb13
    clear r_w12
    clear hb13
    clear w_w13
    clear r_w13
    go_wp2_with fail
    refine (heldTokS_any w13 _ _ _ _ (1) g_w13 (by omega) (by omega)).mono ?_
    rintro e w' ⟨rfl, rfl⟩
    go_wp2
    go_ret
    exact ⟨rfl, hB13⟩
end Go.Proofs.YtfmhmnpmdjpmeaaDoor
