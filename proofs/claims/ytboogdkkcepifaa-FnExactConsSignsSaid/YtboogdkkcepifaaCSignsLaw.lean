/- The law of ConsSigns. -/
import Derived.Test.YtboogdkkcepifaaSigns2
import Derived.Test.YtboogdkkcepifaaLawC2
namespace Go.Proofs.Ytboogdkkcepifaa
open Go.RowKit
open Cs (Cn)

set_option maxRecDepth 100000 in
set_option maxHeartbeats 2000000 in
theorem consSignsLaw_any (w : World) (B : Nat) (A : Option Addr) (n c : Nat) (l : List Cn) (hB : B ≤ w.heap.size)
    (hl : ConR w B A n l) (hn : (n : Int) ≤ 9223372036854775807) :
    Calls Try.prog 14 #[.slice A n c] w fun e w' => e = .returned (.bool true) ∧ Below w.heap.size w w' := by
  by_cases hbig : (1048576 : Int) < n
  · go_enter Try.func14, Try.ntmps14
    go_wp2_with fail
    refine (szConS_any A n c 1048576 w (by omega) (by omega) hn).mono ?_
    rintro e w' ⟨rfl, rfl⟩
    rw [if_pos hbig]
    go_wp2
    go_ret
    exact ⟨rfl, Below.refl _ _⟩
  · have hn' : n ≤ 1048576 := by omega
    have hP := signsR_len l
    go_enter Try.func14, Try.ntmps14
    go_wp2_with fail
    refine (szConS_any A n c 1048576 w (by omega) (by omega) hn).mono ?_
    rintro e w' ⟨rfl, rfl⟩
    rw [if_neg (by omega)]
    have hs : ¬ (1048576 - (n : Int) < 0) := by omega
    go_wp2_with fail
    refine (toConS_any w B A n c l hB hl hn').mono ?_
    rintro e w1 ⟨rfl, hb1, ho1⟩
    have hz1 : w.heap.size + 1 ≤ w1.heap.size := by obtain ⟨_, cs, hblk, _⟩ := ho1; exact hblk.lt
    go_wp2_with fail
    refine (specConsSigns_any w1 (w.heap.size + 1) w.heap.size 0 n n l hz1 ho1.reads (by omega)).mono ?_
    rintro e w2 ⟨Aw, cw, rfl, ow2, hb2⟩
    have hB2 : Below w.heap.size w w2 := hb1.trans (hb2.mono hb1.size)
    have iw : InR (.slice Aw (signsR l).length cw) w1.heap.size w2.heap.size := own_in ow2
    have s2 := hb2.size
    go_wp2_with fail
    refine (toConS_any w2 B A n c l (Nat.le_trans hB hB2.size) (hl.below (hB2.mono hB)) hn').mono ?_
    rintro e w3 ⟨rfl, hb3, ho3⟩
    have hz3 : w2.heap.size + 1 ≤ w3.heap.size := by obtain ⟨_, cs, hblk, _⟩ := ho3; exact hblk.lt
    have hB3 : Below w.heap.size w w3 := hB2.trans (hb3.mono hB2.size)
    have ow3 := own_below' ow2 hb3
    have s3 := hB3.size
    go_wp2_with fail
    refine (implConsSigns_any w3 (w2.heap.size + 1) w2.heap.size 0 n n l hz3 ho3.reads (by omega)).mono ?_
    rintro e w4 ⟨Ag, cg, rfl, og4, hb4⟩
    have hB4 : Below w.heap.size w w4 := hB3.trans (hb4.mono hB3.size)
    have ow4 := own_below' ow3 hb4
    have ho4 := ho3.below hb4 (by omega)
    have ig : InR (.slice Ag (signsR l).length cg) w3.heap.size w4.heap.size := own_in og4
    have s4 := hb4.size
    go_wp2_with fail
    refine (eqIntS_any w4 w4.heap.size _ _ _ _ _ _ _ _ (Nat.le_refl _) (OwnI.reads og4) (OwnI.reads ow4) (by omega) (by omega)).mono ?_
    rintro e w5 ⟨rfl, hb5⟩
    rw [decide_eq_true rfl]
    have hB5 : Below w.heap.size w w5 := hB4.trans (hb5.mono hB4.size)
    have ow5 := own_below' ow4 hb5
    have og5 := own_below' og4 hb5
    have ho5 := ho4.below hb5 (by omega)
    have s5 := hb5.size
    go_wp2_with fail
    refine (toConS_any w5 B A n c l (Nat.le_trans hB hB5.size) (hl.below (hB5.mono hB)) hn').mono ?_
    rintro e w6 ⟨rfl, hb6, hq6⟩
    have hz6 : w5.heap.size + 1 ≤ w6.heap.size := by obtain ⟨_, cs, hblk, _⟩ := hq6; exact hblk.lt
    have hB6 : Below w.heap.size w w6 := hB5.trans (hb6.mono hB5.size)
    have ow6 := own_below' ow5 hb6
    have og6 := own_below' og5 hb6
    have ho6 := ho5.below hb6 (by omega)
    go_wp2_with fail
    refine (eqConS_any w6 (w5.heap.size + 1) _ _ n n n n l l hz6 (ho6.reads.more (by omega)) hq6.reads (by omega) (by omega)).mono ?_
    rintro e w7 ⟨rfl, hb7⟩
    rw [decide_eq_true rfl]
    have hB7 : Below w.heap.size w w7 := hB6.trans (hb7.mono hB6.size)
    have ow7 := own_below' ow6 hb7
    have og7 := own_below' og6 hb7
    have hx7 := (ho6.below hb7 (by omega)).owns hn'
    have ix : InR (.slice (some ⟨w2.heap.size, 0, none⟩) n n) w2.heap.size (w2.heap.size + 1) := fun k hk => by
      have : w2.heap.size = k := by simpa [Value.ownBlock] using hk
      omega
    have s7 := hb7.size
    go_wp2_with fail
    refine (markConS_any w7 _ _ n n _ hx7 1 (by omega) (by omega)).mono ?_
    rintro e w8 ⟨rfl, hm8⟩
    have hB8 : Below w.heap.size w w8 := markBelow hB7 hm8 ix (by omega) hB7.size
    have ow8 := markKept ow7 hm8 ix iw (by omega)
    have og8 := markKept og7 hm8 ix ig (by omega)
    have s8 := hm8.2.1
    clear ho1 ho3 ho4 ho5 ho6 hq6 ow2 ow3 ow4 ow5 ow6 ow7 og4 og5 og6 og7 hx7 hm8
    have S8 := Lib.hid s8
    clear s8
    have hk8 : ¬ (((1 + n * 3 : Nat) : Int) < 0) := by omega
    go_wp2_with fail
    refine (eqIntS_any w8 w8.heap.size _ _ _ _ _ _ _ _ (Nat.le_refl _) (OwnI.reads og8) (OwnI.reads ow8) (by omega) (by omega)).mono ?_
    rintro e w9 ⟨rfl, hb9⟩
    rw [decide_eq_true rfl]
    have hB9 : Below w.heap.size w w9 := hB8.trans (hb9.mono hB8.size)
    have ow9 := own_below' ow8 hb9
    have og9 := own_below' og8 hb9
    go_wp2_with fail
    refine (markIntS_any w9 _ _ _ _ _ og9 1 (by omega) (by omega)).mono ?_
    rintro e wa ⟨rfl, hma⟩
    have hBa : Below w.heap.size w wa := markBelow hB9 hma ig (by omega) hB9.size
    have owa := markKept ow9 hma ig iw (by omega)
    have oga := hma.2.2
    have SA := Lib.hid hma.2.1
    clear hma
    go_wp2_with fail
    refine (heldIntS_any wa _ _ _ _ 1 oga (by omega) (by omega)).mono ?_
    rintro e wb ⟨rfl, rfl⟩
    have hq1 : ¬ (((1 + (signsR l).length : Nat) : Int) < 0) := by omega
    have hq2 : (((1 + (signsR l).length : Nat) : Int) != ((1 + (signsR l).length : Nat) : Int)) = false := by simp
    go_wp2_with fail
    refine (toConS_any wa B A n c l (Nat.le_trans hB hBa.size) (hl.below (hBa.mono hB)) hn').mono ?_
    rintro e wc ⟨rfl, hbc, hoc⟩
    have hzc : wa.heap.size + 1 ≤ wc.heap.size := by obtain ⟨_, cs, hblk, _⟩ := hoc; exact hblk.lt
    have hBc : Below w.heap.size w wc := hBa.trans (hbc.mono hBa.size)
    have owc := own_below' owa hbc
    have ogc := own_below' oga hbc
    go_wp2_with fail
    refine (implConsSigns_any wc (wa.heap.size + 1) wa.heap.size 0 n n l hzc hoc.reads (by omega)).mono ?_
    rintro e wd ⟨Ah, ch, rfl, ohd, hbd⟩
    have hBd : Below w.heap.size w wd := hBc.trans (hbd.mono hBc.size)
    have owd := own_below' owc hbd
    have ogd := own_below' ogc hbd
    go_wp2_with fail
    refine (eqIntS_any wd wd.heap.size _ _ _ _ _ _ _ _ (Nat.le_refl _) (OwnI.reads ohd) (OwnI.reads owd) (by omega) (by omega)).mono ?_
    rintro e we ⟨rfl, hbe⟩
    rw [decide_eq_true rfl]
    have hBe : Below w.heap.size w we := hBd.trans (hbe.mono hBd.size)
    have oge := own_below' ogd hbe
    go_wp2_with fail
    refine (heldIntS_any we _ _ _ _ 1 oge (by omega) (by omega)).mono ?_
    rintro e wf ⟨rfl, rfl⟩
    go_wp2
    go_ret
    exact ⟨rfl, hBe⟩
end Go.Proofs.Ytboogdkkcepifaa
