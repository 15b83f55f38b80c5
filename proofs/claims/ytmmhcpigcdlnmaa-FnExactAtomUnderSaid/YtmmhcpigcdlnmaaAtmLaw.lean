/- The law FnExactAtomUnder: the walk. -/
import Derived.Test.YtmmhcpigcdlnmaaUnAtom4
import Derived.Test.YtmmhcpigcdlnmaaLawC
import Derived.Test.YtmmhcpigcdlnmaaNOk2
import Derived.Deep.RegionHeld3

namespace Go.Proofs.Ytmmhcpigcdlnmaa
open Go.RowKit
open Cs (Cn)

set_option maxRecDepth 100000 in
set_option maxHeartbeats 4000000 in
theorem atomUnderLaw_any (w : World) (B : Nat) (A : Option Addr) (n c : Nat) (l : List Cn) (s p x : Int) (A2 : Option Addr) (n2 c2 : Nat) (m : List (Int × Int)) (hB : B ≤ w.heap.size) (hl : ConR w B A n l) (hn : (n : Int) ≤ 9223372036854775807)
    (hm : TokR w B A2 n2 m) (hn2 : (n2 : Int) ≤ 9223372036854775807) :
    Calls Try.prog 8 #[.slice A n c, .int .i64 s, .agg #[.int .i64 p, .int .i64 x], .slice A2 n2 c2] w fun e w' => e = .returned (.bool true) ∧ Below w.heap.size w w' := by
  obtain ⟨W0, hW0⟩ : ∃ W, w.alloc (.cells #[.int .i64 p, .int .i64 x] 53) = W := ⟨_, rfl⟩
  have hB0 : Below w.heap.size w W0 := by rw [← hW0]; exact (Below.refl _ _).alloc (Nat.le_refl _) _
  have hz0 : w.heap.size < W0.heap.size := by rw [← hW0]; simp
  have bc0 : Blk W0 w.heap.size 53 #[.int .i64 p, .int .i64 x] := by rw [← hW0]; exact Blk.made _ _ _
  by_cases hbig : (1048576 : Int) < n
  · go_enter Try.func8, Try.ntmps8
    go_wp2_with fail
    refine (szConS_any A n c 1048576 W0 (by omega) (by omega) hn).mono ?_
    rintro e w' ⟨rfl, rfl⟩
    rw [if_pos hbig]
    go_wp2
    go_ret
    exact ⟨rfl, hB0⟩
  · have hn' : n ≤ 1048576 := by omega
    have hs : ¬ (1048576 - (n : Int) < 0) := by omega
    by_cases hbig2 : (1048576 - (n : Int) : Int) < n2
    · go_enter Try.func8, Try.ntmps8
      go_wp2_with fail
      refine (szConS_any A n c 1048576 W0 (by omega) (by omega) hn).mono ?_
      rintro e w' ⟨rfl, rfl⟩
      rw [if_neg (by omega)]
      go_wp2_with fail
      refine (szAtomS_any A2 n2 c2 (1048576 - (n : Int)) W0 (by omega) (by omega) hn2).mono ?_
      rintro e w' ⟨rfl, rfl⟩
      rw [if_pos hbig2]
      go_wp2
      go_ret
      exact ⟨rfl, hB0⟩
    · have hn2' : n2 ≤ 1048576 := by omega
      have hs2 : ¬ (1048576 - (n : Int) - (n2 : Int) < 0) := by omega
      go_enter Try.func8, Try.ntmps8
      go_wp2_with fail
      refine (szConS_any A n c 1048576 W0 (by omega) (by omega) hn).mono ?_
      rintro e w' ⟨rfl, rfl⟩
      rw [if_neg (by omega)]
      go_wp2_with fail
      refine (szAtomS_any A2 n2 c2 (1048576 - (n : Int)) W0 (by omega) (by omega) hn2).mono ?_
      rintro e w' ⟨rfl, rfl⟩
      rw [if_neg (by omega)]
      have HLD : Hid (ConR W0.drew B A n l) := hl.below (hB0.mono hB).drew
      have HMD : Hid (TokR W0.drew B A2 n2 m) := hm.below (hB0.mono hB).drew
      have hbs : B ≤ W0.drew.heap.size := Nat.le_trans hB hB0.size
      have e0 : W0.cell? ⟨w.heap.size, 0, none⟩ = some (.int .i64 p) := bc0.cell 0
      have e1 : W0.cell? ⟨w.heap.size, 1, none⟩ = some (.int .i64 x) := bc0.cell 1
      have HBC := Lib.hid bc0
      have HLO := Lib.hid hl
      have HMO := Lib.hid hm
      clear bc0 hl hm
      go_wp2_with fail
      go_region_held3 (fun w' => w'.cell? ⟨w.heap.size, 0, none⟩ = some (.int .i64 p) ∧ w'.cell? ⟨w.heap.size, 1, none⟩ = some (.int .i64 x))
        (first
          | go_keep
          | exact ⟨HB1.out.cell 0, HB1.out.cell 1⟩
          | exact ⟨HB2.out.cell 0, HB2.out.cell 1⟩
          | exact ⟨HB3.out.cell 0, HB3.out.cell 1⟩
          | exact ⟨HB4.out.cell 0, HB4.out.cell 1⟩)
        (first
          | (go_at_call 37
             refine (toConS_any W0.drew B A n c l hbs HLD.out hn').mono ?_
             rintro e w1 ⟨rfl, hb1, p1⟩
             have HB1 : Hid (Blk w1 w.heap.size 53 #[.int .i64 p, .int .i64 x]) := Blk.below (w := W0.drew) HBC.out hb1 hz0
             have hlt1 : W0.drew.heap.size + 1 ≤ w1.heap.size := p1.lt)
          | (go_at_call 45
             refine (toAtom_any p x w1).mono ?_
             rintro e w2 ⟨rfl, hb2⟩
             have HB2 : Hid (Blk w2 w.heap.size 53 #[.int .i64 p, .int .i64 x]) := Blk.below HB1.out hb2 HB1.out.lt
             have hlt2 := hb2.size)
          | (go_at_call 46
             refine (toAtomS_any w2 B A2 n2 c2 m (by omega) ((HMD.out.below (hb1.mono hbs)).below (hb2.mono (by omega))) hn2').mono ?_
             rintro e w3 ⟨rfl, hb3, p3⟩
             have HB3 : Hid (Blk w3 w.heap.size 53 #[.int .i64 p, .int .i64 x]) := Blk.below HB2.out hb3 HB2.out.lt
             have hlt3 : w2.heap.size + 1 ≤ w3.heap.size := p3.lt)
          | (go_at_call 44
             refine (specAtomUnder_any w3 w3.heap.size W0.drew.heap.size 0 n n l s p x (some ⟨w2.heap.size, 0, none⟩) n2 n2 m (Nat.le_refl _) (((p1.below hb2 (by omega)).below hb3 (by omega)).reads.more (by omega)) (by omega) (p3.reads.more (by omega)) (by omega)).mono ?_
             rintro e w4 ⟨rfl, hb4⟩
             have HB4 : Hid (Blk w4 w.heap.size 53 #[.int .i64 p, .int .i64 x]) := Blk.below HB3.out hb4 HB3.out.lt
             have hlt4 := hb4.size))
      have hB1 : Below w.heap.size w w1 := hB0.drew.trans (hb1.mono (Nat.le_of_lt hz0))
      have hB2 : Below w.heap.size w w2 := hB1.trans (hb2.mono hB1.size)
      have hB3 : Below w.heap.size w w3 := hB2.trans (hb3.mono hB2.size)
      have hB4 : Below w.heap.size w w4 := hB3.trans (hb4.mono hB3.size)
      have hz4 : w.heap.size < w4.heap.size := HB4.out.lt
      have bc4 := HB4.out
      have hl := HLO.out
      have hm := HMO.out
      clear HB1 HB2 HB3 HB4 hb1 hb2 hb3 hb4 p1 p3 e0 e1 HLD HMD HBC hW0 HLO HMO
      go_wp2_with fail
      refine (toConS_any w4 B A n c l (Nat.le_trans hB hB4.size) (hl.below (hB4.mono hB)) hn').mono ?_
      rintro e w5 ⟨rfl, hb5, x5⟩
      have zx : w4.heap.size + 1 ≤ w5.heap.size := x5.lt
      have hB5 : Below w.heap.size w w5 := hB4.trans (hb5.mono hB4.size)
      have bc5 := bc4.below hb5 (by omega)
      clear bc4 hb5
      go_wp2_with fail
      refine (toAtomS_any w5 B A2 n2 c2 m (Nat.le_trans hB hB5.size) (hm.below (hB5.mono hB)) hn2').mono ?_
      rintro e w6 ⟨rfl, hb6, y6⟩
      have zy : w5.heap.size + 1 ≤ w6.heap.size := y6.lt
      have hB6 : Below w.heap.size w w6 := hB5.trans (hb6.mono hB5.size)
      have bc6 := bc5.below hb6 (by omega)
      have x6 := x5.below hb6 (by omega)
      clear bc5 x5 hb6
      have y0 : w6.cell? ⟨w.heap.size, 0, none⟩ = some (.int .i64 p) := bc6.cell 0
      have y1 : w6.cell? ⟨w.heap.size, 1, none⟩ = some (.int .i64 x) := bc6.cell 1
      go_wp2_with fail
      refine (toAtom_any p x w6).mono ?_
      rintro e w7 ⟨rfl, hb7⟩
      clear y0 y1
      have hB7 : Below w.heap.size w w7 := hB6.trans (hb7.mono hB6.size)
      have s7 := hb7.size
      have x7 := x6.below hb7 (by omega)
      have y7 := y6.below hb7 (by omega)
      clear bc6 x6 y6 hb7
      go_wp2_with fail
      refine (implAtomUnder_any w7 w7.heap.size w4.heap.size 0 n n l s p x (some ⟨w5.heap.size, 0, none⟩) n2 n2 m (Nat.le_refl _) (x7.reads.more (by omega)) (by omega) (y7.reads.more (by omega)) (by omega) (Nat.le_refl _)).mono ?_
      rintro e w8 ⟨rfl, hb8⟩
      have hB8 : Below w.heap.size w w8 := hB7.trans (hb8.mono hB7.size)
      have s8 := hb8.size
      have x8 := x7.below hb8 (by omega)
      have y8 := y7.below hb8 (by omega)
      clear x7 y7 hb8
      have hbb : ((atmR l s (p, x) m) != (atmR l s (p, x) m)) = false := by simp
      go_wp2_with fail
      refine (toConS_any w8 B A n c l (Nat.le_trans hB hB8.size) (hl.below (hB8.mono hB)) hn').mono ?_
      rintro e w9 ⟨rfl, hb9, z9⟩
      have zz : w8.heap.size + 1 ≤ w9.heap.size := z9.lt
      have hB9 : Below w.heap.size w w9 := hB8.trans (hb9.mono hB8.size)
      have x9 := x8.below hb9 (by omega)
      have y9 := y8.below hb9 (by omega)
      clear x8 y8 hb9
      go_wp2_with fail
      refine (eqConS_any w9 w9.heap.size (some ⟨w4.heap.size, 0, none⟩) (some ⟨w8.heap.size, 0, none⟩) n n n n l l (Nat.le_refl _) (x9.reads.more (by omega)) (z9.reads.more (by omega)) (by omega) (by omega)).mono ?_
      rintro e w10 ⟨rfl, hb10⟩
      rw [decide_eq_true rfl]
      have hB10 : Below w.heap.size w w10 := hB9.trans (hb10.mono hB9.size)
      have s10 := hb10.size
      have y10 := y9.below hb10 (by omega)
      clear x9 y9 z9 hb10
      go_wp2_with fail
      refine (toAtomS_any w10 B A2 n2 c2 m (Nat.le_trans hB hB10.size) (hm.below (hB10.mono hB)) hn2').mono ?_
      rintro e w11 ⟨rfl, hb11, z11⟩
      have zw : w10.heap.size + 1 ≤ w11.heap.size := z11.lt
      have hB11 : Below w.heap.size w w11 := hB10.trans (hb11.mono hB10.size)
      have y11 := y10.below hb11 (by omega)
      clear y10 hb11
      go_wp2_with fail
      refine (eqAtomS_any w11 w11.heap.size (some ⟨w5.heap.size, 0, none⟩) (some ⟨w10.heap.size, 0, none⟩) n2 n2 n2 n2 m m (Nat.le_refl _) (y11.reads.more (by omega)) (z11.reads.more (by omega)) (by omega) (by omega)).mono ?_
      rintro e w12 ⟨rfl, hb12⟩
      rw [decide_eq_true rfl]
      have hB12 : Below w.heap.size w w12 := hB11.trans (hb12.mono hB11.size)
      go_wp2
      go_ret
      exact ⟨rfl, hB12⟩
end Go.Proofs.Ytmmhcpigcdlnmaa
