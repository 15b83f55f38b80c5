/- The law FnExactConsImply: the walk. -/
import Derived.Test.YtboogdkkcepifaaPtImp
import Derived.Test.YtboogdkkcepifaaLawC
import Derived.Deep.RegionHeld3
namespace Go.Proofs.Ytboogdkkcepifaa
open Go.RowKit
open Cs (Cn)

set_option maxRecDepth 100000 in
set_option maxHeartbeats 4000000 in
theorem consImplyLaw_any (w : World) (B : Nat) (A : Option Addr) (n c : Nat) (l : List Cn) (U R V : Int) (hB : B ≤ w.heap.size) (hl : ConR w B A n l) (hn : (n : Int) ≤ 9223372036854775807) :
    Calls Try.prog 13 #[.slice A n c, .agg #[.int .i64 U, .int .i64 R, .int .i64 V]] w fun e w' => e = .returned (.bool true) ∧ Below w.heap.size w w' := by
  obtain ⟨W0, hW0⟩ : ∃ W, w.alloc (.cells #[.int .i64 U, .int .i64 R, .int .i64 V] 44) = W := ⟨_, rfl⟩
  have hB0 : Below w.heap.size w W0 := by rw [← hW0]; exact (Below.refl _ _).alloc (Nat.le_refl _) _
  have hz0 : w.heap.size < W0.heap.size := by rw [← hW0]; simp
  have bc0 : Blk W0 w.heap.size 44 #[.int .i64 U, .int .i64 R, .int .i64 V] := by rw [← hW0]; exact Blk.made _ _ _
  by_cases hbig : (1048576 : Int) < n
  · go_enter Try.func13, Try.ntmps13
    go_wp2_with fail
    refine (szConS_any A n c 1048576 W0 (by omega) (by omega) hn).mono ?_
    rintro e w' ⟨rfl, rfl⟩
    rw [if_pos hbig]
    go_wp2
    go_ret
    exact ⟨rfl, hB0⟩
  · have hn' : n ≤ 1048576 := by omega
    go_enter Try.func13, Try.ntmps13
    go_wp2_with fail
    refine (szConS_any A n c 1048576 W0 (by omega) (by omega) hn).mono ?_
    rintro e w' ⟨rfl, rfl⟩
    rw [if_neg (by omega)]
    have hs : ¬ (1048576 - (n : Int) < 0) := by omega
    have HLD : Hid (ConR W0.drew B A n l) := hl.below (hB0.mono hB).drew
    have hbs : B ≤ W0.drew.heap.size := Nat.le_trans hB hB0.size
    have e0 : W0.cell? ⟨w.heap.size, 0, none⟩ = some (.int .i64 U) := bc0.cell 0
    have e1 : W0.cell? ⟨w.heap.size, 1, none⟩ = some (.int .i64 R) := bc0.cell 1
    have e2 : W0.cell? ⟨w.heap.size, 2, none⟩ = some (.int .i64 V) := bc0.cell 2
    have HBC := Lib.hid bc0
    have HLO := Lib.hid hl
    clear bc0 hl
    go_wp2_with fail
    go_region_held3 (fun w' => w'.cell? ⟨w.heap.size, 0, none⟩ = some (.int .i64 U) ∧ w'.cell? ⟨w.heap.size, 1, none⟩ = some (.int .i64 R) ∧ w'.cell? ⟨w.heap.size, 2, none⟩ = some (.int .i64 V))
      (first
        | go_keep
        | exact ⟨HB1.out.cell 0, HB1.out.cell 1, HB1.out.cell 2⟩
        | exact ⟨HB2.out.cell 0, HB2.out.cell 1, HB2.out.cell 2⟩
        | exact ⟨HB3.out.cell 0, HB3.out.cell 1, HB3.out.cell 2⟩)
      (first
        | (go_at_call 42
           refine (toConS_any W0.drew B A n c l hbs HLD.out hn').mono ?_
           rintro e w1 ⟨rfl, hb1, p1⟩
           have HB1 : Hid (Blk w1 w.heap.size 44 #[.int .i64 U, .int .i64 R, .int .i64 V]) := Blk.below (w := W0.drew) HBC.out hb1 hz0
           have hlt1 : W0.drew.heap.size + 1 ≤ w1.heap.size := p1.lt)
        | (go_at_call 39
           refine (toCon_any U R V w1).mono ?_
           rintro e w2 ⟨rfl, hb2⟩
           have HB2 : Hid (Blk w2 w.heap.size 44 #[.int .i64 U, .int .i64 R, .int .i64 V]) := Blk.below HB1.out hb2 HB1.out.lt
           have hlt2 := hb2.size)
        | (go_at_call 53
           refine (specConsImply_any w2 w2.heap.size (some ⟨W0.drew.heap.size, 0, none⟩) n n l U R V (Nat.le_refl _) ((p1.below hb2 (by omega)).reads.more (by omega)) (by omega)).mono ?_
           rintro e w3 ⟨rfl, hb3⟩
           have HB3 : Hid (Blk w3 w.heap.size 44 #[.int .i64 U, .int .i64 R, .int .i64 V]) := Blk.below HB2.out hb3 HB2.out.lt
           have hlt3 := hb3.size))
    have hB1 : Below w.heap.size w w1 := hB0.drew.trans (hb1.mono (Nat.le_of_lt hz0))
    have hB2 : Below w.heap.size w w2 := hB1.trans (hb2.mono hB1.size)
    have hB3 : Below w.heap.size w w3 := hB2.trans (hb3.mono hB2.size)
    have hz3 : w.heap.size < w3.heap.size := HB3.out.lt
    have bc3 := HB3.out
    have hl := HLO.out
    clear HB1 HB2 HB3 hb1 hb2 hb3 p1 e0 e1 e2 HLD HBC hW0 HLO
    go_wp2_with fail
    refine (toConS_any w3 B A n c l (Nat.le_trans hB hB3.size) (hl.below (hB3.mono hB)) hn').mono ?_
    rintro e w4 ⟨rfl, hb4, x4⟩
    have zx : w3.heap.size + 1 ≤ w4.heap.size := x4.lt
    have hB4 : Below w.heap.size w w4 := hB3.trans (hb4.mono hB3.size)
    have s4 := hb4.size
    have bc4 := bc3.below hb4 (by omega)
    clear bc3
    clear hb4
    have y0 : w4.cell? ⟨w.heap.size, 0, none⟩ = some (.int .i64 U) := bc4.cell 0
    have y1 : w4.cell? ⟨w.heap.size, 1, none⟩ = some (.int .i64 R) := bc4.cell 1
    have y2 : w4.cell? ⟨w.heap.size, 2, none⟩ = some (.int .i64 V) := bc4.cell 2
    go_wp2_with fail
    refine (toCon_any U R V w4).mono ?_
    rintro e w5 ⟨rfl, hb5⟩
    clear y0 y1 y2
    have hB5 : Below w.heap.size w w5 := hB4.trans (hb5.mono hB4.size)
    have s5 := hb5.size
    have bc5 := bc4.below hb5 (by omega)
    clear bc4
    have x5 := x4.below hb5 (by omega)
    clear x4
    clear hb5
    go_wp2_with fail
    refine (implConsImply_any w5 w5.heap.size (some ⟨w3.heap.size, 0, none⟩) n n l U R V (Nat.le_refl _) (x5.reads.more (by omega)) (by omega)).mono ?_
    rintro e w6 ⟨rfl, hb6⟩
    have hB6 : Below w.heap.size w w6 := hB5.trans (hb6.mono hB5.size)
    have s6 := hb6.size
    have bc6 := bc5.below hb6 (by omega)
    clear bc5
    have x6 := x5.below hb6 (by omega)
    clear x5
    clear hb6
    have hbb : ((impR l (U, R, V)) != (impR l (U, R, V))) = false := by simp
    go_wp2_with fail
    refine (toConS_any w6 B A n c l (Nat.le_trans hB hB6.size) (hl.below (hB6.mono hB)) hn').mono ?_
    rintro e w7 ⟨rfl, hb7, yx7⟩
    have zyx : w6.heap.size + 1 ≤ w7.heap.size := yx7.lt
    have hB7 : Below w.heap.size w w7 := hB6.trans (hb7.mono hB6.size)
    have s7 := hb7.size
    have bc7 := bc6.below hb7 (by omega)
    clear bc6
    have x7 := x6.below hb7 (by omega)
    clear x6
    clear hb7
    go_wp2_with fail
    refine (eqConS_any w7 w7.heap.size (some ⟨w3.heap.size, 0, none⟩) (some ⟨w6.heap.size, 0, none⟩) n n n n l l (Nat.le_refl _) (x7.reads.more (by omega)) (yx7.reads.more (by omega)) (by omega) (by omega)).mono ?_
    rintro e w8 ⟨rfl, hb8⟩
    have hB8 : Below w.heap.size w w8 := hB7.trans (hb8.mono hB7.size)
    have s8 := hb8.size
    have bc8 := bc7.below hb8 (by omega)
    clear bc7
    have x8 := x7.below hb8 (by omega)
    clear x7
    have yx8 := yx7.below hb8 (by omega)
    clear yx7
    clear hb8
    rw [decide_eq_true rfl]
    clear yx8
    go_wp2
    go_ret
    exact ⟨rfl, hB8⟩
end Go.Proofs.Ytboogdkkcepifaa
