/- The law FnExactConHolds: the walk. -/
import Derived.Test.YtboogdkkcepifaaHold
import Derived.Test.YtboogdkkcepifaaLawC
namespace Go.Proofs.Ytboogdkkcepifaa
open Go.RowKit
open Cs (Cn)

set_option maxRecDepth 100000 in
set_option maxHeartbeats 1600000 in
theorem conHoldsLaw_any (w : World) (B : Nat) (U R V : Int) (A : Option Addr) (n c : Nat) (env : List Int) (hB : B ≤ w.heap.size) (hl : IntR w B A n env) :
    Calls Try.prog 8 #[.agg #[.int .i64 U, .int .i64 R, .int .i64 V], .slice A n c] w fun e w' => e = .returned (.bool true) ∧ Below w.heap.size w w' := by
  obtain ⟨W0, hW0⟩ : ∃ W, w.alloc (.cells #[.int .i64 U, .int .i64 R, .int .i64 V] 44) = W := ⟨_, rfl⟩
  have hB0 : Below w.heap.size w W0 := by rw [← hW0]; exact (Below.refl _ _).alloc (Nat.le_refl _) _
  have bc0 : Blk W0 w.heap.size 44 #[.int .i64 U, .int .i64 R, .int .i64 V] := by rw [← hW0]; exact Blk.made _ _ _
  by_cases hbig : (1048576 : Int) < n
  · have HB0 := Lib.hid hB0
    clear hB0 bc0
    go_enter Try.func8, Try.ntmps8
    go_wp2
    go_ret
    exact ⟨rfl, HB0.out⟩
  · have hn' : n ≤ 1048576 := by omega
    have HC0 := Lib.hid bc0
    have HB0 := Lib.hid hB0
    have HL := Lib.hid hl
    have y0 : W0.cell? ⟨w.heap.size, 0, none⟩ = some (.int .i64 U) := bc0.cell 0
    have y1 : W0.cell? ⟨w.heap.size, 1, none⟩ = some (.int .i64 R) := bc0.cell 1
    have y2 : W0.cell? ⟨w.heap.size, 2, none⟩ = some (.int .i64 V) := bc0.cell 2
    clear bc0 hB0 hl
    go_enter Try.func8, Try.ntmps8
    go_wp2_with fail
    refine (toCon_any U R V W0).mono ?_
    rintro e w1 ⟨rfl, hb1⟩
    have HB1 := Lib.hid (HB0.out.trans (hb1.mono HB0.out.size))
    have HC1 := Lib.hid (Blk.below HC0.out hb1 HC0.out.lt)
    have s1 := HB1.out.size
    clear hb1 y0 y1 y2
    go_wp2_with fail
    refine (toIntS_any w1 B A n c env (by omega) (HL.out.below (HB1.out.mono hB)) hn').mono ?_
    rintro e w2 ⟨rfl, hb2, p2⟩
    have hz2 : w1.heap.size + 1 ≤ w2.heap.size := by obtain ⟨_, cs, hblk, _⟩ := p2; exact hblk.lt
    have HB2 := Lib.hid (HB1.out.trans (hb2.mono s1))
    have HC2 := Lib.hid (Blk.below HC1.out hb2 HC1.out.lt)
    clear hb2
    go_wp2_with fail
    refine (specConHolds_any w2 w2.heap.size (some ⟨w1.heap.size, 0, none⟩) n n env U R V (Nat.le_refl _) (p2.reads.more (by omega)) (by omega)).mono ?_
    rintro e w3 ⟨rfl, hb3⟩
    have HB3 := Lib.hid (HB2.out.trans (hb3.mono HB2.out.size))
    have HC3 := Lib.hid (Blk.below HC2.out hb3 HC2.out.lt)
    have s3 := HB3.out.size
    clear hb3 p2
    go_wp2_with fail
    refine (toIntS_any w3 B A n c env (by omega) (HL.out.below (HB3.out.mono hB)) hn').mono ?_
    rintro e w4 ⟨rfl, hb4, x4⟩
    have hz4 : w3.heap.size + 1 ≤ w4.heap.size := by obtain ⟨_, cs, hblk, _⟩ := x4; exact hblk.lt
    have HB4 := Lib.hid (HB3.out.trans (hb4.mono s3))
    have HC4 := Lib.hid (Blk.below HC3.out hb4 HC3.out.lt)
    have y0 : w4.cell? ⟨w.heap.size, 0, none⟩ = some (.int .i64 U) := HC4.out.cell 0
    have y1 : w4.cell? ⟨w.heap.size, 1, none⟩ = some (.int .i64 R) := HC4.out.cell 1
    have y2 : w4.cell? ⟨w.heap.size, 2, none⟩ = some (.int .i64 V) := HC4.out.cell 2
    clear hb4
    go_wp2_with fail
    refine (toCon_any U R V w4).mono ?_
    rintro e w5 ⟨rfl, hb5⟩
    have HB5 := Lib.hid (HB4.out.trans (hb5.mono HB4.out.size))
    have x5 := x4.below hb5 (by omega)
    have s5 := hb5.size
    clear hb5 x4 y0 y1 y2
    go_wp2_with fail
    refine (implConHolds_any w5 w5.heap.size (some ⟨w3.heap.size, 0, none⟩) n n env U R V (Nat.le_refl _) (x5.reads.more (by omega)) (by omega)).mono ?_
    rintro e w6 ⟨rfl, hb6⟩
    have HB6 := Lib.hid (HB5.out.trans (hb6.mono HB5.out.size))
    have x6 := x5.below hb6 (by omega)
    have s6 := HB6.out.size
    have s6' := hb6.size
    clear hb6 x5
    have hbb : ((conHoldsR (U, R, V) env) != (conHoldsR (U, R, V) env)) = false := by simp
    go_wp2_with fail
    refine (toIntS_any w6 B A n c env (by omega) (HL.out.below (HB6.out.mono hB)) hn').mono ?_
    rintro e w7 ⟨rfl, hb7, y7⟩
    have hz7 : w6.heap.size + 1 ≤ w7.heap.size := by obtain ⟨_, cs, hblk, _⟩ := y7; exact hblk.lt
    have HB7 := Lib.hid (HB6.out.trans (hb7.mono s6))
    have x7 := x6.below hb7 (by omega)
    clear hb7 x6
    go_wp2_with fail
    refine (eqIntS_any w7 w7.heap.size (some ⟨w3.heap.size, 0, none⟩) (some ⟨w6.heap.size, 0, none⟩) n n n n env env (Nat.le_refl _) (x7.reads.more (by omega)) (y7.reads.more (by omega)) (by omega) (by omega)).mono ?_
    rintro e w8 ⟨rfl, hb8⟩
    rw [decide_eq_true rfl]
    have HB8 := Lib.hid (HB7.out.trans (hb8.mono HB7.out.size))
    clear hb8
    go_wp2
    go_ret
    exact ⟨rfl, HB8.out⟩
end Go.Proofs.Ytboogdkkcepifaa
