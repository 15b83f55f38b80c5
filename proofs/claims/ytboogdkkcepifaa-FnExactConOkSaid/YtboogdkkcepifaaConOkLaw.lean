/- The law FnExactConOk: the walk. -/
import Derived.Test.YtboogdkkcepifaaPtOk
import Derived.Test.YtboogdkkcepifaaLawC
namespace Go.Proofs.Ytboogdkkcepifaa
open Go.RowKit
open Cs (Cn)

set_option maxRecDepth 100000 in
set_option maxHeartbeats 1600000 in
theorem conOkLaw_any (w : World) (U R V : Int) :
    Calls Try.prog 6 #[.agg #[.int .i64 U, .int .i64 R, .int .i64 V]] w fun e w' => e = .returned (.bool true) ∧ Below w.heap.size w w' := by
  obtain ⟨W0, hW0⟩ : ∃ W, w.alloc (.cells #[.int .i64 U, .int .i64 R, .int .i64 V] 44) = W := ⟨_, rfl⟩
  have hB0 : Below w.heap.size w W0 := by rw [← hW0]; exact (Below.refl _ _).alloc (Nat.le_refl _) _
  have bc0 : Blk W0 w.heap.size 44 #[.int .i64 U, .int .i64 R, .int .i64 V] := by rw [← hW0]; exact Blk.made _ _ _
  have HC0 := Lib.hid bc0
  have HB0 := Lib.hid hB0
  have y0 : W0.cell? ⟨w.heap.size, 0, none⟩ = some (.int .i64 U) := bc0.cell 0
  have y1 : W0.cell? ⟨w.heap.size, 1, none⟩ = some (.int .i64 R) := bc0.cell 1
  have y2 : W0.cell? ⟨w.heap.size, 2, none⟩ = some (.int .i64 V) := bc0.cell 2
  clear bc0 hB0
  go_enter Try.func6, Try.ntmps6
  go_wp2_with fail
  refine (toCon_any U R V W0).mono ?_
  rintro e w1 ⟨rfl, hb1⟩
  have HB1 := Lib.hid (HB0.out.trans (hb1.mono HB0.out.size))
  have HC1 := Lib.hid (Blk.below HC0.out hb1 HC0.out.lt)
  clear hb1 y0 y1 y2
  go_wp2_with fail
  refine (specConOk_any w1 U R V).mono ?_
  rintro e w2 ⟨rfl, hb2⟩
  have HB2 := Lib.hid (HB1.out.trans (hb2.mono HB1.out.size))
  have HC2 := Lib.hid (Blk.below HC1.out hb2 HC1.out.lt)
  clear hb2
  have y0 : w2.cell? ⟨w.heap.size, 0, none⟩ = some (.int .i64 U) := HC2.out.cell 0
  have y1 : w2.cell? ⟨w.heap.size, 1, none⟩ = some (.int .i64 R) := HC2.out.cell 1
  have y2 : w2.cell? ⟨w.heap.size, 2, none⟩ = some (.int .i64 V) := HC2.out.cell 2
  go_wp2_with fail
  refine (toCon_any U R V w2).mono ?_
  rintro e w3 ⟨rfl, hb3⟩
  have HB3 := Lib.hid (HB2.out.trans (hb3.mono HB2.out.size))
  clear hb3 y0 y1 y2
  go_wp2_with fail
  refine (implConOk_any w3 U R V).mono ?_
  rintro e w4 ⟨rfl, hb4⟩
  have HB4 := Lib.hid (HB3.out.trans (hb4.mono HB3.out.size))
  clear hb4
  have hbb : ((Cs.cOk (U, R, V)) != (Cs.cOk (U, R, V))) = false := by simp
  go_wp2
  go_ret
  exact ⟨rfl, HB4.out⟩
end Go.Proofs.Ytboogdkkcepifaa
