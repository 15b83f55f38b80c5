/- The machine does one token over whatever lies on its stack. -/
import Derived.Test.YtfmhmnpmdjpmeaaDoorMkActs
import Derived.Test.YtfmhmnpmdjpmeaaDoorAct

namespace Go.Proofs.YtfmhmnpmdjpmeaaDoor
open Go.RowKit
attribute [local go_sem] run_store_fn

set_option maxRecDepth 100000 in
set_option maxHeartbeats 2000000 in
theorem actK_any (w : World) (B bm : Nat) (env st st' : List Int) (T : TypeId) (pv : Value) (b n c : Nat) (op N : Int) (hn : n = 1)
    (hB : 0 < B) (hm : Mach w B bm env st) (hE : ErrAt w T pv) (hs : st.length ≤ 800) (hv : ∀ x ∈ st, 0 ≤ x ∧ x ≤ 100000) (hb : b < w.heap.size)
    (c1 : w.cell? ⟨b, 0, none⟩ = some (.int .i64 op)) (c2 : w.cell? ⟨b, 1, none⟩ = some (.int .i64 N)) (hst : Lv.step env (op, N) st = some st') :
    Calls Tryd.prog 70 #[.pointer (some ⟨bm, 0, none⟩), .slice (some ⟨b, 0, none⟩) n c] w fun e w' => e = .returned (.tuple #[]) ∧ Mach w' B bm env st' ∧ Below B w w' ∧ KeepA bm w w' := by
  have hmf : ∀ (fn : Fn) (first cap : Array Value) (w : World), (Instr.makeFunc fn first cap).run Tryd.prog w = .ok (.func fn first cap) w := fun _ _ _ _ => rfl
  have hsz := hm.size
  have hbm : bm < w.heap.size := by obtain ⟨_, _, _, _, h, _⟩ := hm; exact h.lt
  have hop : op = 0 ∨ op = 1 ∨ op = 2 ∨ op = 3 ∨ op = 4 := by
    have : Lv.tkOk (op, N) = true := by
      cases h : Lv.tkOk (op, N) with
      | true => rfl
      | false => unfold Lv.step at hst; simp [h] at hst
    simp [Lv.tkOk] at this
    omega
  have hstart : Hid (Mach (w.alloc (.cells (table bm) 135)) B bm env st ∧ Below w.heap.size w (w.alloc (.cells (table bm) 135)) ∧ Blk (w.alloc (.cells (table bm) 135)) w.heap.size 135 (table bm)) :=
    ⟨hm.alloc _, (Below.refl _ _).alloc (Nat.le_refl _) _, Blk.made _ _ _⟩
  have hn0 : (0 : Int) < n := by omega
  have hn1 : ¬ (1 : Int) < n := by omega
  clear hn
  have HV := Lib.hid hv
  have HST := Lib.hid hst
  have HE := Lib.hid hE
  clear hv hst hE hm
  go_enter Tryd.func70, Tryd.ntmps70
  go_wp2
  go_loopw [20] (fun i wr => Hid ((i = .int .i64 0 ∧ Mach wr B bm env st ∧ Below w.heap.size w wr ∧ Blk wr w.heap.size 135 (table bm)) ∨ (i = .int .i64 1 ∧ Mach wr B bm env st' ∧ Below B w wr ∧ KeepA bm w wr))) (fun i _ => (1 - intOf i).toNat)
  case atStart => exact .inl ⟨rfl, hstart.out⟩
  case round =>
    rcases hrel.out with ⟨rfl, hmr, hbel, htab⟩ | ⟨rfl, hm', hb', hk'⟩
    · have d1 := (hbel.cell (p := ⟨b, 0, none⟩) hb).trans c1
      have d2 := (hbel.cell (p := ⟨b, 1, none⟩) hb).trans c2
      have hszr := hmr.size
      have hbm' : bm < (wr.alloc (.cells #[.int .i64 op, .int .i64 N] 70)).drew.heap.size := Nat.lt_of_lt_of_le hbm (hbel.alloc hbel.size _).size
      have HX1 : Hid (Below w.heap.size w (wr.alloc (.cells #[.int .i64 op, .int .i64 N] 70)).drew) := (hbel.alloc hbel.size _).drew
      have HX3 : Hid (ErrAt (wr.alloc (.cells #[.int .i64 op, .int .i64 N] 70)).drew T pv) := HE.out.below HX1.out (by omega)
      have HX5 : Hid (Mach (wr.alloc (.cells #[.int .i64 op, .int .i64 N] 70)).drew B bm env st) := hmr.alloc _
      have hf0 : wr.cell? ⟨w.heap.size, 0, none⟩ = some (.func (.func 100) #[.pointer (some ⟨bm, 0, none⟩)] #[]) := htab.cell 0
      have hf1 : wr.cell? ⟨w.heap.size, 1, none⟩ = some (.func (.func 101) #[.pointer (some ⟨bm, 0, none⟩)] #[]) := htab.cell 1
      have hf2 : wr.cell? ⟨w.heap.size, 2, none⟩ = some (.func (.func 102) #[.pointer (some ⟨bm, 0, none⟩)] #[]) := htab.cell 2
      have hf3 : wr.cell? ⟨w.heap.size, 3, none⟩ = some (.func (.func 103) #[.pointer (some ⟨bm, 0, none⟩)] #[]) := htab.cell 3
      have hf4 : wr.cell? ⟨w.heap.size, 4, none⟩ = some (.func (.func 104) #[.pointer (some ⟨bm, 0, none⟩)] #[]) := htab.cell 4
      have HBM := Lib.hid hbm
      have hz := htab.lt
      clear htab hmr hbel hbm hbm' hrel hstart c1 c2
      rcases hop with rfl | rfl | rfl | rfl | rfl
      · clear hf1 hf2 hf3 hf4
        go_wp2_with fail
        refine region_tail 6 (by kernel_rfl) (by kernel_rfl) ?_
        simp only [List.take_succ_cons, List.take_zero, List.drop_succ_cons, List.drop_zero]
        repeat still_step
        refine wpStill_nil ?_
        go_wp2_with fail
        refine (zeroK_any _ B bm env st T pv N HX5.out (by omega) HX3.out).mono ?_
        rintro e w' ⟨hb1, hk1, hS⟩
        rw [HST.out] at hS
        obtain ⟨rfl, hm1⟩ := hS
        have HD : Hid (Mach w' B bm env st' ∧ Below B w w' ∧ KeepA bm w w') := ⟨hm1, (HX1.out.mono hsz).trans hb1, (KeepA.below HBM.out HX1.out).trans hk1⟩
        clear hm1 hb1 hk1
        go_wp2
        go_roundw
        case rel => exact .inr ⟨rfl, HD.out⟩
        case measure => simp [intOf]
      · clear hf0 hf2 hf3 hf4
        go_wp2_with fail
        refine region_tail 6 (by kernel_rfl) (by kernel_rfl) ?_
        simp only [List.take_succ_cons, List.take_zero, List.drop_succ_cons, List.drop_zero]
        repeat still_step
        refine wpStill_nil ?_
        go_wp2_with fail
        refine (succK_any _ B bm env st T pv N HX5.out (by omega) HV.out HX3.out).mono ?_
        rintro e w' ⟨hb1, hk1, hS⟩
        rw [HST.out] at hS
        obtain ⟨rfl, hm1⟩ := hS
        have HD : Hid (Mach w' B bm env st' ∧ Below B w w' ∧ KeepA bm w w') := ⟨hm1, (HX1.out.mono hsz).trans hb1, (KeepA.below HBM.out HX1.out).trans hk1⟩
        clear hm1 hb1 hk1
        go_wp2
        go_roundw
        case rel => exact .inr ⟨rfl, HD.out⟩
        case measure => simp [intOf]
      · clear hf0 hf1 hf3 hf4
        go_wp2_with fail
        refine region_tail 6 (by kernel_rfl) (by kernel_rfl) ?_
        simp only [List.take_succ_cons, List.take_zero, List.drop_succ_cons, List.drop_zero]
        repeat still_step
        refine wpStill_nil ?_
        go_wp2_with fail
        refine (maxK_any _ B bm env st T pv N hB HX5.out (by omega) HX3.out).mono ?_
        rintro e w' ⟨hb1, hk1, hS⟩
        rw [HST.out] at hS
        obtain ⟨rfl, hm1⟩ := hS
        have HD : Hid (Mach w' B bm env st' ∧ Below B w w' ∧ KeepA bm w w') := ⟨hm1, (HX1.out.mono hsz).trans hb1, (KeepA.below HBM.out HX1.out).trans hk1⟩
        clear hm1 hb1 hk1
        go_wp2
        go_roundw
        case rel => exact .inr ⟨rfl, HD.out⟩
        case measure => simp [intOf]
      · clear hf0 hf1 hf2 hf4
        go_wp2_with fail
        refine region_tail 6 (by kernel_rfl) (by kernel_rfl) ?_
        simp only [List.take_succ_cons, List.take_zero, List.drop_succ_cons, List.drop_zero]
        repeat still_step
        refine wpStill_nil ?_
        go_wp2_with fail
        refine (imaxK_any _ B bm env st T pv N hB HX5.out (by omega) HX3.out).mono ?_
        rintro e w' ⟨hb1, hk1, hS⟩
        rw [HST.out] at hS
        obtain ⟨rfl, hm1⟩ := hS
        have HD : Hid (Mach w' B bm env st' ∧ Below B w w' ∧ KeepA bm w w') := ⟨hm1, (HX1.out.mono hsz).trans hb1, (KeepA.below HBM.out HX1.out).trans hk1⟩
        clear hm1 hb1 hk1
        go_wp2
        go_roundw
        case rel => exact .inr ⟨rfl, HD.out⟩
        case measure => simp [intOf]
      · clear hf0 hf1 hf2 hf3
        go_wp2_with fail
        refine region_tail 6 (by kernel_rfl) (by kernel_rfl) ?_
        simp only [List.take_succ_cons, List.take_zero, List.drop_succ_cons, List.drop_zero]
        repeat still_step
        refine wpStill_nil ?_
        go_wp2_with fail
        refine (paramK_any _ B bm env st T pv N HX5.out (by omega) HX3.out).mono ?_
        rintro e w' ⟨hb1, hk1, hS⟩
        rw [HST.out] at hS
        obtain ⟨rfl, hm1⟩ := hS
        have HD : Hid (Mach w' B bm env st' ∧ Below B w w' ∧ KeepA bm w w') := ⟨hm1, (HX1.out.mono hsz).trans hb1, (KeepA.below HBM.out HX1.out).trans hk1⟩
        clear hm1 hb1 hk1
        go_wp2
        go_roundw
        case rel => exact .inr ⟨rfl, HD.out⟩
        case measure => simp [intOf]
    · have HD : Hid (Mach wr B bm env st' ∧ Below B w wr ∧ KeepA bm w wr) := ⟨hm', hb', hk'⟩
      clear hm' hb' hk' hrel
      go_wp2_with fail
      go_end0
      exact ⟨rfl, HD.out⟩
end Go.Proofs.YtfmhmnpmdjpmeaaDoor
