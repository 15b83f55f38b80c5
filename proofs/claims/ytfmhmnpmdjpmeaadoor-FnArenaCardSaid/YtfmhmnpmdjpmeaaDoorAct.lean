/- The machine's loop over the tokens, and its run: the plain function on lists, or the panic. -/
import Derived.Test.YtfmhmnpmdjpmeaaDoorActs

namespace Go.Proofs.YtfmhmnpmdjpmeaaDoor
open Go.RowKit

theorem run_store_fn (P : Program) (w : World) (a : Addr) (m : Mode) (fn : Fn) (first cap : Array Value) : (store a (.func fn first cap) m).run P w = stored P w a (.func fn first cap) m := run_store P w a _ m rfl
attribute [local go_sem] run_store_fn

/-- the table of method values -/
def table (bm : Nat) : Array Value :=
  #[.func (.func 100) #[.pointer (some ⟨bm, 0, none⟩)] #[], .func (.func 101) #[.pointer (some ⟨bm, 0, none⟩)] #[],
    .func (.func 102) #[.pointer (some ⟨bm, 0, none⟩)] #[], .func (.func 103) #[.pointer (some ⟨bm, 0, none⟩)] #[],
    .func (.func 104) #[.pointer (some ⟨bm, 0, none⟩)] #[]]

theorem Mach.alloc {w : World} {B bm : Nat} {env st : List Int} (h : Mach w B bm env st) (o : Obj) : Mach (w.alloc o) B bm env st := by
  obtain ⟨hB, he, A, c, hblk, hown⟩ := h
  exact ⟨hB, he, A, c, hblk.alloc o, hown.alloc o⟩
theorem Mach.size {w : World} {B bm : Nat} {env st : List Int} (h : Mach w B bm env st) : B ≤ w.heap.size := by
  obtain ⟨hB, he, A, c, hblk, hown⟩ := h
  have := hblk.lt
  omega

/-- what holds at the head of each round of the machine's loop -/
def AtTok (w : World) (B bm : Nat) (env : List Int) (l : List (Int × Int)) (T : TypeId) (pv : Value) (ga k : Nat) (wr : World) : Prop :=
  ∃ st, Lv.run env (l.take k) [] = some st ∧ Mach wr B bm env st ∧ st.length ≤ k ∧ (∀ x ∈ st, 0 ≤ x ∧ x ≤ 1000 + k) ∧ Below B w wr ∧ Keeps w wr ∧ ErrAt wr T pv ∧ Blk wr ga 135 (table bm)

theorem tok_out {w W : World} {B bm ga k : Nat} {env st : List Int} {l : List (Int × Int)} {T : TypeId} {pv : Value} {t : Int × Int} {e : Ending} {w' : World}
    (hB : 0 < B) (hv : ∀ x ∈ env, 0 ≤ x ∧ x ≤ 1000) (hr : Lv.run env (l.take (k + 1)) [] = (some st).bind (Lv.step env t)) (hlen : st.length ≤ k) (hbd : ∀ x ∈ st, 0 ≤ x ∧ x ≤ 1000 + (k : Int))
    (hb : Below B w W) (hk : Keeps w W) (hE : ErrAt W T pv) (htab : Blk W ga 135 (table bm)) (hS : Stepped W B bm env (Lv.step env t st) T pv e w') :
    (e = .returned (.tuple #[]) ∧ AtTok w B bm env l T pv ga (k + 1) w') ∨ (e = Bad T pv ∧ Stepped w B bm env (Lv.run env l []) T pv e w') := by
  obtain ⟨h1, h2, h3⟩ := hS
  rw [Option.bind_some] at hr
  cases hst : Lv.step env t st with
  | none =>
    rw [hst] at h3 hr
    refine .inr ⟨h3, hb.trans h1, hk.trans h2, ?_⟩
    rw [Lv.run_none_of_take hr]
    exact h3
  | some st' =>
    rw [hst] at h3 hr
    have hl := Lv.step_len hst
    have hbd' := Lv.step_bd (M := 1000 + (k : Int)) (by omega) (fun x hx => by have := hv x hx; omega) hbd hst
    refine .inl ⟨h3.1, st', hr, h3.2, by omega, fun x hx => by have := hbd' x hx; omega, hb.trans h1, hk.trans h2, hE.below h1 hB, h2.blk htab (by decide) (by decide)⟩

set_option maxRecDepth 100000 in
set_option maxHeartbeats 1000000 in
theorem act_any (w : World) (B bm : Nat) (env : List Int) (T : TypeId) (pv : Value) (A : Option Addr) (n c : Nat) (l : List (Int × Int))
    (hB : 0 < B) (hm : Mach w B bm env []) (hE : ErrAt w T pv) (hn : n ≤ 24) (hv : ∀ x ∈ env, 0 ≤ x ∧ x ≤ 1000) (hl : TokR w B A n l) :
    Calls Tryd.prog 70 #[.pointer (some ⟨bm, 0, none⟩), .slice A n c] w (Stepped w B bm env (Lv.run env l []) T pv) := by
  have hmf : ∀ (fn : Fn) (first cap : Array Value) (w : World), (Instr.makeFunc fn first cap).run Tryd.prog w = .ok (.func fn first cap) w := fun _ _ _ _ => rfl
  have hsz := hm.size
  have hstart : AtTok w B bm env l T pv w.heap.size 0 (w.alloc (.cells (table bm) 135)) :=
    ⟨[], by simp [Lv.run], hm.alloc _, by simp, by simp, (Below.refl _ _).alloc hsz _, (Keeps.refl _).alloc _, hE.below ((Below.refl B _).alloc hsz _) hB, Blk.made _ _ _⟩
  have HV := Lib.hid hv
  clear hv
  go_enter Tryd.func70, Tryd.ntmps70
  go_wp2
  go_loopw [20] (fun i wr => ∃ k : Nat, k ≤ n ∧ i = .int .i64 k ∧ AtTok w B bm env l T pv w.heap.size k wr) (fun i _ => n - (intOf i).toNat)
  case atStart => exact ⟨0, Nat.zero_le _, rfl, hstart⟩
  case round =>
    obtain ⟨k, hk, rfl, st, hrun, hmr, hlen, hbd, hbel, hkp, hEr, htab⟩ := hrel
    by_cases hlt : k < n
    · have hlk : k < l.length := by rw [hl.1]; exact hlt
      obtain ⟨b, off, rfl, hb, hc⟩ := hl.2 (by omega)
      obtain ⟨c1, c2⟩ := hc k hlt
      have HR := Lib.hid (Lv.run_take_succ env l k hlk [])
      rw [hrun] at HR
      generalize l.getD k (0, 0) = t at c1 c2 HR
      obtain ⟨op, N⟩ := t
      have d1 := (hbel.cell (p := ⟨b, off + k * 2, none⟩) hb).trans c1
      have d2 := (hbel.cell (p := ⟨b, off + k * 2 + 1, none⟩) hb).trans c2
      have HS := Lib.hid hrun
      have HB := Lib.hid hbd
      have HL := Lib.hid hl
      clear hrun hbd hc c1 c2 hl hlk
      have hz := htab.lt
      have hszr := hmr.size
      have HX1 := Lib.hid ((hbel.alloc hszr (.cells #[.int .i64 op, .int .i64 N] 70)).drew)
      have HX2 := Lib.hid (show Keeps w (wr.alloc (.cells #[.int .i64 op, .int .i64 N] 70)).drew from hkp.alloc _)
      have HX3 := Lib.hid (show ErrAt (wr.alloc (.cells #[.int .i64 op, .int .i64 N] 70)).drew T pv from hEr.below ((Below.refl B _).alloc hszr _).drew hB)
      have HX4 := Lib.hid (show Blk (wr.alloc (.cells #[.int .i64 op, .int .i64 N] 70)).drew w.heap.size 135 (table bm) from htab.alloc _)
      have HX5 := Lib.hid (show Mach (wr.alloc (.cells #[.int .i64 op, .int .i64 N] 70)).drew B bm env st from hmr.alloc _)
      have HX6 : Hid (∀ x ∈ st, 0 ≤ x ∧ x ≤ 100000) := fun x hx => by have := HB.out x hx; omega
      by_cases hop : 0 ≤ op ∧ op < 5
      · obtain ⟨h0, h5⟩ := hop
        have hi : op = 0 ∨ op = 1 ∨ op = 2 ∨ op = 3 ∨ op = 4 := by omega
        rcases hi with rfl | rfl | rfl | rfl | rfl
        · have hf : wr.cell? ⟨w.heap.size, 0, none⟩ = some (.func (.func 100) #[.pointer (some ⟨bm, 0, none⟩)] #[]) := htab.cell 0
          clear htab
          go_wp2_with fail
          refine region_tail 6 (by kernel_rfl) (by kernel_rfl) ?_
          simp only [List.take_succ_cons, List.take_zero, List.drop_succ_cons, List.drop_zero]
          repeat still_step
          refine wpStill_nil ?_
          go_wp2_with fail
          refine (zero_any _ B bm env st T pv N HX5.out (by omega) HX3.out).mono ?_
          rintro e w' hS
          rcases tok_out hB HV.out HR.out hlen HB.out HX1.out HX2.out HX3.out HX4.out hS with ⟨rfl, hA⟩ | ⟨rfl, hS'⟩
          · go_wp2
            go_roundw
            case rel => exact ⟨k + 1, by omega, by go_num, hA⟩
            case measure => simp [intOf]; omega
          · exact ⟨rfl, hS'⟩
        · have hf : wr.cell? ⟨w.heap.size, 1, none⟩ = some (.func (.func 101) #[.pointer (some ⟨bm, 0, none⟩)] #[]) := htab.cell 1
          clear htab
          go_wp2_with fail
          refine region_tail 6 (by kernel_rfl) (by kernel_rfl) ?_
          simp only [List.take_succ_cons, List.take_zero, List.drop_succ_cons, List.drop_zero]
          repeat still_step
          refine wpStill_nil ?_
          go_wp2_with fail
          refine (succ_any _ B bm env st T pv N HX5.out (by omega) HX6.out HX3.out).mono ?_
          rintro e w' hS
          rcases tok_out hB HV.out HR.out hlen HB.out HX1.out HX2.out HX3.out HX4.out hS with ⟨rfl, hA⟩ | ⟨rfl, hS'⟩
          · go_wp2
            go_roundw
            case rel => exact ⟨k + 1, by omega, by go_num, hA⟩
            case measure => simp [intOf]; omega
          · exact ⟨rfl, hS'⟩
        · have hf : wr.cell? ⟨w.heap.size, 2, none⟩ = some (.func (.func 102) #[.pointer (some ⟨bm, 0, none⟩)] #[]) := htab.cell 2
          clear htab
          go_wp2_with fail
          refine region_tail 6 (by kernel_rfl) (by kernel_rfl) ?_
          simp only [List.take_succ_cons, List.take_zero, List.drop_succ_cons, List.drop_zero]
          repeat still_step
          refine wpStill_nil ?_
          go_wp2_with fail
          refine (max_any _ B bm env st T pv N hB HX5.out (by omega) HX3.out).mono ?_
          rintro e w' hS
          rcases tok_out hB HV.out HR.out hlen HB.out HX1.out HX2.out HX3.out HX4.out hS with ⟨rfl, hA⟩ | ⟨rfl, hS'⟩
          · go_wp2
            go_roundw
            case rel => exact ⟨k + 1, by omega, by go_num, hA⟩
            case measure => simp [intOf]; omega
          · exact ⟨rfl, hS'⟩
        · have hf : wr.cell? ⟨w.heap.size, 3, none⟩ = some (.func (.func 103) #[.pointer (some ⟨bm, 0, none⟩)] #[]) := htab.cell 3
          clear htab
          go_wp2_with fail
          refine region_tail 6 (by kernel_rfl) (by kernel_rfl) ?_
          simp only [List.take_succ_cons, List.take_zero, List.drop_succ_cons, List.drop_zero]
          repeat still_step
          refine wpStill_nil ?_
          go_wp2_with fail
          refine (imax_any _ B bm env st T pv N hB HX5.out (by omega) HX3.out).mono ?_
          rintro e w' hS
          rcases tok_out hB HV.out HR.out hlen HB.out HX1.out HX2.out HX3.out HX4.out hS with ⟨rfl, hA⟩ | ⟨rfl, hS'⟩
          · go_wp2
            go_roundw
            case rel => exact ⟨k + 1, by omega, by go_num, hA⟩
            case measure => simp [intOf]; omega
          · exact ⟨rfl, hS'⟩
        · have hf : wr.cell? ⟨w.heap.size, 4, none⟩ = some (.func (.func 104) #[.pointer (some ⟨bm, 0, none⟩)] #[]) := htab.cell 4
          clear htab
          go_wp2_with fail
          refine region_tail 6 (by kernel_rfl) (by kernel_rfl) ?_
          simp only [List.take_succ_cons, List.take_zero, List.drop_succ_cons, List.drop_zero]
          repeat still_step
          refine wpStill_nil ?_
          go_wp2_with fail
          refine (param_any _ B bm env st T pv N HX5.out (by omega) HX3.out).mono ?_
          rintro e w' hS
          rcases tok_out hB HV.out HR.out hlen HB.out HX1.out HX2.out HX3.out HX4.out hS with ⟨rfl, hA⟩ | ⟨rfl, hS'⟩
          · go_wp2
            go_roundw
            case rel => exact ⟨k + 1, by omega, by go_num, hA⟩
            case measure => simp [intOf]; omega
          · exact ⟨rfl, hS'⟩
      · have hbad : Lv.step env (op, N) st = none := by
          have : Lv.tkOk (op, N) = false := by
            rw [Bool.eq_false_iff]; intro hk; simp [Lv.tkOk] at hk; omega
          simp [Lv.step, this]
        have hno := HR.out
        rw [Option.bind_some, hbad] at hno
        have HZ := Lib.hid (Lv.run_none_of_take hno)
        have hEr' : wr.cell? ⟨0, 0, none⟩ = some (.iface T pv) := hEr
        have hz0 : 0 < wr.heap.size := by omega
        clear hbad hno htab
        have HBW := Lib.hid (hbel.alloc hszr (.cells #[.int .i64 op, .int .i64 N] 70))
        have HKW := Lib.hid (hkp.alloc (.cells #[.int .i64 op, .int .i64 N] 70))
        by_cases h0 : op < 0
        · go_wp2
          refine ⟨rfl, HBW.out, HKW.out, ?_⟩
          rw [HZ.out]
          rfl
        · have h5 : 5 ≤ op := by omega
          clear hop
          go_wp2
          refine ⟨rfl, HBW.out, HKW.out, ?_⟩
          rw [HZ.out]
          rfl
    · go_wp2_with fail
      go_end0
      obtain rfl : k = n := by omega
      rw [List.take_of_length_le (by rw [hl.1]; exact Nat.le_refl _)] at hrun
      rw [hrun]
      exact ⟨hbel, hkp, rfl, hmr⟩
end Go.Proofs.YtfmhmnpmdjpmeaaDoor
