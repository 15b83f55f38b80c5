/- LevelEval and LevelOk: the deferred closure, the run, the env's look. -/
/- LevelEval and LevelOk, for every argument. -/
/- LevelOk and LevelOff of the program, for every argument. -/
/- ArenaPut of the program: the whole. -/
import Derived.Test.YtfmhmnpmdjpmeaaDoorAct
import Derived.Laws.IdiomCopy
import Derived.Laws.CopyOwn
import Derived.Defers
import Derived.Test.YtfmhmnpmdjpmeaaDoorApI

namespace Go.Proofs.YtfmhmnpmdjpmeaaDoor
open Go.RowKit

/-- what run leaves: the one number on the stack, or the panic -/
def RunOut (w : World) (B : Nat) (r : Option Int) (T : TypeId) (pv : Value) (e : Ending) (w' : World) : Prop :=
  Below B w w' ∧ Keeps w w' ∧ match r with
    | some v => e = .returned (.int .i64 v)
    | none => e = Bad T pv

theorem eval_none_of_run {env : List Int} {l : List (Int × Int)} (h : Lv.run env l [] = none) : Lv.eval env l = none := by
  unfold Lv.eval; split
  · rw [h]
  · rfl
theorem eval_none_of_two {env : List Int} {l : List (Int × Int)} {st : List Int} (h : Lv.run env l [] = some st) (hs : st.length ≠ 1) : Lv.eval env l = none := by
  unfold Lv.eval; split
  · rw [h]
    match st, hs with
    | [], _ => rfl
    | [_], h => exact absurd rfl h
    | _ :: _ :: _, _ => rfl
  · rfl
theorem eval_none_of_len {env : List Int} {l : List (Int × Int)} (h : l.length = 0 ∨ 24 < l.length) : Lv.eval env l = none := by
  unfold Lv.eval
  rw [if_neg]
  intro hk
  simp [Lv.levelOk] at hk
  omega

set_option maxHeartbeats 800000 in
theorem run_any (w : World) (B bm : Nat) (env : List Int) (T : TypeId) (pv : Value) (A : Option Addr) (n c : Nat) (l : List (Int × Int))
    (hB : 0 < B) (hm : Mach w B bm env []) (hE : ErrAt w T pv) (hn : (n : Int) ≤ 140737488355328) (hv : ∀ x ∈ env, 0 ≤ x ∧ x ≤ 1000) (hl : TokR w B A n l) :
    Calls Tryd.prog 78 #[.pointer (some ⟨bm, 0, none⟩), .slice A n c] w (RunOut w B (Lv.eval env l) T pv) := by
  have HV := Lib.hid hv
  clear hv
  by_cases h24 : 1 ≤ n ∧ n ≤ 24
  · obtain ⟨h1, h2⟩ := h24
    have hne : ((n : Int) == 0) = false := by simp; omega
    cases hrun : Lv.run env l [] with
    | none =>
      have HZ := Lib.hid (eval_none_of_run hrun)
      have HRun := Lib.hid hrun
      clear hrun
      go_enter Tryd.func78, Tryd.ntmps78
      go_wp2_with fail
      refine (act_any _ B bm env T pv A n c l hB hm hE (by omega) HV.out hl).mono ?_
      rintro e w' ⟨hb, hk, hr⟩
      rw [HRun.out] at hr
      subst hr
      refine ⟨rfl, hb, hk, ?_⟩
      rw [HZ.out]
      rfl
    | some st =>
      have HRun := Lib.hid hrun
      by_cases hs : st.length = 1
      · obtain ⟨v, rfl⟩ : ∃ v, st = [v] := by
          match st, hs with
          | [v], _ => exact ⟨v, rfl⟩
        have HZ := Lib.hid (Lv.eval_of_run (by rw [hl.1]; exact h1) (by rw [hl.1]; exact h2) hrun)
        clear hrun hs
        go_enter Tryd.func78, Tryd.ntmps78
        go_wp2_with fail
        refine (act_any _ B bm env T pv A n c l hB hm hE (by omega) HV.out hl).mono ?_
        rintro e w1 ⟨hb, hk, hr⟩
        rw [HRun.out] at hr
        obtain ⟨rfl, hm1⟩ := hr
        go_wp2_with fail
        refine (pop_some _ B bm env [] v hm1 (by simp)).mono ?_
        rintro e w2 ⟨rfl, hm2, hb2, hk2⟩
        obtain ⟨hB2, he2, A2, c2, hblk2, hown2⟩ := hm2
        have hc5 : w2.cell? ⟨bm, 5, none⟩ = some (.slice A2 0 c2) := (hblk2.cell 5).trans (mach_stack env _ he2)
        clear he2 hblk2 hown2
        go_wp2
        go_ret
        refine ⟨hb.trans hb2, hk.trans hk2, ?_⟩
        rw [HZ.out]
        rfl
      · have HZ := Lib.hid (eval_none_of_two hrun hs)
        clear hrun
        rcases st with _ | ⟨v, _ | ⟨u, s⟩⟩
        · clear hs
          go_enter Tryd.func78, Tryd.ntmps78
          go_wp2_with fail
          refine (act_any _ B bm env T pv A n c l hB hm hE (by omega) HV.out hl).mono ?_
          rintro e w1 ⟨hb, hk, hr⟩
          rw [HRun.out] at hr
          obtain ⟨rfl, hm1⟩ := hr
          go_wp2_with fail
          refine (pop_none _ B bm env T pv hm1 (hE.below hb hB)).mono ?_
          rintro e w2 ⟨rfl, rfl⟩
          refine ⟨rfl, hb, hk, ?_⟩
          rw [HZ.out]
          rfl
        · exact absurd rfl hs
        · clear hs
          have hh : Hid (s.length + 2 ≤ 24) := by
            have := Lv.run_len HRun.out
            simp at this
            have h3 := hl.1
            show s.length + 2 ≤ 24
            omega
          have hh2 : s.length + 2 ≤ 24 := hh.out
          go_enter Tryd.func78, Tryd.ntmps78
          go_wp2_with fail
          refine (act_any _ B bm env T pv A n c l hB hm hE (by omega) HV.out hl).mono ?_
          rintro e w1 ⟨hb, hk, hr⟩
          rw [HRun.out] at hr
          obtain ⟨rfl, hm1⟩ := hr
          go_wp2_with fail
          refine (pop_some _ B bm env (u :: s) v hm1 (by simp; omega)).mono ?_
          rintro e w2 ⟨rfl, hm2, hb2, hk2⟩
          have hE2 : w2.cell? ⟨0, 0, none⟩ = some (.iface T pv) := (hE.below hb hB).below hb2 hB
          obtain ⟨hB2, he2, A2, c2, hblk2, hown2⟩ := hm2
          have hc5 : w2.cell? ⟨bm, 5, none⟩ = some (.slice A2 (s.length + 1) c2) := (hblk2.cell 5).trans (mach_stack env _ he2)
          clear he2 hblk2 hown2
          go_wp2
          refine ⟨rfl, hb.trans hb2, hk.trans hk2, ?_⟩
          rw [HZ.out]
          rfl
  · have HZ := Lib.hid (eval_none_of_len (env := env) (l := l) (by rw [hl.1]; omega))
    have hE' : w.cell? ⟨0, 0, none⟩ = some (.iface T pv) := hE
    by_cases h0 : n = 0
    · subst h0
      go_enter Tryd.func78, Tryd.ntmps78
      go_wp2
      refine ⟨rfl, Below.refl _ _, Keeps.refl _, ?_⟩
      rw [HZ.out]
      rfl
    · have h1 : 24 < n := by omega
      have hne : ((n : Int) == 0) = false := by simp; omega
      clear h24 h0
      go_enter Tryd.func78, Tryd.ntmps78
      go_wp2
      refine ⟨rfl, Below.refl _ _, Keeps.refl _, ?_⟩
      rw [HZ.out]
      rfl
end Go.Proofs.YtfmhmnpmdjpmeaaDoor

namespace Go.Proofs.YtfmhmnpmdjpmeaaDoor
open Go.RowKit

set_option maxHeartbeats 400000 in
theorem catch_bad (p q : Addr) (x : Int) (y : Bool) (u : TypeId) (pv : Value) (older : List PanicEntry) (w : World) (hp : w.cell? p = some (.int .i64 x)) (hpf : w.frozen? p = false)
    (hq : (w.setCell p (.int .i64 0)).cell? q = some (.bool y)) (hqf : (w.setCell p (.int .i64 0)).frozen? q = false) :
    CallsD Tryd.prog 77 #[.pointer (some p), .pointer (some q)] (.panicking ({ v := .iface u pv, recovered := false } :: older)) w fun e u' w' =>
      e = .returned (.tuple #[]) ∧ u' = .panicking ({ v := .iface u pv, recovered := true } :: older) ∧ w' = (w.setCell p (.int .i64 0)).setCell q (.bool false) := by
  refine callsD_of_wpS Tryd.func77 rfl fun c₀ cs hu => ?_
  apply wpS_seq
  apply wpS_region
  simp [wpOpsS, go_sem, recoverD, hu, Tryd.ntmps77, Exit.thenS]
  refine wpS_cond (t := true) (by simp [Act.eval, Array.replicate]) ?_
  simp only [if_true]
  apply wpS_region
  simp [wpOpsS, go_sem, hp, hpf, hq, hqf, bodyPostS, results, Tryd.results77]

set_option maxHeartbeats 400000 in
theorem catch_idle (p q : Addr) (w : World) :
    CallsD Tryd.prog 77 #[.pointer (some p), .pointer (some q)] .returning w fun e u' w' => e = .returned (.tuple #[]) ∧ u' = .returning ∧ w' = w := by
  refine callsD_of_wpS Tryd.func77 rfl fun c₀ cs hu => ?_
  apply wpS_seq
  apply wpS_region
  simp [wpOpsS, go_sem, recoverD, hu, Tryd.ntmps77, Exit.thenS]
  refine wpS_cond (t := false) (by simp [Act.eval, Array.replicate]) ?_
  simp only [Bool.false_eq_true, if_false]
  refine wpS_of_wp (wp_skip ?_)
  cases c₀
  simp_all [bodyPostS, results, Tryd.results77]

/-- LevelEval's answer -/
def evalR (env : List Int) (l : List (Int × Int)) : Option Int := if envOk env = true then Lv.eval env l else none

set_option maxRecDepth 100000 in
set_option maxHeartbeats 1000000 in
theorem eval_no_env (w : World) (B : Nat) (A A2 : Option Addr) (n c n2 c2 : Nat) (env : List Int) (hB : B ≤ w.heap.size)
    (hR : IntR w B A2 n2 env) (hn2 : (n2 : Int) ≤ 140737488355328) (hno : envOk env = false) :
    Calls Tryd.prog 33 #[.slice A n c, .slice A2 n2 c2] w fun e w' => e = .returned (.tuple #[.int .i64 0, .bool false]) ∧ Below w.heap.size w w' := by
  have hmf : ∀ (fn : Fn) (first cap : Array Value) (w : World), (Instr.makeFunc fn first cap).run Tryd.prog w = .ok (.func fn first cap) w := fun _ _ _ _ => rfl
  have HN := Lib.hid hno
  clear hno
  have hb2 : Below w.heap.size w ((w.alloc (.cells #[.int .i64 0] 3)).alloc (.cells #[.bool false] 4)) := ((Below.refl _ _).alloc (Nat.le_refl _) _).alloc (by simp) _
  have H2 := Lib.hid (hR.below (hb2.mono hB))
  have HB2 := Lib.hid hb2
  clear hR hb2
  go_enter_defers Tryd.func33, Tryd.ntmps33
  go_wp2_with fail
  refine (envOk_any _ B A2 n2 c2 env H2.out hn2).mono ?_
  rintro e w' ⟨rfl, rfl⟩
  rw [HN.out]
  go_wp2
  refine leaves_cons (f := 77) (args := #[.pointer (some ⟨w.heap.size, 0, none⟩), .pointer (some ⟨w.heap.size + 1, 0, none⟩)]) (by simp) (by simp [go_sem]) ?_
  refine (catch_idle ⟨w.heap.size, 0, none⟩ ⟨w.heap.size + 1, 0, none⟩ _).mono ?_
  rintro e u' w'' ⟨rfl, rfl, rfl⟩
  simp [Leaves, settle, results, Tryd.results33, go_sem]
  exact HB2.out

/-- an answer as the pair of its values -/
def evalV : Option Int → Value
  | some v => .tuple #[.int .i64 v, .bool true]
  | none => .tuple #[.int .i64 0, .bool false]

/-- the world in which the machine has been laid -/
def laidW (w : World) : World :=
  ((w.alloc (.cells #[.int .i64 0] 3)).alloc (.cells #[.bool false] 4)).alloc (.cells #[.int .i64 0, .int .i64 0, .int .i64 0, .int .i64 0, .int .i64 0, .slice none 0 0] 96)

set_option maxRecDepth 100000 in
set_option maxHeartbeats 1000000 in
/-- the road to run, whatever run gives: what is asked of it is a contract of run over the machine that has been laid -/
theorem eval_road (w : World) (B : Nat) (A A2 : Option Addr) (n c n2 c2 : Nat) (env : List Int) (l : List (Int × Int)) (T : TypeId) (pv : Value) (h0 : 0 < B) (hB : B ≤ w.heap.size)
    (hl : TokR w B A n l) (hn : (n : Int) ≤ 140737488355328) (hR : IntR w B A2 n2 env) (hn2 : (n2 : Int) ≤ 140737488355328) (hE : ErrAt w T pv) (hyes : envOk env = true) :
    Calls Tryd.prog 33 #[.slice A n c, .slice A2 n2 c2] w fun e w' =>
      e = .returned (evalV (Lv.eval env l)) ∧ Below w.heap.size w w' := by
  have hmf : ∀ (fn : Fn) (first cap : Array Value) (w : World), (Instr.makeFunc fn first cap).run Tryd.prog w = .ok (.func fn first cap) w := fun _ _ _ _ => rfl
  obtain ⟨hlen, hbd⟩ := envOk_mem hyes
  have HN := Lib.hid hyes
  have HV := Lib.hid hbd
  have HL := Lib.hid hlen
  have hb2 : Below w.heap.size w ((w.alloc (.cells #[.int .i64 0] 3)).alloc (.cells #[.bool false] 4)) := ((Below.refl _ _).alloc (Nat.le_refl _) _).alloc (by simp) _
  have hb3 : Below w.heap.size w (laidW w) := hb2.alloc (by simp; omega) _
  have H2 := Lib.hid (hR.below (hb2.mono hB))
  obtain ⟨b, off, rfl, hb, hcell⟩ := hR.2 (by have := hR.1; omega)
  have HC : Hid (∀ j v, (env.map (Value.int .i64))[j]? = some v → (laidW w).cell? ((⟨b, off, none⟩ : Addr).add j) = some v) := by
    intro j v hj
    have hjl : j < env.length := by
      have := (List.getElem?_eq_some_iff.1 hj).1
      simpa using this
    have hadd : (⟨b, off, none⟩ : Addr).add j = ⟨b, off + j, none⟩ := by unfold Addr.add; split <;> simp_all
    rw [hadd, hb3.cell (p := ⟨b, off + j, none⟩) (by show b < w.heap.size; omega), hcell j (by rw [← hR.1]; exact hjl)]
    rw [← hj]
    simp [List.getElem?_eq_getElem hjl]
  have hsz1 : (Tryd.prog.info? 3).map (·.size) = some 1 := by kernel_rfl
  obtain ⟨w1, hcopy, hm1, hb1⟩ : ∃ w1, (Builtin.copy_ #[40, 40] 3 #[.slice (some ⟨w.heap.size + 1 + 1, 0, none⟩) 5 5, .slice (some ⟨b, off, none⟩) n2 c2]).run Tryd.prog (laidW w) = .ok (.int .i64 5) w1 ∧
      Mach w1 (w.heap.size + 1 + 1) (w.heap.size + 1 + 1) env [] ∧ Below (w.heap.size + 1 + 1) (laidW w) w1 := by
    have hg : (laidW w).heap[w.heap.size + 1 + 1]? = some (.cells #[.int .i64 0, .int .i64 0, .int .i64 0, .int .i64 0, .int .i64 0, .slice none 0 0] 96 (0, 0)) := by
      have := heap_alloc_new ((w.alloc (.cells #[.int .i64 0] 3)).alloc (.cells #[.bool false] 4)) (.cells #[.int .i64 0, .int .i64 0, .int .i64 0, .int .i64 0, .int .i64 0, .slice none 0 0] 96)
      simpa [laidW] using this
    have hcl : (env.map (Value.int .i64)).length = Nat.min n2 5 := by
      have := hR.1
      rw [List.length_map, hlen, ← this, hlen]; rfl
    have hrun := run_copy_row (P := Tryd.prog) (laidW w) 40 40 3 3 (w.heap.size + 1 + 1) 0 5 5 ⟨b, off, none⟩ n2 c2 _ 96 (env.map (Value.int .i64)) Tryd.underlying40 hsz1 hg hcl HC.out (by simp [hlen]) (by intro v hv; obtain ⟨x, _, rfl⟩ := List.mem_map.1 hv; rfl)
    rw [List.length_map, hlen] at hrun
    refine ⟨_, hrun, ⟨Nat.le_refl _, hlen, none, 0, ?_, World.ownsRow_nil _ _ _ _⟩, ?_⟩
    · have := setRow_heap (laidW w) (w.heap.size + 1 + 1) _ ((List.take 0 #[Value.int .i64 0, .int .i64 0, .int .i64 0, .int .i64 0, .int .i64 0, .slice none 0 0].toList ++ env.map (Value.int .i64) ++ List.drop (0 + 5) #[Value.int .i64 0, .int .i64 0, .int .i64 0, .int .i64 0, .int .i64 0, .slice none 0 0].toList).toArray) 96 _ hg
      simpa [machCells, Blk] using this
    · exact below_setRow (Below.refl _ _) (Nat.le_refl _) _
  have hEl : ErrAt w1 T pv := (hE.below (hb3.mono hB) h0).below hb1 (by omega)
  have htl : TokR w1 (w.heap.size + 1 + 1) A n l := ((hl.below (hb3.mono hB)).more (by omega)).below hb1
  have hv0 : w1.cell? ⟨w.heap.size, 0, none⟩ = some (.int .i64 0) := (hb1.cell (p := ⟨w.heap.size, 0, none⟩) (by show w.heap.size < _; omega)).trans (by simp [laidW, go_sem])
  have hv1 : w1.cell? ⟨w.heap.size + 1, 0, none⟩ = some (.bool false) := (hb1.cell (p := ⟨w.heap.size + 1, 0, none⟩) (by show w.heap.size + 1 < _; omega)).trans (by simp [laidW, go_sem])
  have hf0 : w1.frozen? ⟨w.heap.size, 0, none⟩ = false := (hb1.frozen (p := ⟨w.heap.size, 0, none⟩) (by show w.heap.size < _; omega)).trans (by simp [laidW, go_sem])
  have hf1 : w1.frozen? ⟨w.heap.size + 1, 0, none⟩ = false := (hb1.frozen (p := ⟨w.heap.size + 1, 0, none⟩) (by show w.heap.size + 1 < _; omega)).trans (by simp [laidW, go_sem])
  have HBB := Lib.hid (hb3.trans (hb1.mono (by omega)))
  have HM := Lib.hid hm1
  have HT := Lib.hid htl
  unfold laidW at hcopy
  clear hyes hbd hlen hR hcell hb2 hb3 HC hm1 htl hb1
  go_enter_defers Tryd.func33, Tryd.ntmps33
  go_wp2_with fail
  refine (envOk_any _ B _ n2 c2 env H2.out hn2).mono ?_
  rintro e w' ⟨rfl, rfl⟩
  rw [HN.out]
  go_wp2_with fail
  refine (run_any w1 (w.heap.size + 1 + 1) (w.heap.size + 1 + 1) env T pv A n c l (by omega) HM.out hEl hn HV.out HT.out).mono ?_
  rintro e w2 ⟨hb4, _, hr⟩
  have k0 := (hb4.cell (p := ⟨w.heap.size, 0, none⟩) (by show w.heap.size < _; omega)).trans hv0
  have k1 := (hb4.cell (p := ⟨w.heap.size + 1, 0, none⟩) (by show w.heap.size + 1 < _; omega)).trans hv1
  have g0 := (hb4.frozen (p := ⟨w.heap.size, 0, none⟩) (by show w.heap.size < _; omega)).trans hf0
  have g1 := (hb4.frozen (p := ⟨w.heap.size + 1, 0, none⟩) (by show w.heap.size + 1 < _; omega)).trans hf1
  have HBE := Lib.hid (HBB.out.trans (hb4.mono (by omega)))
  clear hcopy hv0 hv1 hf0 hf1 hb4
  have hne0 : ¬ w.heap.size + 1 = w.heap.size := by omega
  cases hev : Lv.eval env l with
  | some v =>
    rw [hev] at hr
    subst hr
    have HEV := Lib.hid hev
    clear hev
    go_wp2
    refine leaves_cons (f := 77) (args := #[.pointer (some ⟨w.heap.size, 0, none⟩), .pointer (some ⟨w.heap.size + 1, 0, none⟩)]) (by simp) (by simp [go_sem]) ?_
    refine (catch_idle ⟨w.heap.size, 0, none⟩ ⟨w.heap.size + 1, 0, none⟩ _).mono ?_
    rintro e u' w'' ⟨rfl, rfl, rfl⟩
    simp [Leaves, settle, results, Tryd.results33, go_sem, k0, k1]
    refine ⟨by rw [HEV.out]; rfl, ?_⟩
    exact (HBE.out.setCell (p := ⟨w.heap.size, 0, none⟩) (Nat.le_refl _) _).setCell (p := ⟨w.heap.size + 1, 0, none⟩) (by show _ ≤ w.heap.size + 1; omega) _
  | none =>
    rw [hev] at hr
    subst hr
    have HEV := Lib.hid hev
    clear hev
    refine leaves_cons (f := 77) (args := #[.pointer (some ⟨w.heap.size, 0, none⟩), .pointer (some ⟨w.heap.size + 1, 0, none⟩)]) (by simp) (by simp [go_sem]) ?_
    refine (catch_bad ⟨w.heap.size, 0, none⟩ ⟨w.heap.size + 1, 0, none⟩ 0 false T pv [] _ k0 g0 ?_ ?_).mono ?_
    · rw [World.cell?_setCell_other _ _ _ _ (by simp)]; exact k1
    · simp [go_sem, g1]
    rintro e u' w'' ⟨rfl, rfl, rfl⟩
    simp [Leaves, settle, results, Tryd.results33, go_sem, k0, k1]
    refine ⟨by rw [HEV.out]; rfl, ?_⟩
    exact (HBE.out.setCell (p := ⟨w.heap.size, 0, none⟩) (Nat.le_refl _) _).setCell (p := ⟨w.heap.size + 1, 0, none⟩) (by show _ ≤ w.heap.size + 1; omega) _

/-- LevelEval for every argument -/
theorem levelEval_any (w : World) (B : Nat) (A A2 : Option Addr) (n c n2 c2 : Nat) (env : List Int) (l : List (Int × Int)) (T : TypeId) (pv : Value) (h0 : 0 < B) (hB : B ≤ w.heap.size)
    (hl : TokR w B A n l) (hn : (n : Int) ≤ 140737488355328) (hR : IntR w B A2 n2 env) (hn2 : (n2 : Int) ≤ 140737488355328) (hE : ErrAt w T pv) :
    Calls Tryd.prog 33 #[.slice A n c, .slice A2 n2 c2] w fun e w' => e = .returned (evalV (evalR env l)) ∧ Below w.heap.size w w' := by
  cases hv : envOk env with
  | true =>
    refine (eval_road w B A A2 n c n2 c2 env l T pv h0 hB hl hn hR hn2 hE hv).mono ?_
    rintro e w' ⟨rfl, hb⟩
    exact ⟨by simp [evalR, hv], hb⟩
  | false =>
    refine (eval_no_env w B A A2 n c n2 c2 env hB hR hn2 hv).mono ?_
    rintro e w' ⟨rfl, hb⟩
    exact ⟨by simp [evalR, hv, evalV], hb⟩
end Go.Proofs.YtfmhmnpmdjpmeaaDoor

namespace Go.Proofs.YtfmhmnpmdjpmeaaDoor
open Go.RowKit

def zeros : List Int := [0, 0, 0, 0, 0]
theorem evalR_zeros (l : List (Int × Int)) : (evalR zeros l).isSome = Lv.levelOk l := by
  have hz : envOk zeros = true := by decide
  simp only [evalR, hz, if_true, Lv.eval]
  cases h : Lv.levelOk l with
  | false => simp
  | true =>
    obtain ⟨v, hv⟩ := Lv.run_of_ok (env := zeros) h
    simp [hv]

/-- the two results of an answer -/
theorem evalV_form (r : Option Int) : evalV r = .tuple #[.int .i64 (r.getD 0), .bool r.isSome] := by cases r <;> rfl

set_option maxHeartbeats 400000 in
theorem levelOk_any (w : World) (B : Nat) (A : Option Addr) (n c : Nat) (l : List (Int × Int)) (T : TypeId) (pv : Value) (h0 : 0 < B) (hB : B ≤ w.heap.size)
    (hl : TokR w B A n l) (hn : (n : Int) ≤ 140737488355328) (hE : ErrAt w T pv) :
    Calls Tryd.prog 57 #[.slice A n c] w fun e w' => e = .returned (.bool (Lv.levelOk l)) ∧ Below w.heap.size w w' := by
  have hmk : ∀ w, (Instr.makeSlice 40 (.int .i64 5) (.int .i64 5)).run Tryd.prog w = .ok (.slice (some ⟨w.heap.size, 0, none⟩) 5 5) (w.alloc (.cells #[.int .i64 0, .int .i64 0, .int .i64 0, .int .i64 0, .int .i64 0] 3)) := fun _ => by kernel_rfl
  have hb1 : Below w.heap.size w (w.alloc (.cells #[.int .i64 0, .int .i64 0, .int .i64 0, .int .i64 0, .int .i64 0] 3)) := (Below.refl _ _).alloc (Nat.le_refl _) _
  have HI : Hid (IntR (w.alloc (.cells #[.int .i64 0, .int .i64 0, .int .i64 0, .int .i64 0, .int .i64 0] 3)) (w.heap.size + 1) (some ⟨w.heap.size, 0, none⟩) 5 zeros) := by
    refine ⟨rfl, fun _ => ⟨w.heap.size, 0, rfl, by omega, fun k hk => ?_⟩⟩
    rw [(Blk.made w 3 #[.int .i64 0, .int .i64 0, .int .i64 0, .int .i64 0, .int .i64 0]).cell]
    match k, hk with
    | 0, _ => rfl
    | 1, _ => rfl
    | 2, _ => rfl
    | 3, _ => rfl
    | 4, _ => rfl
  have HT := Lib.hid ((hl.below (hb1.mono hB)).more (B' := w.heap.size + 1) (by omega))
  have HE := Lib.hid (hE.below (hb1.mono hB) h0)
  have HB := Lib.hid hb1
  clear hb1
  go_enter Tryd.func57, Tryd.ntmps57
  go_wp2_with fail
  refine (levelEval_any _ (w.heap.size + 1) A (some ⟨w.heap.size, 0, none⟩) n c 5 5 zeros l T pv (by omega) (by simp) HT.out hn HI.out (by omega) HE.out).mono ?_
  rintro e w' ⟨rfl, hb⟩
  have HBB := Lib.hid (HB.out.trans (hb.mono (by simp)))
  clear hb
  rw [evalV_form, evalR_zeros]
  go_wp2
  go_ret
  exact ⟨rfl, HBB.out⟩

end Go.Proofs.YtfmhmnpmdjpmeaaDoor

namespace Go.Proofs.YtfmhmnpmdjpmeaaDoor
open Go.RowKit

/-- what ArenaPut answers -/
def PutOut (w : World) (ok : Bool) (N : List Nd) (i : Int) (e : Ending) (w' : World) : Prop :=
  ∃ A1 c1, e = .returned (.tuple #[.slice A1 N.length c1, .int .i64 i, .bool ok]) ∧ OwnN w' w.heap.size A1 N.length c1 N ∧ Below w.heap.size w w'
theorem putOk_no {ns : List Nd} {l : List (Int × Int)} (h : putOk ns l = false) : putNs ns l = [] ∧ putIx ns l = 0 := by
  unfold putNs putIx
  rw [h]
  exact ⟨rfl, rfl⟩
theorem putOk_yes {ns : List Nd} {l : List (Int × Int)} (h : putOk ns l = true) : putNs ns l = (putTo ns l l.length).1 ∧ putIx ns l = (putTo ns l l.length).2.getD 0 0 := by
  unfold putNs putIx
  rw [h]
  exact ⟨rfl, rfl⟩

set_option maxRecDepth 100000 in
set_option maxHeartbeats 8000000 in
theorem implAPut_any (w : World) (B : Nat) (A : Option Addr) (n c : Nat) (ns : List Nd) (B2 : Nat) (A2 : Option Addr) (n2 c2 : Nat) (l : List (Int × Int)) (T : TypeId) (pv : Value) (h0 : 0 < B2) (hB : B ≤ w.heap.size) (hl : NodR w B A n ns) (hn : n ≤ 1048576)
    (hB2 : B2 ≤ w.heap.size) (hl2 : TokR w B2 A2 n2 l) (hn2 : n2 ≤ 1048576) (hE : ErrAt w T pv) :
    Calls Tryd.prog 16 #[.slice A n c, .slice A2 n2 c2] w (PutOut w (putOk ns l) (putNs ns l) (putIx ns l)) := by
  have hlen := hl.1
  have HL2 := Lib.hid hl2
  have hix : (arenaOkR ns && idxR n []) = arenaOkR ns := by simp [idxR]
  have HC : Hid (Calls Tryd.prog 56 #[.slice A n c, .slice none 0 0] w fun e w' => e = .returned (awV (w.heap.size + 1) (arenaOkR ns)) ∧ Below w.heap.size w w' ∧ (arenaOkR ns = true → ∃ A' c' D', ArO w' w.heap.size (w.heap.size + 1) w.heap.size A' n c' D' ns)) := by
    have h := arenaWith_any w B 0 A none n c 0 0 ns [] hB (Nat.zero_le _) hl ⟨rfl, fun h => absurd h (by omega)⟩ hn (by omega)
    rw [hix] at h
    exact h
  have hN0 : ∀ w', OwnN w' w.heap.size none 0 0 [] := fun w' => World.ownsRow_nil _ _ _ _
  have HN0 := Lib.hid hN0
  clear hl hl2 hix hN0
  go_enter Tryd.func16, Tryd.ntmps16
  go_wp2_with fail
  refine HC.out.mono ?_
  rintro e w1 ⟨rfl, hb1, hA⟩
  have HB1 := Lib.hid hb1
  have hs1 := hb1.size
  clear hb1 HC
  cases hok : arenaOkR ns with
  | false =>
    have HP : Hid (putOk ns l = false) := by show _ = _; unfold putOk; rw [hok]; rfl
    clear hok hA
    unfold awV
    go_wp2
    go_ret3
    rw [HP.out, (putOk_no HP.out).1, (putOk_no HP.out).2]
    exact ⟨none, 0, rfl, HN0.out _, HB1.out⟩
  | true =>
    obtain ⟨A', c', D', hA'⟩ := hA hok
    have HA := Lib.hid hA'
    have HAO := Lib.hid hok
    have ht1 := HL2.out.below (HB1.out.mono hB2)
    have hE1 := hE.below (HB1.out.mono hB2) h0
    clear hA hok hA'
    unfold awV
    go_wp2_with fail
    refine (levelOk_any w1 B2 A2 n2 c2 l T pv h0 (by omega) ht1 (by omega) hE1).mono ?_
    rintro e w2 ⟨rfl, hb2⟩
    have HA2 := Lib.hid (HA.out.below hb2)
    have HB2 := Lib.hid (HB1.out.trans (hb2.mono hs1))
    have hs2 : w.heap.size ≤ w2.heap.size := HB2.out.size
    have ht2 := HL2.out.below (HB2.out.mono hB2)
    clear hb2 ht1 hE1 HA HB1
    cases hlv : Lv.levelOk l with
    | false =>
      have HP : Hid (putOk ns l = false) := by show _ = _; unfold putOk; rw [hlv, Bool.and_false]; rfl
      clear hlv ht2
      go_wp2
      go_ret3
      rw [HP.out, (putOk_no HP.out).1, (putOk_no HP.out).2]
      exact ⟨none, 0, rfl, HN0.out _, HB2.out⟩
    | true =>
      have HLV := Lib.hid hlv
      have hns : ns.length ≤ 200 := by
        have h := HAO.out
        unfold arenaOkR at h
        rw [Bool.and_eq_true, decide_eq_true_eq] at h
        exact h.1
      have HT2 := Lib.hid (ht2.more hB2)
      have hA2 := HA2.out
      rw [← hlen] at hA2
      have HA3 := Lib.hid hA2
      clear hlv ht2 hA2 HA2
      go_wp2_with fail
      refine (put_any w2 w.heap.size (w.heap.size + 1) w.heap.size A' c' D' ns A2 n2 c2 l HA3.out hs2 HT2.out HLV.out hns).mono ?_
      rintro e w3 ⟨rfl, hb3, A7, c7, D7, hA7⟩
      have HB3 := Lib.hid (HB2.out.trans hb3)
      have HA7 := Lib.hid hA7
      obtain ⟨M, hM⟩ : ∃ M, (putTo ns l l.length).1.length = M := ⟨_, rfl⟩
      have hc0 := hA7.box.cell 0
      simp at hc0
      rw [hM] at hc0
      have HM := Lib.hid hM
      obtain ⟨ix, hix⟩ : ∃ ix, (putTo ns l l.length).2.getD 0 0 = ix := ⟨_, rfl⟩
      rw [hix]
      have HIX := Lib.hid hix
      clear hb3 hA7 hM HA3 HB2 hix
      by_cases hbig : 200 < M
      · have HP : Hid (putOk ns l = false) := by show _ = _; unfold putOk; rw [HM.out, decide_eq_false (by omega), Bool.and_false]
        go_wp2
        go_ret3
        rw [HP.out, (putOk_no HP.out).1, (putOk_no HP.out).2]
        exact ⟨none, 0, rfl, HN0.out _, HB3.out⟩
      · have HP : Hid (putOk ns l = true) := by show _ = _; unfold putOk; rw [HM.out, decide_eq_true (by omega), HAO.out, HLV.out]; rfl
        go_wp2
        go_ret3
        rw [HP.out, (putOk_yes HP.out).1, (putOk_yes HP.out).2, HIX.out]
        unfold PutOut
        rw [HM.out]
        refine ⟨A7, c7, rfl, ?_, HB3.out⟩
        have h := HA7.out.row
        rw [HM.out] at h
        exact h
end Go.Proofs.YtfmhmnpmdjpmeaaDoor
