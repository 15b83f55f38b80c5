/- LevelEval and LevelOk, for every argument. -/
import Derived.Test.YtijiohdddfdjfaaDoorEval
import Derived.Laws.CopyOwn
import Derived.Defers
namespace Go.Proofs.YtijiohdddfdjfaaDoor
open Go.RowKit

set_option maxHeartbeats 400000 in
theorem catch_bad (p q : Addr) (x : Int) (y : Bool) (u : TypeId) (pv : Value) (older : List PanicEntry) (w : World) (hp : w.cell? p = some (.int .i64 x)) (hpf : w.frozen? p = false)
    (hq : (w.setCell p (.int .i64 0)).cell? q = some (.bool y)) (hqf : (w.setCell p (.int .i64 0)).frozen? q = false) :
    CallsD Tryd.prog 45 #[.pointer (some p), .pointer (some q)] (.panicking ({ v := .iface u pv, recovered := false } :: older)) w fun e u' w' =>
      e = .returned (.tuple #[]) ∧ u' = .panicking ({ v := .iface u pv, recovered := true } :: older) ∧ w' = (w.setCell p (.int .i64 0)).setCell q (.bool false) := by
  refine callsD_of_wpS Tryd.func45 rfl fun c₀ cs hu => ?_
  apply wpS_seq
  apply wpS_region
  simp [wpOpsS, go_sem, recoverD, hu, Tryd.ntmps45, Exit.thenS]
  refine wpS_cond (t := true) (by simp [Act.eval, Array.replicate]) ?_
  simp only [if_true]
  apply wpS_region
  simp [wpOpsS, go_sem, hp, hpf, hq, hqf, bodyPostS, results, Tryd.results45]

set_option maxHeartbeats 400000 in
theorem catch_idle (p q : Addr) (w : World) :
    CallsD Tryd.prog 45 #[.pointer (some p), .pointer (some q)] .returning w fun e u' w' => e = .returned (.tuple #[]) ∧ u' = .returning ∧ w' = w := by
  refine callsD_of_wpS Tryd.func45 rfl fun c₀ cs hu => ?_
  apply wpS_seq
  apply wpS_region
  simp [wpOpsS, go_sem, recoverD, hu, Tryd.ntmps45, Exit.thenS]
  refine wpS_cond (t := false) (by simp [Act.eval, Array.replicate]) ?_
  simp only [Bool.false_eq_true, if_false]
  refine wpS_of_wp (wp_skip ?_)
  cases c₀
  simp_all [bodyPostS, results, Tryd.results45]

/-- LevelEval's answer -/
def evalR (env : List Int) (l : List (Int × Int)) : Option Int := if envOk env = true then Lv.eval env l else none

set_option maxRecDepth 100000 in
set_option maxHeartbeats 1000000 in
theorem eval_no_env (w : World) (B : Nat) (A A2 : Option Addr) (n c n2 c2 : Nat) (env : List Int) (hB : B ≤ w.heap.size)
    (hR : IntR w B A2 n2 env) (hn2 : (n2 : Int) ≤ 140737488355328) (hno : envOk env = false) :
    Calls Tryd.prog 16 #[.slice A n c, .slice A2 n2 c2] w fun e w' => e = .returned (.tuple #[.int .i64 0, .bool false]) ∧ Below w.heap.size w w' := by
  have hmf : ∀ (fn : Fn) (first cap : Array Value) (w : World), (Instr.makeFunc fn first cap).run Tryd.prog w = .ok (.func fn first cap) w := fun _ _ _ _ => rfl
  have HN := Lib.hid hno
  clear hno
  have hb2 : Below w.heap.size w ((w.alloc (.cells #[.int .i64 0] 3)).alloc (.cells #[.bool false] 4)) := ((Below.refl _ _).alloc (Nat.le_refl _) _).alloc (by simp) _
  have H2 := Lib.hid (hR.below (hb2.mono hB))
  have HB2 := Lib.hid hb2
  clear hR hb2
  go_enter_defers Tryd.func16, Tryd.ntmps16
  go_wp2_with fail
  refine (envOk_any _ B A2 n2 c2 env H2.out hn2).mono ?_
  rintro e w' ⟨rfl, rfl⟩
  rw [HN.out]
  go_wp2
  refine leaves_cons (f := 45) (args := #[.pointer (some ⟨w.heap.size, 0, none⟩), .pointer (some ⟨w.heap.size + 1, 0, none⟩)]) (by simp) (by simp [go_sem]) ?_
  refine (catch_idle ⟨w.heap.size, 0, none⟩ ⟨w.heap.size + 1, 0, none⟩ _).mono ?_
  rintro e u' w'' ⟨rfl, rfl, rfl⟩
  simp [Leaves, settle, results, Tryd.results16, go_sem]
  exact HB2.out

/-- an answer as the pair of its values -/
def evalV : Option Int → Value
  | some v => .tuple #[.int .i64 v, .bool true]
  | none => .tuple #[.int .i64 0, .bool false]

/-- the world in which the machine has been laid -/
def laidW (w : World) : World :=
  ((w.alloc (.cells #[.int .i64 0] 3)).alloc (.cells #[.bool false] 4)).alloc (.cells #[.int .i64 0, .int .i64 0, .int .i64 0, .int .i64 0, .int .i64 0, .slice none 0 0] 60)

set_option maxRecDepth 100000 in
set_option maxHeartbeats 1000000 in
/-- the road to run, whatever run gives: what is asked of it is a contract of run over the machine that has been laid -/
theorem eval_road (w : World) (B : Nat) (A A2 : Option Addr) (n c n2 c2 : Nat) (env : List Int) (l : List (Int × Int)) (T : TypeId) (pv : Value) (h0 : 0 < B) (hB : B ≤ w.heap.size)
    (hl : TokR w B A n l) (hn : (n : Int) ≤ 140737488355328) (hR : IntR w B A2 n2 env) (hn2 : (n2 : Int) ≤ 140737488355328) (hE : ErrAt w T pv) (hyes : envOk env = true) :
    Calls Tryd.prog 16 #[.slice A n c, .slice A2 n2 c2] w fun e w' =>
      e = .returned (evalV (Lv.eval env l)) ∧ Below w.heap.size w w' := by
  have hmf : ∀ (fn : Fn) (first cap : Array Value) (w : World), (Instr.makeFunc fn first cap).run Tryd.prog w = .ok (.func fn first cap) w := fun _ _ _ _ => rfl
  obtain ⟨hlen, hbd⟩ := envOk_mem hyes
  have HN := Lib.hid hyes
  have HV := Lib.hid hbd
  have HL := Lib.hid hlen
  have hb2 : Below w.heap.size w ((w.alloc (.cells #[.int .i64 0] 3)).alloc (.cells #[.bool false] 4)) := ((Below.refl _ _).alloc (Nat.le_refl _) _).alloc (by simp) _
  have hb3 : Below w.heap.size w (laidW w) := hb2.alloc (by simp; omega) _
  have H2 := Lib.hid (hR.below (hb2.mono hB))
  obtain ⟨b, off, rfl, hb, hcell⟩ := hR.2 (by have := hR.1; omega)
  have HC : Hid (∀ j v, (env.map (Value.int .i64))[j]? = some v → (laidW w).cell? ((⟨b, off, none⟩ : Addr).add j) = some v) := by
    intro j v hj
    have hjl : j < env.length := by
      have := (List.getElem?_eq_some_iff.1 hj).1
      simpa using this
    have hadd : (⟨b, off, none⟩ : Addr).add j = ⟨b, off + j, none⟩ := by unfold Addr.add; split <;> simp_all
    rw [hadd, hb3.cell (p := ⟨b, off + j, none⟩) (by show b < w.heap.size; omega), hcell j (by rw [← hR.1]; exact hjl)]
    rw [← hj]
    simp [List.getElem?_eq_getElem hjl]
  have hsz1 : (Tryd.prog.info? 3).map (·.size) = some 1 := by kernel_rfl
  obtain ⟨w1, hcopy, hm1, hb1⟩ : ∃ w1, (Builtin.copy_ #[27, 27] 3 #[.slice (some ⟨w.heap.size + 1 + 1, 0, none⟩) 5 5, .slice (some ⟨b, off, none⟩) n2 c2]).run Tryd.prog (laidW w) = .ok (.int .i64 5) w1 ∧
      Mach w1 (w.heap.size + 1 + 1) (w.heap.size + 1 + 1) env [] ∧ Below (w.heap.size + 1 + 1) (laidW w) w1 := by
    have hg : (laidW w).heap[w.heap.size + 1 + 1]? = some (.cells #[.int .i64 0, .int .i64 0, .int .i64 0, .int .i64 0, .int .i64 0, .slice none 0 0] 60 (0, 0)) := by
      have := heap_alloc_new ((w.alloc (.cells #[.int .i64 0] 3)).alloc (.cells #[.bool false] 4)) (.cells #[.int .i64 0, .int .i64 0, .int .i64 0, .int .i64 0, .int .i64 0, .slice none 0 0] 60)
      simpa [laidW] using this
    have hcl : (env.map (Value.int .i64)).length = Nat.min n2 5 := by
      have := hR.1
      rw [List.length_map, hlen, ← this, hlen]; rfl
    have hrun := run_copy_row (P := Tryd.prog) (laidW w) 27 27 3 3 (w.heap.size + 1 + 1) 0 5 5 ⟨b, off, none⟩ n2 c2 _ 60 (env.map (Value.int .i64)) Tryd.underlying27 hsz1 hg hcl HC.out (by simp [hlen]) (by intro v hv; obtain ⟨x, _, rfl⟩ := List.mem_map.1 hv; rfl)
    rw [List.length_map, hlen] at hrun
    refine ⟨_, hrun, ⟨Nat.le_refl _, hlen, none, 0, ?_, World.ownsRow_nil _ _ _ _⟩, ?_⟩
    · have := setRow_heap (laidW w) (w.heap.size + 1 + 1) _ ((List.take 0 #[Value.int .i64 0, .int .i64 0, .int .i64 0, .int .i64 0, .int .i64 0, .slice none 0 0].toList ++ env.map (Value.int .i64) ++ List.drop (0 + 5) #[Value.int .i64 0, .int .i64 0, .int .i64 0, .int .i64 0, .int .i64 0, .slice none 0 0].toList).toArray) 60 _ hg
      simpa [machCells, Blk] using this
    · exact below_setRow (Below.refl _ _) (Nat.le_refl _) _
  have hEl : ErrAt w1 T pv := (hE.below (hb3.mono hB) h0).below hb1 (by omega)
  have htl : TokR w1 (w.heap.size + 1 + 1) A n l := ((hl.below (hb3.mono hB)).more (by omega)).below hb1
  have hv0 : w1.cell? ⟨w.heap.size, 0, none⟩ = some (.int .i64 0) := (hb1.cell (p := ⟨w.heap.size, 0, none⟩) (by show w.heap.size < _; omega)).trans (by simp [laidW, go_sem])
  have hv1 : w1.cell? ⟨w.heap.size + 1, 0, none⟩ = some (.bool false) := (hb1.cell (p := ⟨w.heap.size + 1, 0, none⟩) (by show w.heap.size + 1 < _; omega)).trans (by simp [laidW, go_sem])
  have hf0 : w1.frozen? ⟨w.heap.size, 0, none⟩ = false := (hb1.frozen (p := ⟨w.heap.size, 0, none⟩) (by show w.heap.size < _; omega)).trans (by simp [laidW, go_sem])
  have hf1 : w1.frozen? ⟨w.heap.size + 1, 0, none⟩ = false := (hb1.frozen (p := ⟨w.heap.size + 1, 0, none⟩) (by show w.heap.size + 1 < _; omega)).trans (by simp [laidW, go_sem])
  have HBB := Lib.hid (hb3.trans (hb1.mono (by omega)))
  have HM := Lib.hid hm1
  have HT := Lib.hid htl
  unfold laidW at hcopy
  clear hyes hbd hlen hR hcell hb2 hb3 HC hm1 htl hb1
  go_enter_defers Tryd.func16, Tryd.ntmps16
  go_wp2_with fail
  refine (envOk_any _ B _ n2 c2 env H2.out hn2).mono ?_
  rintro e w' ⟨rfl, rfl⟩
  rw [HN.out]
  go_wp2_with fail
  refine (run_any w1 (w.heap.size + 1 + 1) (w.heap.size + 1 + 1) env T pv A n c l (by omega) HM.out hEl hn HV.out HT.out).mono ?_
  rintro e w2 ⟨hb4, _, hr⟩
  have k0 := (hb4.cell (p := ⟨w.heap.size, 0, none⟩) (by show w.heap.size < _; omega)).trans hv0
  have k1 := (hb4.cell (p := ⟨w.heap.size + 1, 0, none⟩) (by show w.heap.size + 1 < _; omega)).trans hv1
  have g0 := (hb4.frozen (p := ⟨w.heap.size, 0, none⟩) (by show w.heap.size < _; omega)).trans hf0
  have g1 := (hb4.frozen (p := ⟨w.heap.size + 1, 0, none⟩) (by show w.heap.size + 1 < _; omega)).trans hf1
  have HBE := Lib.hid (HBB.out.trans (hb4.mono (by omega)))
  clear hcopy hv0 hv1 hf0 hf1 hb4
  have hne0 : ¬ w.heap.size + 1 = w.heap.size := by omega
  cases hev : Lv.eval env l with
  | some v =>
    rw [hev] at hr
    subst hr
    have HEV := Lib.hid hev
    clear hev
    go_wp2
    refine leaves_cons (f := 45) (args := #[.pointer (some ⟨w.heap.size, 0, none⟩), .pointer (some ⟨w.heap.size + 1, 0, none⟩)]) (by simp) (by simp [go_sem]) ?_
    refine (catch_idle ⟨w.heap.size, 0, none⟩ ⟨w.heap.size + 1, 0, none⟩ _).mono ?_
    rintro e u' w'' ⟨rfl, rfl, rfl⟩
    simp [Leaves, settle, results, Tryd.results16, go_sem, k0, k1]
    refine ⟨by rw [HEV.out]; rfl, ?_⟩
    exact (HBE.out.setCell (p := ⟨w.heap.size, 0, none⟩) (Nat.le_refl _) _).setCell (p := ⟨w.heap.size + 1, 0, none⟩) (by show _ ≤ w.heap.size + 1; omega) _
  | none =>
    rw [hev] at hr
    subst hr
    have HEV := Lib.hid hev
    clear hev
    refine leaves_cons (f := 45) (args := #[.pointer (some ⟨w.heap.size, 0, none⟩), .pointer (some ⟨w.heap.size + 1, 0, none⟩)]) (by simp) (by simp [go_sem]) ?_
    refine (catch_bad ⟨w.heap.size, 0, none⟩ ⟨w.heap.size + 1, 0, none⟩ 0 false T pv [] _ k0 g0 ?_ ?_).mono ?_
    · rw [World.cell?_setCell_other _ _ _ _ (by simp)]; exact k1
    · simp [go_sem, g1]
    rintro e u' w'' ⟨rfl, rfl, rfl⟩
    simp [Leaves, settle, results, Tryd.results16, go_sem, k0, k1]
    refine ⟨by rw [HEV.out]; rfl, ?_⟩
    exact (HBE.out.setCell (p := ⟨w.heap.size, 0, none⟩) (Nat.le_refl _) _).setCell (p := ⟨w.heap.size + 1, 0, none⟩) (by show _ ≤ w.heap.size + 1; omega) _

/-- LevelEval for every argument -/
theorem levelEval_any (w : World) (B : Nat) (A A2 : Option Addr) (n c n2 c2 : Nat) (env : List Int) (l : List (Int × Int)) (T : TypeId) (pv : Value) (h0 : 0 < B) (hB : B ≤ w.heap.size)
    (hl : TokR w B A n l) (hn : (n : Int) ≤ 140737488355328) (hR : IntR w B A2 n2 env) (hn2 : (n2 : Int) ≤ 140737488355328) (hE : ErrAt w T pv) :
    Calls Tryd.prog 16 #[.slice A n c, .slice A2 n2 c2] w fun e w' => e = .returned (evalV (evalR env l)) ∧ Below w.heap.size w w' := by
  cases hv : envOk env with
  | true =>
    refine (eval_road w B A A2 n c n2 c2 env l T pv h0 hB hl hn hR hn2 hE hv).mono ?_
    rintro e w' ⟨rfl, hb⟩
    exact ⟨by simp [evalR, hv], hb⟩
  | false =>
    refine (eval_no_env w B A A2 n c n2 c2 env hB hR hn2 hv).mono ?_
    rintro e w' ⟨rfl, hb⟩
    exact ⟨by simp [evalR, hv, evalV], hb⟩
end Go.Proofs.YtijiohdddfdjfaaDoor
