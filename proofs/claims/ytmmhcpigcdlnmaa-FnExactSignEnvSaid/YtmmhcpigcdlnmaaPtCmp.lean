/- Two tables compared; the atomic counter; a table and a bool as results. -/
import Derived.Test.YtmmhcpigcdlnmaaPtMem
import Derived.ChangeKeysEq
import Derived.Laws.StructEq
import Derived.Laws.LoneSync
namespace Go.Proofs.Ytmmhcpigcdlnmaa
open Go.RowKit
open Cs (Cn Tb)

/-- whether two tables are equal, as the program compares them -/
def sameB (a b : Tb) : Bool := (List.range 6).all fun i => (List.range 6).all fun j => a i j == b i j
theorem sameB_iff (a b : Tb) : sameB a b = true ↔ Cs.Same a b := by
  unfold sameB Cs.Same
  simp only [List.all_eq_true, List.mem_range, beq_iff_eq]
  exact ⟨fun h i j hi hj => h i hi j hj, fun h i hi j hj => h i j hi hj⟩
theorem eqItems_ints (d : Nat) (xs ys : Array Value) (f g : Nat → Int) (w : World) : ∀ is : List Nat, (∀ i ∈ is, xs[i]? = some (.int .i64 (f i)) ∧ ys[i]? = some (.int .i64 (g i))) →
    (Op.eqItems (d + 1) 3 1 xs ys is).run Try.prog w = .ok (is.all fun i => f i == g i) w
  | [], _ => by simp [Op.eqItems]
  | i :: is, h => by
    have hp : Try.prog.plainKey 3 = true := by kernel_rfl
    obtain ⟨h1, h2⟩ := h i (by simp)
    have p1 := run_part_plain (P := Try.prog) w hp (off := i * 1) (xs := xs) (by rw [Nat.mul_one]; exact h1)
    have p2 := run_part_plain (P := Try.prog) w hp (off := i * 1) (xs := ys) (by rw [Nat.mul_one]; exact h2)
    have p3 := run_equalIn_int (P := Try.prog) w d 3 .i64 .i64 (f i) (g i) Try.underlying3
    have ih := eqItems_ints d xs ys f g w is (fun k hk => h k (by simp [hk]))
    simp only [Op.eqItems, Sem.run_bind, p1, p2, p3, Result.andThen_ok, List.all_cons]
    cases hb : (f i == g i)
    · simp
    · simp only [Bool.not_true, Bool.false_eq_true, if_false, Bool.true_and]
      exact ih
theorem info_row : ∃ i, Try.prog.info? 68 = some i := by
  have h := size_row zeroT 0
  cases hq : Try.prog.info? 68 with
  | none => simp [hq] at h
  | some i => exact ⟨i, rfl⟩
theorem info_num : ∃ i, Try.prog.info? 3 = some i := by
  have h := info_int
  cases hq : Try.prog.info? 3 with
  | none => simp [hq] at h
  | some i => exact ⟨i, rfl⟩
theorem part_row (a : Tb) {i : Nat} (hi : i < 6) (w : World) : (part 68 (tabA a) (i * 6)).run Try.prog w = .ok (.agg (rowA a i)) w := by
  obtain rfl | rfl | rfl | rfl | rfl | rfl : i = 0 ∨ i = 1 ∨ i = 2 ∨ i = 3 ∨ i = 4 ∨ i = 5 := by omega
  all_goals kernel_rfl
theorem eqItems_rows (d : Nat) (a b : Tb) (w : World) : ∀ is : List Nat, (∀ i ∈ is, i < 6) →
    (Op.eqItems (d + 2) 68 6 (tabA a) (tabA b) is).run Try.prog w = .ok (is.all fun i => (List.range 6).all fun j => a i j == b i j) w
  | [], _ => by simp [Op.eqItems]
  | i :: is, h => by
    have hi := h i (by simp)
    have p1 := part_row a hi w
    have p2 := part_row b hi w
    obtain ⟨inf, hinf⟩ := info_num
    have p3 : (Op.equalIn (d + 2) 68 (.agg (rowA a i)) (.agg (rowA b i))).run Try.prog w = .ok ((List.range 6).all fun j => a i j == b i j) w := by
      rw [show d + 2 = (d + 1) + 1 by omega, run_equalIn_array (P := Try.prog) w (d + 1) (rowA a i) (rowA b i) Try.underlying68 hinf]
      rw [show Try.prog.cellsOf 3 = 1 by kernel_rfl]
      exact eqItems_ints d (rowA a i) (rowA b i) (a i) (b i) w (List.range 6) (fun k hk => ⟨rowA_get a i (List.mem_range.1 hk), rowA_get b i (List.mem_range.1 hk)⟩)
    have ih := eqItems_rows d a b w is (fun k hk => h k (by simp [hk]))
    simp only [Op.eqItems, Sem.run_bind, p1, p2, p3, Result.andThen_ok, List.all_cons]
    cases hb : ((List.range 6).all fun j => a i j == b i j)
    · simp
    · simp only [Bool.not_true, Bool.false_eq_true, if_false, Bool.true_and]
      exact ih
theorem equal_tab (a b : Tb) (w : World) : (Op.equalIn 10000 70 (.agg (tabA a)) (.agg (tabA b))).run Try.prog w = .ok (sameB a b) w := by
  obtain ⟨inf, hinf⟩ := info_row
  rw [show (10000 : Nat) = 9999 + 1 by omega, run_equalIn_array (P := Try.prog) w 9999 (tabA a) (tabA b) Try.underlying70 hinf]
  rw [show Try.prog.cellsOf 68 = 6 by kernel_rfl]
  exact eqItems_rows 9997 a b w (List.range 6) (fun k hk => List.mem_range.1 hk)

set_option maxRecDepth 100000 in
set_option maxHeartbeats 400000 in
/-- the counter, one higher -/
theorem count_any (g : Nat) (x : Int) (w : World) (hc : w.cell? ⟨g, 0, none⟩ = some (.int .i64 x)) (hz : w.frozen? ⟨g, 0, none⟩ = false) (h0 : 0 ≤ x) (h1 : x ≤ 100) :
    Calls Try.prog 103 #[.pointer (some ⟨g, 0, none⟩), .int .i64 1] w fun e w' => e = .returned (.int .i64 (x + 1)) ∧ w' = w.setCell ⟨g, 0, none⟩ (.int .i64 (x + 1)) := by
  have hw : IntKind.i64.wrap (x + 1) = x + 1 := IntWalk.i64_in _ ⟨by omega, by omega⟩
  have hadd := run_call_add (P := Try.prog) Try.func108 (by kernel_rfl) (by kernel_rfl) (by kernel_rfl) .i64 (by kernel_rfl) (y := 1) (s := x + 1) hc hz (by simp [go_sem, hw])
  go_enter Try.func103, Try.ntmps103
  go_wp2
  go_ret
  exact ⟨rfl, rfl⟩

theorem results_cell_tmp2 {P : Program} {fn : Func} {p q : Tmp} {ty : TypeId} (h : fn.results = #[.cell p ty, .tmp q]) (tmps : Array Value) (w : World) (g : Nat) (t : TypeId) (cs : Array Value) (fr : Nat × Nat) (d : TypeDesc)
    (hp : tmps.getD p undef = .pointer (some ⟨g, 0, none⟩)) (hg : w.heap[g]? = some (.cells cs t fr))
    (hu : P.underlying ty = some d) (hd : (match d with | .struct _ | .array _ _ => true | _ => false) = true) (hi : (P.info? ty).map (·.size) = some cs.size) :
    (results fn tmps).run P w = .ok (.tuple #[.agg cs, tmps.getD q undef]) w := by
  have hp' : tmps[p]?.getD undef = .pointer (some ⟨g, 0, none⟩) := by simpa using hp
  simp [results, h, hp', asAddr, run_loadVar_row w g t ty cs fr d hg hu hd hi]
/-- the same law at an operation whose guard holds -/
theorem wpList_load_row_g {P : Program} {ops : Array Oper} {rest : List Oper} {o : Oper} {a : Act} {w : World} {Q : Exit → Act → World → Prop} (hw : Region.wanted o (yielded ops a.tmps) = true) (ty : TypeId) (x : Operand) (ho : o.op = .load ty x)
    (g : Nat) (hx : a.eval x = .pointer (some ⟨g, 0, none⟩)) (t : TypeId) (cs : Array Value) (fr : Nat × Nat) (d : TypeDesc) (hg : w.heap[g]? = some (.cells cs t fr))
    (hu : P.underlying ty = some d) (hd : (match d with | .struct _ | .array _ _ => true | _ => false) = true) (hi : (P.info? ty).map (·.size) = some cs.size)
    (h : wpList P ops Q rest (a.put o.dst (.agg cs)) w) : wpList P ops Q (o :: rest) a w := by
  simp only [wpList, hw, if_true]
  exact .inl (wp_load_row ty x ho g hx t cs fr d hg hu hd hi h)
end Go.Proofs.Ytmmhcpigcdlnmaa
