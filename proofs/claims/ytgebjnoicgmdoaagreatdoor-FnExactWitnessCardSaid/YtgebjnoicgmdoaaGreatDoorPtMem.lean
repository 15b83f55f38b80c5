/- Words for memory: a table of six times six numbers in one block, as the program keeps it. -/
import Derived.Test.YtgebjnoicgmdoaaGreatDoorCsMath7
import Derived.Deep.WholeRow
import Derived.BigQuiet

namespace Go.Proofs.YtgebjnoicgmdoaaGreatDoor
open Go.RowKit
open Cs (Cn Tb)

/-- the cells of a table -/
def tabA (d : Tb) : Array Value := ((List.range 36).map fun k => Value.int .i64 (d (k / 6) (k % 6))).toArray
theorem tabA_size (d : Tb) : (tabA d).size = 36 := by simp [tabA]
theorem tabA_at (d : Tb) {k : Nat} (hk : k < 36) : (tabA d)[k]? = some (.int .i64 (d (k / 6) (k % 6))) := by simp [tabA, hk]
theorem tabA_get (d : Tb) {i j : Nat} (hi : i < 6) (hj : j < 6) : (tabA d)[i * 6 + j]? = some (.int .i64 (d i j)) := by
  rw [tabA_at d (by omega), show (i * 6 + j) / 6 = i by omega, show (i * 6 + j) % 6 = j by omega]
theorem tabA_one (d : Tb) : (tabA d).all (·.oneCell') = true := by
  rw [Array.all_eq_true_iff_forall_mem]
  intro x hx
  simp [tabA] at hx
  obtain ⟨k, _, rfl⟩ := hx
  rfl
theorem tabA_put (d : Tb) {i j : Nat} (_ : i < 6) (hj : j < 6) (x : Int) : (tabA d).setIfInBounds (i * 6 + j) (.int .i64 x) = tabA (Cs.put d i j x) := by
  apply Array.ext_getElem?
  intro k
  by_cases hk : k < 36
  · rw [Array.getElem?_setIfInBounds, tabA_at _ hk, tabA_at _ hk, tabA_size]
    unfold Cs.put
    by_cases e : i * 6 + j = k
    · subst e
      rw [if_pos rfl, if_pos (by omega), if_pos (by omega)]
    · rw [if_neg e, if_neg (by omega)]
  · rw [Array.getElem?_eq_none (by rw [Array.size_setIfInBounds, tabA_size]; omega), Array.getElem?_eq_none (by rw [tabA_size]; omega)]
theorem tabA_same {d e : Tb} : tabA d = tabA e ↔ Cs.Same d e := by
  constructor
  · intro h i j hi hj
    have h1 := tabA_get d hi hj
    rw [h, tabA_get e hi hj] at h1
    injection h1 with h1
    injection h1 with _ h1
    exact h1.symm
  · intro h
    apply Array.ext_getElem?
    intro k
    by_cases hk : k < 36
    · rw [tabA_at d hk, tabA_at e hk, h (k / 6) (k % 6) (by omega) (by omega)]
    · rw [Array.getElem?_eq_none (by rw [tabA_size]; omega), Array.getElem?_eq_none (by rw [tabA_size]; omega)]
/-- the value of a table -/
abbrev tabV (d : Tb) : Value := .agg (tabA d)
theorem size_tab (d : Tb) : (Tryz.prog.info? 85).map (·.size) = some (tabA d).size := by rw [tabA_size]; kernel_rfl
/-- a block that holds a table -/
abbrev BlkT (w : World) (g : Nat) (d : Tb) : Prop := Blk w g 85 (tabA d)
theorem BlkT.spot {w : World} {g : Nat} {d : Tb} (h : BlkT w g d) {i j : Nat} (hi : i < 6) (hj : j < 6) : w.cell? ⟨g, i * 6 + j, none⟩ = some (.int .i64 (d i j)) := (h.cell _).trans (tabA_get d hi hj)
theorem BlkT.put {w : World} {g : Nat} {d : Tb} (h : BlkT w g d) {i j : Nat} (hi : i < 6) (hj : j < 6) (x : Int) : BlkT (w.setCell ⟨g, i * 6 + j, none⟩ (.int .i64 x)) g (Cs.put d i j x) := by
  have := Blk.put h (i * 6 + j) (.int .i64 x)
  rw [tabA_put d hi hj x] at this
  exact this

/-- the table that is all 0 -/
def zeroT : Tb := fun _ _ => 0
theorem zeros_tab : (#[Value.int .i64 0, Value.int .i64 0, Value.int .i64 0, Value.int .i64 0, Value.int .i64 0, Value.int .i64 0, Value.int .i64 0, Value.int .i64 0, Value.int .i64 0, Value.int .i64 0, Value.int .i64 0, Value.int .i64 0, Value.int .i64 0, Value.int .i64 0, Value.int .i64 0, Value.int .i64 0, Value.int .i64 0, Value.int .i64 0, Value.int .i64 0, Value.int .i64 0, Value.int .i64 0, Value.int .i64 0, Value.int .i64 0, Value.int .i64 0, Value.int .i64 0, Value.int .i64 0, Value.int .i64 0, Value.int .i64 0, Value.int .i64 0, Value.int .i64 0, Value.int .i64 0, Value.int .i64 0, Value.int .i64 0, Value.int .i64 0, Value.int .i64 0, Value.int .i64 0] : Array Value) = tabA zeroT := by kernel_rfl
/-- a row of a table, as cells -/
def rowA (d : Tb) (i : Nat) : Array Value := ((List.range 6).map fun j => Value.int .i64 (d i j)).toArray
theorem rowA_size (d : Tb) (i : Nat) : (rowA d i).size = 6 := by simp [rowA]
theorem rowA_get (d : Tb) (i : Nat) {j : Nat} (hj : j < 6) : (rowA d i)[j]? = some (.int .i64 (d i j)) := by simp [rowA, hj]
theorem size_row (d : Tb) (i : Nat) : (Tryz.prog.info? 83).map (·.size) = some (rowA d i).size := by rw [rowA_size]; kernel_rfl
theorem index_row (d : Tb) (i : Nat) {j : Nat} (hj : j < 6) (w : World) : (Instr.index 83 (.agg (rowA d i)) (.int .i64 (j : Int))).run Tryz.prog w = .ok (.int .i64 (d i j)) w := by
  obtain rfl | rfl | rfl | rfl | rfl | rfl : j = 0 ∨ j = 1 ∨ j = 2 ∨ j = 3 ∨ j = 4 ∨ j = 5 := by omega
  all_goals kernel_rfl
section
variable {P : Program}
/-- a part of a row, as one value -/
theorem run_loadVar_sub (w : World) (g off : Nat) (ty : TypeId) (cs : Array Value) (d : TypeDesc) (hc : ∀ j, j < cs.size → w.cell? ⟨g, off + j, none⟩ = cs[j]?)
    (hu : P.underlying ty = some d) (hd : (match d with | .struct _ | .array _ _ => true | _ => false) = true) (hi : (P.info? ty).map (·.size) = some cs.size) :
    (loadVar ty ⟨g, off, none⟩).run P w = .ok (.agg cs) w := by
  have hl : (loadCells ⟨g, off, none⟩ cs.toList.length).run P w = .ok cs.toList.toArray w :=
    run_loadCells_list (P := P) w ⟨g, off, none⟩ cs.toList (fun j v hv => by
      have hadd : (⟨g, off, none⟩ : Addr).add j = ⟨g, off + j, none⟩ := by unfold Addr.add; split <;> simp_all
      have hj : j < cs.size := by
        have := (List.getElem?_eq_some_iff.1 hv).1
        simpa using this
      rw [hadd, hc j hj]
      simpa using hv)
  cases hq : P.info? ty with
  | none => simp [hq] at hi
  | some i =>
    have hs : i.size = cs.size := by simpa [hq] using hi
    have hagg : (isAgg ty).run P w = .ok true w := by
      unfold isAgg
      rw [Sem.run_bind, run_underlying hu w]
      cases d <;> simp_all
    simp only [Array.length_toList, Array.toArray_toList] at hl
    simp [loadVar, Sem.run_bind, hagg, sizeOf, typeInfo, hq, hs, hl]
theorem wp_load_sub {o : Oper} {a : Act} {w : World} {K : Act → World → Prop} {Q : Exit → Act → World → Prop} (ty : TypeId) (x : Operand) (ho : o.op = .load ty x)
    (g off : Nat) (hx : a.eval x = .pointer (some ⟨g, off, none⟩)) (cs : Array Value) (d : TypeDesc) (hc : ∀ j, j < cs.size → w.cell? ⟨g, off + j, none⟩ = cs[j]?)
    (hu : P.underlying ty = some d) (hd : (match d with | .struct _ | .array _ _ => true | _ => false) = true) (hi : (P.info? ty).map (·.size) = some cs.size)
    (h : K (a.put o.dst (.agg cs)) w) : o.wp P a w K Q := by
  unfold Oper.wp execOp
  simp only [ho, hx, Instr.loadAt, Instr.sureAddr, Sem.run_bind, Sem.run_pure, Result.andThen_ok, run_loadVar_sub w g off ty cs d hc hu hd hi]
  exact h
theorem wpList_load_sub {ops : Array Oper} {rest : List Oper} {o : Oper} {a : Act} {w : World} {Q : Exit → Act → World → Prop} (hgd : o.guard = none) (ty : TypeId) (x : Operand) (ho : o.op = .load ty x)
    (g off : Nat) (hx : a.eval x = .pointer (some ⟨g, off, none⟩)) (cs : Array Value) (d : TypeDesc) (hc : ∀ j, j < cs.size → w.cell? ⟨g, off + j, none⟩ = cs[j]?)
    (hu : P.underlying ty = some d) (hd : (match d with | .struct _ | .array _ _ => true | _ => false) = true) (hi : (P.info? ty).map (·.size) = some cs.size)
    (h : wpList P ops Q rest (a.put o.dst (.agg cs)) w) : wpList P ops Q (o :: rest) a w :=
  wpList_plain hgd fun _ hK => wp_load_sub ty x ho g off hx cs d hc hu hd hi (hK _ _ h)
end
theorem BlkT.row {w : World} {g : Nat} {d : Tb} (h : Blk w g 85 (tabA d)) {i : Nat} (hi : i < 6) : ∀ j, j < (rowA d i).size → w.cell? ⟨g, i * 6 + j, none⟩ = (rowA d i)[j]? := fun j hj => by
  rw [rowA_size] at hj
  rw [rowA_get d i hj, Blk.cell h, tabA_get d hi hj]
/-- a table laid over a table -/
theorem BlkT.lay {w : World} {g : Nat} {d : Tb} (h : Blk w g 85 (tabA d)) (e : Tb) : Blk (w.setRow g (tabA e)) g 85 (tabA e) := by
  have h' : w.heap[g]? = some (.cells (tabA d) 85 (0, 0)) := h
  show (w.setRow g (tabA e)).heap[g]? = _
  simp only [World.setRow]
  rw [Array.getElem?_modify, if_pos rfl, h']
  rfl
theorem dn_below {B : Nat} {a w : World} (h : Below B a w) (n : Nat) : Below B a (w.drewN n) := ⟨h.os, h.tape, h.output, h.size, h.block⟩
set_option maxHeartbeats 400000 in
theorem place_any (w : World) (p : Int) (u : Nat) (h : p + 1 = u) (h2 : u < 6) : Calls Tryz.prog 129 #[.int .i64 p] w fun e w' => e = .returned (.int .i64 (u : Int)) ∧ w' = w := by
  obtain rfl : p = (u : Int) - 1 := by omega
  have hw : IntKind.i64.wrap ((u : Int) - 1 - -1) = u := by rw [show (u : Int) - 1 - -1 = u by omega]; exact IntWalk.i64_in _ ⟨by omega, by omega⟩
  clear h
  go_enter Tryz.func129, Tryz.ntmps129
  go_wp2
  go_ret
  exact ⟨rfl, rfl⟩
set_option maxRecDepth 100000 in
set_option maxHeartbeats 400000 in
theorem far_any (w : World) (d : Tb) (p q : Int) (u v : Nat) (hu : p + 1 = u) (hu6 : u < 6) (hv : q + 1 = v) (hv6 : v < 6) : Calls Tryz.prog 99 #[tabV d, .int .i64 p, .int .i64 q] w fun e w' => e = .returned (.int .i64 (d u v)) ∧ Below w.heap.size w w' := by
  obtain ⟨W, hW⟩ : ∃ W, w.alloc (.cells (tabA d) 85) = W := ⟨_, rfl⟩
  have hblk : BlkT W w.heap.size d := by rw [← hW]; exact Blk.made _ _ _
  have HB : Hid (Below w.heap.size w W) := by show Below _ _ _; rw [← hW]; exact (Below.refl _ _).alloc (Nat.le_refl _) _
  have k1 := hblk.spot hu6 hv6
  have hui : (u : Int) < 6 := by omega
  have hvi : (v : Int) < 6 := by omega
  have HU := Lib.hid hu
  have HV := Lib.hid hv
  clear hblk hu hv
  go_enter Tryz.func99, Tryz.ntmps99
  go_wp2
  go_quiet (first | (go_at_call 129; first | refine Calls.quiet_of_same (place_any _ p u HU.out hu6) | refine Calls.quiet_of_same (place_any _ q v HV.out hv6)))
  go_wp2
  go_ret
  exact ⟨rfl, dn_below HB.out _⟩

/-- one block of the world is written, and nothing is made -/
def Wrote (g : Nat) (w w' : World) : Prop := w.grownBy w' (some g) ∧ w'.heap.size = w.heap.size
theorem Wrote.set {w : World} {g : Nat} (k : Nat) (x : Value) : Wrote g w (w.setCell ⟨g, k, none⟩ x) :=
  ⟨⟨rfl, rfl, rfl, by simp [World.setCell], fun j _ hj => Below.heap_setCell _ _ _ _ (fun e => hj (by rw [e]))⟩, by simp [World.setCell]⟩
theorem Wrote.row (w : World) (g : Nat) (e : Array Value) : Wrote g w (w.setRow g e) :=
  ⟨⟨rfl, rfl, rfl, by simp [World.setRow], fun k _ hk => by
    simp only [World.setRow]
    rw [Array.getElem?_modify, if_neg (fun e => hk (by rw [e]))]⟩, by simp [World.setRow]⟩
theorem Wrote.dn {w w' : World} {g : Nat} (h : Wrote g w w') (n : Nat) : Wrote g w (w'.drewN n) := ⟨⟨h.1.os, h.1.tape, h.1.output, h.1.size, h.1.block⟩, h.2⟩
theorem Wrote.of_dn {w w' : World} {g n : Nat} (h : Wrote g (w.drewN n) w') : Wrote g w w' := ⟨⟨h.1.os, h.1.tape, h.1.output, h.1.size, h.1.block⟩, h.2⟩
theorem Wrote.below {w0 w w' : World} {g B : Nat} (h : Wrote g w w') (hb : Below B w0 w) (hB : B ≤ w.heap.size) (hg : B ≤ g) : Below B w0 w' := hb.grown h.1 hB (fun k hk => by injection hk with hk; omega)
theorem Wrote.blk {w w' : World} {g k : Nat} {t : TypeId} {cs : Array Value} (h : Wrote g w w') (hb : Blk w k t cs) (hk : k ≠ g) : Blk w' k t cs := (h.1.block k hb.lt (fun e => hk (by injection e with e))).trans hb
theorem BlkT.thawed {w : World} {g : Nat} {d : Tb} (h : BlkT w g d) (k : Nat) : w.frozen? ⟨g, k, none⟩ = false := Blk.thawed h k
theorem BlkT.dn {w : World} {g : Nat} {d : Tb} (h : BlkT w g d) (n : Nat) : BlkT (w.drewN n) g d := h
set_option maxRecDepth 100000 in
set_option maxHeartbeats 800000 in
theorem add_any (w : World) (g : Nat) (d : Tb) (p q : Int) (u v : Nat) (less : Bool) (hu : p + 1 = u) (hu6 : u < 6) (hv : q + 1 = v) (hv6 : v < 6) (hb : BlkT w g d) :
    Calls Tryz.prog 156 #[.pointer (some ⟨g, 0, none⟩), .int .i64 p, .int .i64 q, .bool less] w fun e w' => e = .returned (.tuple #[]) ∧ Wrote g w w' ∧ BlkT w' g (Cs.put d u v (max (d u v) (if less = true then 1 else 0))) := by
  have k1 := hb.spot hu6 hv6
  have k2 := hb.thawed (u * 6 + v)
  have hui : (u : Int) < 6 := by omega
  have hvi : (v : Int) < 6 := by omega
  have HU := Lib.hid hu
  have HV := Lib.hid hv
  have HP : ∀ n x, Hid (BlkT ((w.drewN n).setCell ⟨g, u * 6 + v, none⟩ (.int .i64 x)) g (Cs.put d u v x)) := fun n x => (hb.dn n).put hu6 hv6 x
  have HW : ∀ n x, Hid (Wrote g w ((w.drewN n).setCell ⟨g, u * 6 + v, none⟩ x)) := fun n x => (Wrote.set _ _).of_dn
  obtain ⟨x, hx⟩ : ∃ x, d u v = x := ⟨_, rfl⟩
  rw [hx] at k1
  have HX := Lib.hid hx
  clear hb hu hv hx
  cases less with
  | true =>
    by_cases hc : x < 1
    · go_enter Tryz.func156, Tryz.ntmps156
      go_wp2
      go_quiet (first | (go_at_call 129; first | refine Calls.quiet_of_same (place_any _ p u HU.out hu6) | refine Calls.quiet_of_same (place_any _ q v HV.out hv6)))
      go_wp2
      go_end0
      exact ⟨rfl, (HW _ _).out, by show BlkT _ _ (Cs.put d u v (max (d u v) 1)); rw [show max (d u v) (1 : Int) = 1 by rw [HX.out]; omega]; exact (HP _ _).out⟩
    · go_enter Tryz.func156, Tryz.ntmps156
      go_wp2
      go_quiet (first | (go_at_call 129; first | refine Calls.quiet_of_same (place_any _ p u HU.out hu6) | refine Calls.quiet_of_same (place_any _ q v HV.out hv6)))
      go_wp2
      go_end0
      exact ⟨rfl, (HW _ _).out, by show BlkT _ _ (Cs.put d u v (max (d u v) 1)); rw [show max (d u v) (1 : Int) = x by rw [HX.out]; omega]; exact (HP _ _).out⟩
  | false =>
    by_cases hc : x < 0
    · go_enter Tryz.func156, Tryz.ntmps156
      go_wp2
      go_quiet (first | (go_at_call 129; first | refine Calls.quiet_of_same (place_any _ p u HU.out hu6) | refine Calls.quiet_of_same (place_any _ q v HV.out hv6)))
      go_wp2
      go_end0
      exact ⟨rfl, (HW _ _).out, by show BlkT _ _ (Cs.put d u v (max (d u v) 0)); rw [show max (d u v) (0 : Int) = 0 by rw [HX.out]; omega]; exact (HP _ _).out⟩
    · go_enter Tryz.func156, Tryz.ntmps156
      go_wp2
      go_quiet (first | (go_at_call 129; first | refine Calls.quiet_of_same (place_any _ p u HU.out hu6) | refine Calls.quiet_of_same (place_any _ q v HV.out hv6)))
      go_wp2
      go_end0
      exact ⟨rfl, (HW _ _).out, by show BlkT _ _ (Cs.put d u v (max (d u v) 0)); rw [show max (d u v) (0 : Int) = x by rw [HX.out]; omega]; exact (HP _ _).out⟩
end Go.Proofs.YtgebjnoicgmdoaaGreatDoor
