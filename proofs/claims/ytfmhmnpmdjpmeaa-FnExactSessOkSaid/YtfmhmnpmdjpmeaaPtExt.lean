/- Words for memory: a table of six times six numbers in one block, as the program keeps it. -/
/- The program's table with one more edge: extended. -/
import Derived.Test.YtfmhmnpmdjpmeaaCoMem
import Derived.Test.YtfmhmnpmdjpmeaaCsMath6
import Derived.Deep.WholeRow
import Derived.BigQuiet

namespace Go.Proofs.Ytfmhmnpmdjpmeaa
open Go.RowKit
open Cs (Cn Tb)

/-- the cells of a table -/
def tabA (d : Tb) : Array Value := ((List.range 36).map fun k => Value.int .i64 (d (k / 6) (k % 6))).toArray
theorem tabA_size (d : Tb) : (tabA d).size = 36 := by simp [tabA]
theorem tabA_at (d : Tb) {k : Nat} (hk : k < 36) : (tabA d)[k]? = some (.int .i64 (d (k / 6) (k % 6))) := by simp [tabA, hk]
theorem tabA_get (d : Tb) {i j : Nat} (hi : i < 6) (hj : j < 6) : (tabA d)[i * 6 + j]? = some (.int .i64 (d i j)) := by
  rw [tabA_at d (by omega), show (i * 6 + j) / 6 = i by omega, show (i * 6 + j) % 6 = j by omega]
theorem tabA_one (d : Tb) : (tabA d).all (·.oneCell') = true := by
  rw [Array.all_eq_true_iff_forall_mem]
  intro x hx
  simp [tabA] at hx
  obtain ⟨k, _, rfl⟩ := hx
  rfl
theorem tabA_put (d : Tb) {i j : Nat} (_ : i < 6) (hj : j < 6) (x : Int) : (tabA d).setIfInBounds (i * 6 + j) (.int .i64 x) = tabA (Cs.put d i j x) := by
  apply Array.ext_getElem?
  intro k
  by_cases hk : k < 36
  · rw [Array.getElem?_setIfInBounds, tabA_at _ hk, tabA_at _ hk, tabA_size]
    unfold Cs.put
    by_cases e : i * 6 + j = k
    · subst e
      rw [if_pos rfl, if_pos (by omega), if_pos (by omega)]
    · rw [if_neg e, if_neg (by omega)]
  · rw [Array.getElem?_eq_none (by rw [Array.size_setIfInBounds, tabA_size]; omega), Array.getElem?_eq_none (by rw [tabA_size]; omega)]
theorem tabA_same {d e : Tb} : tabA d = tabA e ↔ Cs.Same d e := by
  constructor
  · intro h i j hi hj
    have h1 := tabA_get d hi hj
    rw [h, tabA_get e hi hj] at h1
    injection h1 with h1
    injection h1 with _ h1
    exact h1.symm
  · intro h
    apply Array.ext_getElem?
    intro k
    by_cases hk : k < 36
    · rw [tabA_at d hk, tabA_at e hk, h (k / 6) (k % 6) (by omega) (by omega)]
    · rw [Array.getElem?_eq_none (by rw [tabA_size]; omega), Array.getElem?_eq_none (by rw [tabA_size]; omega)]
/-- the value of a table -/
abbrev tabV (d : Tb) : Value := .agg (tabA d)
theorem size_tab (d : Tb) : (Try.prog.info? 132).map (·.size) = some (tabA d).size := by rw [tabA_size]; kernel_rfl
/-- a block that holds a table -/
abbrev BlkT (w : World) (g : Nat) (d : Tb) : Prop := Blk w g 132 (tabA d)
theorem BlkT.spot {w : World} {g : Nat} {d : Tb} (h : BlkT w g d) {i j : Nat} (hi : i < 6) (hj : j < 6) : w.cell? ⟨g, i * 6 + j, none⟩ = some (.int .i64 (d i j)) := (h.cell _).trans (tabA_get d hi hj)
theorem BlkT.put {w : World} {g : Nat} {d : Tb} (h : BlkT w g d) {i j : Nat} (hi : i < 6) (hj : j < 6) (x : Int) : BlkT (w.setCell ⟨g, i * 6 + j, none⟩ (.int .i64 x)) g (Cs.put d i j x) := by
  have := Blk.put h (i * 6 + j) (.int .i64 x)
  rw [tabA_put d hi hj x] at this
  exact this

/-- the table that is all 0 -/
def zeroT : Tb := fun _ _ => 0
theorem zeros_tab : (#[Value.int .i64 0, Value.int .i64 0, Value.int .i64 0, Value.int .i64 0, Value.int .i64 0, Value.int .i64 0, Value.int .i64 0, Value.int .i64 0, Value.int .i64 0, Value.int .i64 0, Value.int .i64 0, Value.int .i64 0, Value.int .i64 0, Value.int .i64 0, Value.int .i64 0, Value.int .i64 0, Value.int .i64 0, Value.int .i64 0, Value.int .i64 0, Value.int .i64 0, Value.int .i64 0, Value.int .i64 0, Value.int .i64 0, Value.int .i64 0, Value.int .i64 0, Value.int .i64 0, Value.int .i64 0, Value.int .i64 0, Value.int .i64 0, Value.int .i64 0, Value.int .i64 0, Value.int .i64 0, Value.int .i64 0, Value.int .i64 0, Value.int .i64 0, Value.int .i64 0] : Array Value) = tabA zeroT := by kernel_rfl
/-- a row of a table, as cells -/
def rowA (d : Tb) (i : Nat) : Array Value := ((List.range 6).map fun j => Value.int .i64 (d i j)).toArray
theorem rowA_size (d : Tb) (i : Nat) : (rowA d i).size = 6 := by simp [rowA]
theorem rowA_get (d : Tb) (i : Nat) {j : Nat} (hj : j < 6) : (rowA d i)[j]? = some (.int .i64 (d i j)) := by simp [rowA, hj]
theorem size_row (d : Tb) (i : Nat) : (Try.prog.info? 130).map (·.size) = some (rowA d i).size := by rw [rowA_size]; kernel_rfl
theorem index_row (d : Tb) (i : Nat) {j : Nat} (hj : j < 6) (w : World) : (Instr.index 130 (.agg (rowA d i)) (.int .i64 (j : Int))).run Try.prog w = .ok (.int .i64 (d i j)) w := by
  obtain rfl | rfl | rfl | rfl | rfl | rfl : j = 0 ∨ j = 1 ∨ j = 2 ∨ j = 3 ∨ j = 4 ∨ j = 5 := by omega
  all_goals kernel_rfl
section
variable {P : Program}
/-- a part of a row, as one value -/
theorem run_loadVar_sub (w : World) (g off : Nat) (ty : TypeId) (cs : Array Value) (d : TypeDesc) (hc : ∀ j, j < cs.size → w.cell? ⟨g, off + j, none⟩ = cs[j]?)
    (hu : P.underlying ty = some d) (hd : (match d with | .struct _ | .array _ _ => true | _ => false) = true) (hi : (P.info? ty).map (·.size) = some cs.size) :
    (loadVar ty ⟨g, off, none⟩).run P w = .ok (.agg cs) w := by
  have hl : (loadCells ⟨g, off, none⟩ cs.toList.length).run P w = .ok cs.toList.toArray w :=
    run_loadCells_list (P := P) w ⟨g, off, none⟩ cs.toList (fun j v hv => by
      have hadd : (⟨g, off, none⟩ : Addr).add j = ⟨g, off + j, none⟩ := by unfold Addr.add; split <;> simp_all
      have hj : j < cs.size := by
        have := (List.getElem?_eq_some_iff.1 hv).1
        simpa using this
      rw [hadd, hc j hj]
      simpa using hv)
  cases hq : P.info? ty with
  | none => simp [hq] at hi
  | some i =>
    have hs : i.size = cs.size := by simpa [hq] using hi
    have hagg : (isAgg ty).run P w = .ok true w := by
      unfold isAgg
      rw [Sem.run_bind, run_underlying hu w]
      cases d <;> simp_all
    simp only [Array.length_toList, Array.toArray_toList] at hl
    simp [loadVar, Sem.run_bind, hagg, sizeOf, typeInfo, hq, hs, hl]
theorem wp_load_sub {o : Oper} {a : Act} {w : World} {K : Act → World → Prop} {Q : Exit → Act → World → Prop} (ty : TypeId) (x : Operand) (ho : o.op = .load ty x)
    (g off : Nat) (hx : a.eval x = .pointer (some ⟨g, off, none⟩)) (cs : Array Value) (d : TypeDesc) (hc : ∀ j, j < cs.size → w.cell? ⟨g, off + j, none⟩ = cs[j]?)
    (hu : P.underlying ty = some d) (hd : (match d with | .struct _ | .array _ _ => true | _ => false) = true) (hi : (P.info? ty).map (·.size) = some cs.size)
    (h : K (a.put o.dst (.agg cs)) w) : o.wp P a w K Q := by
  unfold Oper.wp execOp
  simp only [ho, hx, Instr.loadAt, Instr.sureAddr, Sem.run_bind, Sem.run_pure, Result.andThen_ok, run_loadVar_sub w g off ty cs d hc hu hd hi]
  exact h
theorem wpList_load_sub {ops : Array Oper} {rest : List Oper} {o : Oper} {a : Act} {w : World} {Q : Exit → Act → World → Prop} (hgd : o.guard = none) (ty : TypeId) (x : Operand) (ho : o.op = .load ty x)
    (g off : Nat) (hx : a.eval x = .pointer (some ⟨g, off, none⟩)) (cs : Array Value) (d : TypeDesc) (hc : ∀ j, j < cs.size → w.cell? ⟨g, off + j, none⟩ = cs[j]?)
    (hu : P.underlying ty = some d) (hd : (match d with | .struct _ | .array _ _ => true | _ => false) = true) (hi : (P.info? ty).map (·.size) = some cs.size)
    (h : wpList P ops Q rest (a.put o.dst (.agg cs)) w) : wpList P ops Q (o :: rest) a w :=
  wpList_plain hgd fun _ hK => wp_load_sub ty x ho g off hx cs d hc hu hd hi (hK _ _ h)
end
theorem BlkT.row {w : World} {g : Nat} {d : Tb} (h : Blk w g 132 (tabA d)) {i : Nat} (hi : i < 6) : ∀ j, j < (rowA d i).size → w.cell? ⟨g, i * 6 + j, none⟩ = (rowA d i)[j]? := fun j hj => by
  rw [rowA_size] at hj
  rw [rowA_get d i hj, Blk.cell h, tabA_get d hi hj]
/-- a table laid over a table -/
theorem BlkT.lay {w : World} {g : Nat} {d : Tb} (h : Blk w g 132 (tabA d)) (e : Tb) : Blk (w.setRow g (tabA e)) g 132 (tabA e) := by
  have h' : w.heap[g]? = some (.cells (tabA d) 132 (0, 0)) := h
  show (w.setRow g (tabA e)).heap[g]? = _
  simp only [World.setRow]
  rw [Array.getElem?_modify, if_pos rfl, h']
  rfl
set_option maxHeartbeats 400000 in
theorem place_any (w : World) (p : Int) (u : Nat) (h : p + 1 = u) (h2 : u < 6) : Calls Try.prog 112 #[.int .i64 p] w fun e w' => e = .returned (.int .i64 (u : Int)) ∧ w' = w := by
  obtain rfl : p = (u : Int) - 1 := by omega
  have hw : IntKind.i64.wrap ((u : Int) - 1 - -1) = u := by rw [show (u : Int) - 1 - -1 = u by omega]; exact IntWalk.i64_in _ ⟨by omega, by omega⟩
  clear h
  go_enter Try.func112, Try.ntmps112
  go_wp2
  go_ret
  exact ⟨rfl, rfl⟩
/-- one block of the world is written, and nothing is made -/
def Wrote (g : Nat) (w w' : World) : Prop := w.grownBy w' (some g) ∧ w'.heap.size = w.heap.size
theorem Wrote.set {w : World} {g : Nat} (k : Nat) (x : Value) : Wrote g w (w.setCell ⟨g, k, none⟩ x) :=
  ⟨⟨rfl, rfl, rfl, by simp [World.setCell], fun j _ hj => Below.heap_setCell _ _ _ _ (fun e => hj (by rw [e]))⟩, by simp [World.setCell]⟩
theorem Wrote.row (w : World) (g : Nat) (e : Array Value) : Wrote g w (w.setRow g e) :=
  ⟨⟨rfl, rfl, rfl, by simp [World.setRow], fun k _ hk => by
    simp only [World.setRow]
    rw [Array.getElem?_modify, if_neg (fun e => hk (by rw [e]))]⟩, by simp [World.setRow]⟩
theorem Wrote.dn {w w' : World} {g : Nat} (h : Wrote g w w') (n : Nat) : Wrote g w (w'.drewN n) := ⟨⟨h.1.os, h.1.tape, h.1.output, h.1.size, h.1.block⟩, h.2⟩
theorem Wrote.of_dn {w w' : World} {g n : Nat} (h : Wrote g (w.drewN n) w') : Wrote g w w' := ⟨⟨h.1.os, h.1.tape, h.1.output, h.1.size, h.1.block⟩, h.2⟩
theorem Wrote.below {w0 w w' : World} {g B : Nat} (h : Wrote g w w') (hb : Below B w0 w) (hB : B ≤ w.heap.size) (hg : B ≤ g) : Below B w0 w' := hb.grown h.1 hB (fun k hk => by injection hk with hk; omega)
theorem Wrote.blk {w w' : World} {g k : Nat} {t : TypeId} {cs : Array Value} (h : Wrote g w w') (hb : Blk w k t cs) (hk : k ≠ g) : Blk w' k t cs := (h.1.block k hb.lt (fun e => hk (by injection e with e))).trans hb
theorem BlkT.thawed {w : World} {g : Nat} {d : Tb} (h : BlkT w g d) (k : Nat) : w.frozen? ⟨g, k, none⟩ = false := Blk.thawed h k
theorem BlkT.dn {w : World} {g : Nat} {d : Tb} (h : BlkT w g d) (n : Nat) : BlkT (w.drewN n) g d := h
set_option maxRecDepth 100000 in
set_option maxHeartbeats 800000 in
theorem add_any (w : World) (g : Nat) (d : Tb) (p q : Int) (u v : Nat) (less : Bool) (hu : p + 1 = u) (hu6 : u < 6) (hv : q + 1 = v) (hv6 : v < 6) (hb : BlkT w g d) :
    Calls Try.prog 113 #[.pointer (some ⟨g, 0, none⟩), .int .i64 p, .int .i64 q, .bool less] w fun e w' => e = .returned (.tuple #[]) ∧ Wrote g w w' ∧ BlkT w' g (Cs.put d u v (max (d u v) (if less = true then 1 else 0))) := by
  have k1 := hb.spot hu6 hv6
  have k2 := hb.thawed (u * 6 + v)
  have hui : (u : Int) < 6 := by omega
  have hvi : (v : Int) < 6 := by omega
  have HU := Lib.hid hu
  have HV := Lib.hid hv
  have HP : ∀ n x, Hid (BlkT ((w.drewN n).setCell ⟨g, u * 6 + v, none⟩ (.int .i64 x)) g (Cs.put d u v x)) := fun n x => (hb.dn n).put hu6 hv6 x
  have HW : ∀ n x, Hid (Wrote g w ((w.drewN n).setCell ⟨g, u * 6 + v, none⟩ x)) := fun n x => (Wrote.set _ _).of_dn
  obtain ⟨x, hx⟩ : ∃ x, d u v = x := ⟨_, rfl⟩
  rw [hx] at k1
  have HX := Lib.hid hx
  clear hb hu hv hx
  cases less with
  | true =>
    by_cases hc : x < 1
    · go_enter Try.func113, Try.ntmps113
      go_wp2
      go_quiet (first | (go_at_call 112; first | refine Calls.quiet_of_same (place_any _ p u HU.out hu6) | refine Calls.quiet_of_same (place_any _ q v HV.out hv6)))
      go_wp2
      go_end0
      exact ⟨rfl, (HW _ _).out, by show BlkT _ _ (Cs.put d u v (max (d u v) 1)); rw [show max (d u v) (1 : Int) = 1 by rw [HX.out]; omega]; exact (HP _ _).out⟩
    · go_enter Try.func113, Try.ntmps113
      go_wp2
      go_quiet (first | (go_at_call 112; first | refine Calls.quiet_of_same (place_any _ p u HU.out hu6) | refine Calls.quiet_of_same (place_any _ q v HV.out hv6)))
      go_wp2
      go_end0
      exact ⟨rfl, (HW _ _).out, by show BlkT _ _ (Cs.put d u v (max (d u v) 1)); rw [show max (d u v) (1 : Int) = x by rw [HX.out]; omega]; exact (HP _ _).out⟩
  | false =>
    by_cases hc : x < 0
    · go_enter Try.func113, Try.ntmps113
      go_wp2
      go_quiet (first | (go_at_call 112; first | refine Calls.quiet_of_same (place_any _ p u HU.out hu6) | refine Calls.quiet_of_same (place_any _ q v HV.out hv6)))
      go_wp2
      go_end0
      exact ⟨rfl, (HW _ _).out, by show BlkT _ _ (Cs.put d u v (max (d u v) 0)); rw [show max (d u v) (0 : Int) = 0 by rw [HX.out]; omega]; exact (HP _ _).out⟩
    · go_enter Try.func113, Try.ntmps113
      go_wp2
      go_quiet (first | (go_at_call 112; first | refine Calls.quiet_of_same (place_any _ p u HU.out hu6) | refine Calls.quiet_of_same (place_any _ q v HV.out hv6)))
      go_wp2
      go_end0
      exact ⟨rfl, (HW _ _).out, by show BlkT _ _ (Cs.put d u v (max (d u v) 0)); rw [show max (d u v) (0 : Int) = x by rw [HX.out]; omega]; exact (HP _ _).out⟩
end Go.Proofs.Ytfmhmnpmdjpmeaa

namespace Go.Proofs.Ytfmhmnpmdjpmeaa
open Go.RowKit
open Cs (Cn Tb)

/-- the walk's memory: both tables, the result's, the one that grows -/
structure ExtW (w : World) (t e o : Tb) (wr : World) : Prop where
  b0 : Blk wr w.heap.size 132 (tabA t)
  b1 : Blk wr (w.heap.size + 1) 132 (tabA e)
  b2 : Blk wr (w.heap.size + 2) 132 (tabA zeroT)
  b3 : Blk wr (w.heap.size + 3) 132 (tabA o)
  bel : Below w.heap.size w wr
theorem ExtW.put {w wr : World} {t e o : Tb} (h : ExtW w t e o wr) {i j : Nat} (hi : i < 6) (hj : j < 6) (x : Int) : ExtW w t e (Cs.put o i j x) (wr.setCell ⟨w.heap.size + 3, i * 6 + j, none⟩ (.int .i64 x)) := by
  have hw : Wrote (w.heap.size + 3) wr (wr.setCell ⟨w.heap.size + 3, i * 6 + j, none⟩ (.int .i64 x)) := Wrote.set _ _
  exact ⟨hw.blk h.b0 (by omega), hw.blk h.b1 (by omega), hw.blk h.b2 (by omega), BlkT.put h.b3 hi hj x, hw.below h.bel h.bel.size (by omega)⟩
theorem ExtW.drew {w wr : World} {t e o : Tb} (h : ExtW w t e o wr) : ExtW w t e o wr.drew := ⟨h.b0, h.b1, h.b2, h.b3, h.bel.drew⟩
theorem gtI' (a b : Int) : (if a < b then b else a) = max a b := by split <;> omega

set_option maxRecDepth 100000 in
set_option maxHeartbeats 4000000 in
theorem ext_any (w : World) (t e : Tb) (ht : ∀ i j, -1 ≤ t i j ∧ t i j ≤ 100) (he : ∀ i j, -1 ≤ e i j ∧ e i j ≤ 100) :
    Calls Try.prog 110 #[tabV t, tabV e] w fun r w' => r = .returned (tabV (Cs.ext t e)) ∧ Below w.heap.size w w' := by
  obtain ⟨W3, hW3⟩ : ∃ W, ((w.alloc (.cells (tabA t) 132)).alloc (.cells (tabA e) 132)).alloc (.cells (tabA zeroT) 132) = W := ⟨_, rfl⟩
  have hs3 : W3.heap.size = w.heap.size + 3 := by rw [← hW3]; simp
  have hz := zeros_tab
  have HB3 : Hid (Below w.heap.size w W3) := by show Below _ _ _; rw [← hW3]; exact (((Below.refl _ _).alloc (Nat.le_refl _) _).alloc (by simp) _).alloc (by simp; omega) _
  have b0 : Blk W3 w.heap.size 132 (tabA t) := by
    rw [← hW3]
    exact (Blk.below (Blk.below (Blk.made w _ _) ((Below.refl _ _).alloc (Nat.le_refl _) _) (by simp)) ((Below.refl _ _).alloc (Nat.le_refl _) _) (by simp; omega))
  have b1 : Blk W3 (w.heap.size + 1) 132 (tabA e) := by
    have h1 : Blk ((w.alloc (.cells (tabA t) 132)).alloc (.cells (tabA e) 132)) (w.alloc (.cells (tabA t) 132)).heap.size 132 (tabA e) := Blk.made _ _ _
    rw [show (w.alloc (.cells (tabA t) 132)).heap.size = w.heap.size + 1 by simp] at h1
    rw [← hW3]
    exact Blk.below h1 ((Below.refl _ _).alloc (Nat.le_refl _) _) (by simp)
  have b2 : Blk W3 (w.heap.size + 2) 132 (tabA zeroT) := by
    have h1 : Blk (((w.alloc (.cells (tabA t) 132)).alloc (.cells (tabA e) 132)).alloc (.cells (tabA zeroT) 132)) ((w.alloc (.cells (tabA t) 132)).alloc (.cells (tabA e) 132)).heap.size 132 (tabA zeroT) := Blk.made _ _ _
    rw [show ((w.alloc (.cells (tabA t) 132)).alloc (.cells (tabA e) 132)).heap.size = w.heap.size + 2 by simp] at h1
    rw [← hW3]
    exact h1
  obtain ⟨W4, hW4⟩ : ∃ W, W3.alloc (.cells (tabA zeroT) 132) = W := ⟨_, rfl⟩
  have hb34 : Below W3.heap.size W3 W4 := by rw [← hW4]; exact (Below.refl _ _).alloc (Nat.le_refl _) _
  have c3 : Blk W4 (w.heap.size + 3) 132 (tabA zeroT) := by rw [← hW4, ← hs3]; exact Blk.made _ _ _
  obtain ⟨W5, hW5⟩ : ∃ W, W4.setRow (w.heap.size + 3) (tabA t) = W := ⟨_, rfl⟩
  have HX0 : Hid (ExtW w t e (Cs.extI t e 0 t) W5) := by
    have hw : Wrote (w.heap.size + 3) W4 W5 := by rw [← hW5]; exact Wrote.row _ _ _
    have h4 := hb34.size
    exact ⟨hw.blk (Blk.below b0 hb34 b0.lt) (by omega), hw.blk (Blk.below b1 hb34 b1.lt) (by omega), hw.blk (Blk.below b2 hb34 b2.lt) (by omega), by rw [← hW5]; exact BlkT.lay c3 t, hw.below (HB3.out.trans (hb34.mono (by omega))) (by omega) (by omega)⟩
  have HT := Lib.hid ht
  have HE := Lib.hid he
  clear hb34 b1 b2 ht he
  go_enter Try.func110, Try.ntmps110
  go_wp2_with (first
    | (refine wpList_load_row rfl 132 _ rfl w.heap.size rfl 132 (tabA t) (0, 0) _ b0 Try.underlying132 rfl (size_tab t) ?_)
    | (refine wpList_store_row rfl 132 _ _ rfl (w.heap.size + 3) (tabA t) rfl rfl 132 (tabA zeroT) c3 (size_tab t) rfl (tabA_one t) ?_))
  clear b0 c3 hz hW3 hW4 hW5 hs3 HB3
  go_loopw [12] (fun i wr => ∃ a : Nat, a ≤ 6 ∧ i = .int .i64 a ∧ Hid (ExtW w t e (Cs.extI t e a t) wr)) (fun i _ => 6 - (intOf i).toNat)
  case atStart => exact ⟨0, by omega, rfl, HX0.out⟩
  case round =>
    clear HX0
    obtain ⟨a, ha, rfl, HX⟩ := hrel
    by_cases hal : a < 6
    · have hai : (a : Int) < 6 := by omega
      have ha0 : 0 ≤ (a : Int) := by omega
      have r0 := BlkT.row HX.out.b0 hal
      obtain ⟨o1, ho1⟩ : ∃ o, Cs.extI t e a t = o := ⟨_, rfl⟩
      have HO1 := Lib.hid ho1
      rw [ho1] at HX
      clear ho1
      go_wp2_with (refine wpList_load_sub rfl 130 _ rfl w.heap.size (a * 6) rfl (rowA t a) _ r0 Try.underlying130 rfl (size_row t a) ?_)
      clear r0
      go_loopw [18] (fun i wr => ∃ b : Nat, b ≤ 6 ∧ i = .int .i64 b ∧ Hid (ExtW w t e (Cs.extK t e a b o1) wr)) (fun i _ => 6 - (intOf i).toNat)
      case atStart => exact ⟨0, by omega, rfl, HX.out⟩
      case round =>
        clear HX
        obtain ⟨b, hb, rfl, HX⟩ := hrel
        by_cases hbl : b < 6
        · have hbi : (b : Int) < 6 := by omega
          have hb0 : 0 ≤ (b : Int) := by omega
          have rg := index_row t a hbl
          obtain ⟨x, hx⟩ : ∃ x, t a b = x := ⟨_, rfl⟩
          have htx := HT.out a b
          rw [hx] at rg htx
          have HXV := Lib.hid hx
          clear hx
          by_cases hxn : x = -1
          · subst hxn
            have HN : Hid (Cs.extK t e a (b + 1) o1 = Cs.extK t e a b o1) := Cs.extJ_skip HXV.out 6 _
            go_wp2
            go_roundw
            case rel => exact ⟨b + 1, by omega, by go_num, by rw [HN.out]; exact HX.out⟩
            case measure => simp [intOf]; omega
          · have d1 : (x == -1) = false := by simpa using hxn
            have r1 := BlkT.row HX.out.b1 hbl
            obtain ⟨o2, ho2⟩ : ∃ o, Cs.extK t e a b o1 = o := ⟨_, rfl⟩
            have HO2 := Lib.hid ho2
            rw [ho2] at HX
            clear ho2
            go_wp2_with (refine wpList_load_sub rfl 130 _ rfl (w.heap.size + 1) (b * 6) rfl (rowA e b) _ r1 Try.underlying130 rfl (size_row e b) ?_)
            clear r1 rg
            go_loopw [27] (fun i wr => ∃ j : Nat, j ≤ 6 ∧ i = .int .i64 j ∧ Hid (ExtW w t e (Cs.extJ t e a b j o2) wr)) (fun i _ => 6 - (intOf i).toNat)
            case atStart => exact ⟨0, by omega, rfl, HX.out⟩
            case round =>
              clear HX
              obtain ⟨j, hj, rfl, HX⟩ := hrel
              by_cases hjl : j < 6
              · have hji : (j : Int) < 6 := by omega
                have hj0 : 0 ≤ (j : Int) := by omega
                have rg := index_row e b hjl
                obtain ⟨y, hy⟩ : ∃ y, e b j = y := ⟨_, rfl⟩
                have hey := HE.out b j
                rw [hy] at rg hey
                have HYV := Lib.hid hy
                clear hy
                obtain ⟨o3, ho3⟩ : ∃ o, Cs.extJ t e a b j o2 = o := ⟨_, rfl⟩
                have HS : Hid (Cs.extJ t e a b (j + 1) o2 = Cs.ext1 t e a b j o3) := by show Cs.ext1 t e a b j (Cs.extJ t e a b j o2) = _; rw [ho3]
                rw [ho3] at HX
                clear ho3
                by_cases hyn : y = -1
                · have HN : Hid (Cs.extJ t e a b (j + 1) o2 = o3) := HS.out.trans (if_neg (fun h => h.2 (HYV.out.trans hyn)))
                  subst hyn
                  go_wp2
                  go_roundw
                  case rel => exact ⟨j + 1, by omega, by go_num, by rw [HN.out]; exact HX.out⟩
                  case measure => simp [intOf]; omega
                · have HN : Hid (Cs.extJ t e a b (j + 1) o2 = Cs.put o3 a j (max (o3 a j) (x + y))) := by
                    refine HS.out.trans ((if_pos ⟨fun h => hxn (HXV.out.symm.trans h), fun h => hyn (HYV.out.symm.trans h)⟩).trans ?_)
                    rw [HXV.out, HYV.out]
                  have d2 : (y != -1) = true := by simpa using hyn
                  have wS : IntKind.i64.wrap (x + y) = x + y := IntWalk.i64_in _ ⟨by omega, by omega⟩
                  have k1 := BlkT.spot HX.out.b3 hal hjl
                  have k2 := BlkT.thawed HX.out.b3 (a * 6 + j)
                  obtain ⟨z, hz⟩ : ∃ z, o3 a j = z := ⟨_, rfl⟩
                  rw [hz] at k1
                  have HP : ∀ v, Hid (ExtW w t e (Cs.put o3 a j v) (wr.setCell ⟨w.heap.size + 3, a * 6 + j, none⟩ (.int .i64 v)).drew) := fun v => (HX.out.put hal hjl v).drew
                  rw [hz] at HN
                  clear hz HS
                  go_wp2
                  refine region_tail 13 (by kernel_rfl) (by kernel_rfl) ?_
                  simp only [List.take_succ_cons, List.take_zero, List.drop_succ_cons, List.drop_zero]
                  repeat still_step
                  refine wpStill_nil ?_
                  rw [gtI']
                  go_wp2
                  go_roundw
                  case rel => exact ⟨j + 1, by omega, by go_num, by rw [HN.out]; exact (HP _).out⟩
                  case measure => simp [intOf]; omega
              · obtain rfl : j = 6 := by omega
                have HN : Hid (Cs.extK t e a (b + 1) o1 = Cs.extJ t e a b 6 o2) := by show Cs.extJ t e a b 6 (Cs.extK t e a b o1) = _; rw [HO2.out]
                go_wp2
                go_roundw
                case rel => exact ⟨b + 1, by omega, by go_num, by rw [HN.out]; exact HX.out⟩
                case measure => simp [intOf]; omega
        · obtain rfl : b = 6 := by omega
          have HN : Hid (Cs.extI t e (a + 1) t = Cs.extK t e a 6 o1) := by show Cs.extK t e a 6 (Cs.extI t e a t) = _; rw [HO1.out]
          go_wp2
          go_roundw
          case rel => exact ⟨a + 1, by omega, by go_num, by rw [HN.out]; exact HX.out⟩
          case measure => simp [intOf]; omega
    · obtain rfl : a = 6 := by omega
      have HN : Hid (Cs.extI t e 6 t = Cs.ext t e) := rfl
      rw [HN.out] at HX
      clear HN
      have b3 := HX.out.b3
      have b2 := HX.out.b2
      have HB6 : Hid (Below w.heap.size w (wr.setRow (w.heap.size + 2) (tabA (Cs.ext t e)))) := (Wrote.row _ _ _).below HX.out.bel HX.out.bel.size (by omega)
      have HB7 : Hid (Blk (wr.setRow (w.heap.size + 2) (tabA (Cs.ext t e))) (w.heap.size + 2) 132 (tabA (Cs.ext t e))) := BlkT.lay b2 _
      go_wp2_with (first
        | (refine wpList_load_row rfl 132 _ rfl (w.heap.size + 3) rfl 132 (tabA (Cs.ext t e)) (0, 0) _ b3 Try.underlying132 rfl (size_tab _) ?_)
        | (refine wpList_store_row rfl 132 _ _ rfl (w.heap.size + 2) (tabA (Cs.ext t e)) rfl rfl 132 (tabA zeroT) b2 (size_tab _) rfl (tabA_one _) ?_))
      refine bodyPost_ret (v := tabV (Cs.ext t e)) (results_cell_row rfl _ _ (w.heap.size + 2) 132 (tabA (Cs.ext t e)) (0, 0) _ rfl HB7.out Try.underlying132 rfl (size_tab _)) rfl ⟨rfl, HB6.out⟩
end Go.Proofs.Ytfmhmnpmdjpmeaa
