/- Two tables compared; the atomic counter; a table and a bool as results. -/
/- The program's table of longest ways: longestPaths. -/
import Derived.Test.YtmmhcpigcdlnmaaPtEdge
import Derived.ChangeKeysEq
import Derived.Laws.StructEq
import Derived.Laws.LoneSync

namespace Go.Proofs.Ytmmhcpigcdlnmaa
open Go.RowKit
open Cs (Cn Tb)

/-- whether two tables are equal, as the program compares them -/
def sameB (a b : Tb) : Bool := (List.range 6).all fun i => (List.range 6).all fun j => a i j == b i j
theorem sameB_iff (a b : Tb) : sameB a b = true ↔ Cs.Same a b := by
  unfold sameB Cs.Same
  simp only [List.all_eq_true, List.mem_range, beq_iff_eq]
  exact ⟨fun h i j hi hj => h i hi j hj, fun h i hi j hj => h i j hi hj⟩
theorem eqItems_ints (d : Nat) (xs ys : Array Value) (f g : Nat → Int) (w : World) : ∀ is : List Nat, (∀ i ∈ is, xs[i]? = some (.int .i64 (f i)) ∧ ys[i]? = some (.int .i64 (g i))) →
    (Op.eqItems (d + 1) 3 1 xs ys is).run Try.prog w = .ok (is.all fun i => f i == g i) w
  | [], _ => by simp [Op.eqItems]
  | i :: is, h => by
    have hp : Try.prog.plainKey 3 = true := by kernel_rfl
    obtain ⟨h1, h2⟩ := h i (by simp)
    have p1 := run_part_plain (P := Try.prog) w hp (off := i * 1) (xs := xs) (by rw [Nat.mul_one]; exact h1)
    have p2 := run_part_plain (P := Try.prog) w hp (off := i * 1) (xs := ys) (by rw [Nat.mul_one]; exact h2)
    have p3 := run_equalIn_int (P := Try.prog) w d 3 .i64 .i64 (f i) (g i) Try.underlying3
    have ih := eqItems_ints d xs ys f g w is (fun k hk => h k (by simp [hk]))
    simp only [Op.eqItems, Sem.run_bind, p1, p2, p3, Result.andThen_ok, List.all_cons]
    cases hb : (f i == g i)
    · simp
    · simp only [Bool.not_true, Bool.false_eq_true, if_false, Bool.true_and]
      exact ih
theorem info_row : ∃ i, Try.prog.info? 68 = some i := by
  have h := size_row zeroT 0
  cases hq : Try.prog.info? 68 with
  | none => simp [hq] at h
  | some i => exact ⟨i, rfl⟩
theorem info_num : ∃ i, Try.prog.info? 3 = some i := by
  have h := info_int
  cases hq : Try.prog.info? 3 with
  | none => simp [hq] at h
  | some i => exact ⟨i, rfl⟩
theorem part_row (a : Tb) {i : Nat} (hi : i < 6) (w : World) : (part 68 (tabA a) (i * 6)).run Try.prog w = .ok (.agg (rowA a i)) w := by
  obtain rfl | rfl | rfl | rfl | rfl | rfl : i = 0 ∨ i = 1 ∨ i = 2 ∨ i = 3 ∨ i = 4 ∨ i = 5 := by omega
  all_goals kernel_rfl
theorem eqItems_rows (d : Nat) (a b : Tb) (w : World) : ∀ is : List Nat, (∀ i ∈ is, i < 6) →
    (Op.eqItems (d + 2) 68 6 (tabA a) (tabA b) is).run Try.prog w = .ok (is.all fun i => (List.range 6).all fun j => a i j == b i j) w
  | [], _ => by simp [Op.eqItems]
  | i :: is, h => by
    have hi := h i (by simp)
    have p1 := part_row a hi w
    have p2 := part_row b hi w
    obtain ⟨inf, hinf⟩ := info_num
    have p3 : (Op.equalIn (d + 2) 68 (.agg (rowA a i)) (.agg (rowA b i))).run Try.prog w = .ok ((List.range 6).all fun j => a i j == b i j) w := by
      rw [show d + 2 = (d + 1) + 1 by omega, run_equalIn_array (P := Try.prog) w (d + 1) (rowA a i) (rowA b i) Try.underlying68 hinf]
      rw [show Try.prog.cellsOf 3 = 1 by kernel_rfl]
      exact eqItems_ints d (rowA a i) (rowA b i) (a i) (b i) w (List.range 6) (fun k hk => ⟨rowA_get a i (List.mem_range.1 hk), rowA_get b i (List.mem_range.1 hk)⟩)
    have ih := eqItems_rows d a b w is (fun k hk => h k (by simp [hk]))
    simp only [Op.eqItems, Sem.run_bind, p1, p2, p3, Result.andThen_ok, List.all_cons]
    cases hb : ((List.range 6).all fun j => a i j == b i j)
    · simp
    · simp only [Bool.not_true, Bool.false_eq_true, if_false, Bool.true_and]
      exact ih
theorem equal_tab (a b : Tb) (w : World) : (Op.equalIn 10000 70 (.agg (tabA a)) (.agg (tabA b))).run Try.prog w = .ok (sameB a b) w := by
  obtain ⟨inf, hinf⟩ := info_row
  rw [show (10000 : Nat) = 9999 + 1 by omega, run_equalIn_array (P := Try.prog) w 9999 (tabA a) (tabA b) Try.underlying70 hinf]
  rw [show Try.prog.cellsOf 68 = 6 by kernel_rfl]
  exact eqItems_rows 9997 a b w (List.range 6) (fun k hk => List.mem_range.1 hk)

set_option maxRecDepth 100000 in
set_option maxHeartbeats 400000 in
/-- the counter, one higher -/
theorem count_any (g : Nat) (x : Int) (w : World) (hc : w.cell? ⟨g, 0, none⟩ = some (.int .i64 x)) (hz : w.frozen? ⟨g, 0, none⟩ = false) (h0 : 0 ≤ x) (h1 : x ≤ 100) :
    Calls Try.prog 103 #[.pointer (some ⟨g, 0, none⟩), .int .i64 1] w fun e w' => e = .returned (.int .i64 (x + 1)) ∧ w' = w.setCell ⟨g, 0, none⟩ (.int .i64 (x + 1)) := by
  have hw : IntKind.i64.wrap (x + 1) = x + 1 := IntWalk.i64_in _ ⟨by omega, by omega⟩
  have hadd := run_call_add (P := Try.prog) Try.func108 (by kernel_rfl) (by kernel_rfl) (by kernel_rfl) .i64 (by kernel_rfl) (y := 1) (s := x + 1) hc hz (by simp [go_sem, hw])
  go_enter Try.func103, Try.ntmps103
  go_wp2
  go_ret
  exact ⟨rfl, rfl⟩

theorem results_cell_tmp2 {P : Program} {fn : Func} {p q : Tmp} {ty : TypeId} (h : fn.results = #[.cell p ty, .tmp q]) (tmps : Array Value) (w : World) (g : Nat) (t : TypeId) (cs : Array Value) (fr : Nat × Nat) (d : TypeDesc)
    (hp : tmps.getD p undef = .pointer (some ⟨g, 0, none⟩)) (hg : w.heap[g]? = some (.cells cs t fr))
    (hu : P.underlying ty = some d) (hd : (match d with | .struct _ | .array _ _ => true | _ => false) = true) (hi : (P.info? ty).map (·.size) = some cs.size) :
    (results fn tmps).run P w = .ok (.tuple #[.agg cs, tmps.getD q undef]) w := by
  have hp' : tmps[p]?.getD undef = .pointer (some ⟨g, 0, none⟩) := by simpa using hp
  simp [results, h, hp', asAddr, run_loadVar_row w g t ty cs fr d hg hu hd hi]
/-- the same law at an operation whose guard holds -/
theorem wpList_load_row_g {P : Program} {ops : Array Oper} {rest : List Oper} {o : Oper} {a : Act} {w : World} {Q : Exit → Act → World → Prop} (hw : Region.wanted o (yielded ops a.tmps) = true) (ty : TypeId) (x : Operand) (ho : o.op = .load ty x)
    (g : Nat) (hx : a.eval x = .pointer (some ⟨g, 0, none⟩)) (t : TypeId) (cs : Array Value) (fr : Nat × Nat) (d : TypeDesc) (hg : w.heap[g]? = some (.cells cs t fr))
    (hu : P.underlying ty = some d) (hd : (match d with | .struct _ | .array _ _ => true | _ => false) = true) (hi : (P.info? ty).map (·.size) = some cs.size)
    (h : wpList P ops Q rest (a.put o.dst (.agg cs)) w) : wpList P ops Q (o :: rest) a w := by
  simp only [wpList, hw, if_true]
  exact .inl (wp_load_row ty x ho g hx t cs fr d hg hu hd hi h)
end Go.Proofs.Ytmmhcpigcdlnmaa

namespace Go.Proofs.Ytmmhcpigcdlnmaa
open Go.RowKit
open Cs (Cn Tb)

/-- the table that longestPaths gives back -/
def longT (l : List Cn) : Tb := if Cs.flat l = true then Cs.tab l else zeroT
theorem longT_yes {l : List Cn} (h : Cs.flat l = true) : longT l = Cs.tab l := if_pos h
theorem longT_no {l : List Cn} (h : Cs.flat l = false) : longT l = zeroT := if_neg (by rw [h]; decide)
/-- the walk's memory -/
structure LongW (w : World) (S : Nat) (E T : Tb) (k : Nat) (wr : World) : Prop where
  b0 : Blk wr w.heap.size 70 (tabA zeroT)
  b1 : Blk wr S 70 (tabA E)
  b2 : Blk wr (S + 1) 70 (tabA T)
  b3 : Blk wr (S + 2) 111 #[.int .i64 (k : Int)]
  bel : Below w.heap.size w wr
theorem LongW.later {w wr w' : World} {S k : Nat} {E T : Tb} (h : LongW w S E T k wr) (hb : Below wr.heap.size wr w') : LongW w S E T k w' :=
  ⟨Blk.below h.b0 hb h.b0.lt, Blk.below h.b1 hb h.b1.lt, Blk.below h.b2 hb h.b2.lt, Blk.below h.b3 hb h.b3.lt, h.bel.trans (hb.mono h.bel.size)⟩
theorem LongW.count {w wr : World} {S k : Nat} {E T : Tb} (h : LongW w S E T k wr) (hS : w.heap.size < S) : LongW w S E T (k + 1) (wr.setCell ⟨S + 2, 0, none⟩ (.int .i64 ((k : Int) + 1))) := by
  have hw : Wrote (S + 2) wr (wr.setCell ⟨S + 2, 0, none⟩ (.int .i64 ((k : Int) + 1))) := Wrote.set _ _
  exact ⟨hw.blk h.b0 (by omega), hw.blk h.b1 (by omega), hw.blk h.b2 (by omega), Blk.put h.b3 0 (.int .i64 ((k : Int) + 1)), hw.below h.bel h.bel.size (by omega)⟩

set_option maxRecDepth 100000 in
set_option maxHeartbeats 4000000 in
theorem longestPaths_any (w : World) (B : Nat) (A : Option Addr) (n c : Nat) (l : List Cn) (hB : B ≤ w.heap.size) (hl : ConR w B A n l) (hok : Cs.ok l) (hn : n ≤ 1000) :
    Calls Try.prog 86 #[.slice A n c] w fun e w' => e = .returned (.tuple #[tabV (longT l), .bool (Cs.flat l)]) ∧ Below w.heap.size w w' := by
  obtain ⟨W0, hW0⟩ : ∃ W, w.alloc (.cells (tabA zeroT) 70) = W := ⟨_, rfl⟩
  have hz := zeros_tab
  have hb0 : Below w.heap.size w W0 := by rw [← hW0]; exact (Below.refl _ _).alloc (Nat.le_refl _) _
  have hs0 : W0.heap.size = w.heap.size + 1 := by rw [← hW0]; simp
  have hblk0 : Blk W0 w.heap.size 70 (tabA zeroT) := by rw [← hW0]; exact Blk.made _ _ _
  have HOK := Lib.hid hok
  have HL := Lib.hid hl
  have HB0 := Lib.hid hb0
  have HK0 := Lib.hid hblk0
  clear hok hl hb0 hblk0
  go_enter Try.func86, Try.ntmps86
  go_wp2_with fail
  refine (edgesOf_any W0 B A n c l (by omega) (HL.out.below (HB0.out.mono hB)) HOK.out hn).mono ?_
  rintro e w1 ⟨rfl, hb1⟩
  obtain ⟨E, hE⟩ : ∃ E, Cs.start l = E := ⟨_, rfl⟩
  rw [hE]
  have HE := Lib.hid hE
  have HB1 := Lib.hid hb1
  have hS0 := hb1.size
  rw [hs0] at hS0
  clear hE hb1 hs0 hW0
  obtain ⟨S, hS⟩ : ∃ S, w1.heap.size = S := ⟨_, rfl⟩
  have hSw : w.heap.size < S := by omega
  obtain ⟨W1, hW1⟩ : ∃ W, w1.alloc (.cells (tabA zeroT) 70) = W := ⟨_, rfl⟩
  have q1 : Below S w1 W1 := by rw [← hW1, ← hS]; exact (Below.refl _ _).alloc (Nat.le_refl _) _
  have c1 : Blk W1 S 70 (tabA zeroT) := by rw [← hW1, ← hS]; exact Blk.made _ _ _
  have s1 : W1.heap.size = S + 1 := by rw [← hW1]; simp [hS]
  obtain ⟨W2, hW2⟩ : ∃ W, W1.setRow S (tabA E) = W := ⟨_, rfl⟩
  have r2 : Wrote S W1 W2 := by rw [← hW2]; exact Wrote.row _ _ _
  have c2 : Blk W2 S 70 (tabA E) := by rw [← hW2]; exact BlkT.lay c1 E
  have s2 : W2.heap.size = S + 1 := by rw [r2.2, s1]
  obtain ⟨W3, hW3⟩ : ∃ W, W2.alloc (.cells (tabA zeroT) 70) = W := ⟨_, rfl⟩
  have q3 : Below (S + 1) W2 W3 := by rw [← hW3, ← s2]; exact (Below.refl _ _).alloc (Nat.le_refl _) _
  have c3 : Blk W3 (S + 1) 70 (tabA zeroT) := by rw [← hW3, ← s2]; exact Blk.made _ _ _
  have s3 : W3.heap.size = S + 1 + 1 := by rw [← hW3]; simp [s2]
  obtain ⟨W4, hW4⟩ : ∃ W, W3.setRow (S + 1) (tabA E) = W := ⟨_, rfl⟩
  have r4 : Wrote (S + 1) W3 W4 := by rw [← hW4]; exact Wrote.row _ _ _
  have c4 : Blk W4 (S + 1) 70 (tabA E) := by rw [← hW4]; exact BlkT.lay c3 E
  have s4 : W4.heap.size = S + 2 := by rw [r4.2, s3]
  obtain ⟨W5, hW5⟩ : ∃ W, W4.alloc (.cells #[.int .i64 0] 111) = W := ⟨_, rfl⟩
  have q5 : Below (S + 2) W4 W5 := by rw [← hW5, ← s4]; exact (Below.refl _ _).alloc (Nat.le_refl _) _
  have c5 : Blk W5 (S + 2) 111 #[.int .i64 0] := by rw [← hW5, ← s4]; exact Blk.made _ _ _
  have HX0 : Hid (LongW w S E (Cs.ways E 0) 0 W5) := by
    have k0 : Blk w1 w.heap.size 70 (tabA zeroT) := Blk.below HK0.out HB1.out HK0.out.lt
    have k1 := Blk.below k0 q1 (by omega)
    have k2 := r2.blk k1 (by omega)
    have k3 := Blk.below k2 q3 (by omega)
    have k4 := r4.blk k3 (by omega)
    have k5 := Blk.below k4 q5 (by omega)
    have e3 := r4.blk (Blk.below c2 q3 (by omega)) (by omega)
    refine ⟨k5, Blk.below e3 q5 (by omega), Blk.below c4 q5 (by omega), c5, ?_⟩
    have t1 : Below w.heap.size w w1 := HB0.out.trans (HB1.out.mono HB0.out.size)
    have t2 := r2.below (t1.trans (q1.mono (by omega))) (by omega) (by omega)
    have t4 := r4.below (t2.trans (q3.mono (by omega))) (by omega) (by omega)
    exact t4.trans (q5.mono (by omega))
  clear q1 q3 q5 c4 c5 r2 r4 HB0 HK0 HB1
  go_wp2_with (first
    | (refine wpList_load_row rfl 70 _ rfl S rfl 70 (tabA E) (0, 0) _ (BlkT.lay c1 E) Try.underlying70 rfl (size_tab E) ?_)
    | (refine wpList_load_row rfl 70 _ rfl S rfl 70 (tabA E) (0, 0) _ c2 Try.underlying70 rfl (size_tab E) ?_)
    | (refine wpList_store_row rfl 70 _ _ rfl S (tabA E) rfl rfl 70 (tabA zeroT) c1 (size_tab E) rfl (tabA_one E) ?_)
    | (refine wpList_store_row rfl 70 _ _ rfl (S + 1) (tabA E) rfl rfl 70 (tabA zeroT) c3 (size_tab E) rfl (tabA_one E) ?_))
  clear c1 c2 c3 s1 s2 s3 s4 hW1 hW2 hW3 hW4 hW5 hS
  have HBD : Hid (∀ i j, -1 ≤ E i j ∧ E i j ≤ 1) := fun i j => by rw [← HE.out]; exact Cs.start_le l i j
  go_loopw [11] (fun _ wr => ∃ k : Nat, k ≤ 6 ∧ Hid (LongW w S E (Cs.ways E k) k wr) ∧ Hid (∀ m, m < k → ¬ Cs.Same (Cs.ways E (m + 1)) (Cs.ways E m))) (fun _ wr => 7 - (intOf ((wr.cell? ⟨S + 2, 0, none⟩).getD undef)).toNat)
  case atStart => exact ⟨0, by omega, HX0.out, fun m hm => absurd hm (by omega)⟩
  case round =>
    clear HX0
    obtain ⟨k, hk, HX, HNO⟩ := hrel
    have HC0 : Hid (wr.cell? ⟨S + 2, 0, none⟩ = some (.int .i64 (k : Int))) := HX.out.b3.cell 0
    go_wp2_with fail
    refine (count_any (S + 2) k wr (HX.out.b3.cell 0) (HX.out.b3.thawed 0) (by omega) (by omega)).mono ?_
    rintro e W1 ⟨rfl, hW1⟩
    have HX1 : Hid (LongW w S E (Cs.ways E k) (k + 1) W1) := by show LongW _ _ _ _ _ _; rw [hW1]; exact HX.out.count hSw
    clear hW1 HX
    by_cases hk6 : k < 6
    · have t1 : (k : Int) + 1 ≤ 6 := by omega
      have b1 := HX1.out.b1
      have b2 := HX1.out.b2
      obtain ⟨T, hT⟩ : ∃ T, Cs.ways E k = T := ⟨_, rfl⟩
      have HT := Lib.hid hT
      rw [hT] at b2 HX1
      clear hT
      go_wp2_with (first
        | (refine wpList_load_row rfl 70 _ rfl S rfl 70 (tabA E) (0, 0) _ b1 Try.underlying70 rfl (size_tab E) ?_)
        | (refine wpList_load_row rfl 70 _ rfl (S + 1) rfl 70 (tabA T) (0, 0) _ b2 Try.underlying70 rfl (size_tab T) ?_))
      refine (ext_any W1 T E (fun i j => ?_) (fun i j => ?_)).mono ?_
      · have := Cs.ways_bd HBD.out k i j
        rw [HT.out] at this
        omega
      · have := HBD.out i j
        omega
      rintro e W2 ⟨rfl, hb2⟩
      obtain ⟨N, hN⟩ : ∃ N, Cs.ext T E = N := ⟨_, rfl⟩
      have HN : Hid (Cs.ways E (k + 1) = N) := by show Cs.ext (Cs.ways E k) E = N; rw [HT.out]; exact hN
      rw [hN]
      have HX2 := Lib.hid (HX1.out.later hb2)
      clear hN hb2 b1 b2 HX1
      obtain ⟨S2, hS2⟩ : ∃ S2, W2.heap.size = S2 := ⟨_, rfl⟩
      have hS3 : S + 2 < S2 := by rw [← hS2]; exact HX2.out.b3.lt
      obtain ⟨W3, hW3⟩ : ∃ W, W2.alloc (.cells (tabA zeroT) 70) = W := ⟨_, rfl⟩
      have c3 : Blk W3 S2 70 (tabA zeroT) := by rw [← hW3, ← hS2]; exact Blk.made _ _ _
      have HX3 : Hid (LongW w S E T (k + 1) W3) := by show LongW _ _ _ _ _ _; rw [← hW3]; exact HX2.out.later ((Below.refl _ _).alloc (Nat.le_refl _) _)
      have c4 := BlkT.lay c3 N
      have r4 : Wrote S2 W3 (W3.setRow S2 (tabA N)) := Wrote.row _ _ _
      have HX4 : Hid (LongW w S E T (k + 1) (W3.setRow S2 (tabA N))) := ⟨r4.blk HX3.out.b0 (by omega), r4.blk HX3.out.b1 (by omega), r4.blk HX3.out.b2 (by omega), r4.blk HX3.out.b3 (by omega), r4.below HX3.out.bel HX3.out.bel.size (by omega)⟩
      have c5 := HX4.out.b2
      have heq := equal_tab N T
      clear HX2 HX3 r4
      cases hs : sameB N T with
      | true =>
        have HS := Lib.hid hs
        have c0 := HX4.out.b0
        have HF : Hid (Cs.Same (Cs.ways (Cs.start l) (k + 1)) (Cs.ways (Cs.start l) k)) := by
          show Cs.Same _ _
          rw [HE.out, HN.out, HT.out]
          exact (sameB_iff N T).1 hs
        rw [hs] at heq
        clear hs
        have HR : Hid (tabA T = tabA (longT l)) := by
          show tabA T = tabA (longT l)
          rw [longT_yes (Cs.fix_flat HF.out), ← HT.out, ← HE.out]
          exact tabA_same.2 (Cs.fix_tab HF.out)
        have HFL := Lib.hid (Cs.fix_flat HF.out)
        have HB6 : Hid (Below w.heap.size w ((W3.setRow S2 (tabA N)).setRow w.heap.size (tabA T))) := (Wrote.row _ _ _).below HX4.out.bel HX4.out.bel.size (Nat.le_refl _)
        have HB7 : Hid (Blk ((W3.setRow S2 (tabA N)).setRow w.heap.size (tabA T)) w.heap.size 70 (tabA T)) := BlkT.lay c0 _
        go_wp2_with (first
          | (refine wpList_load_row rfl 70 _ rfl S2 rfl 70 (tabA N) (0, 0) _ c4 Try.underlying70 rfl (size_tab N) ?_)
          | (refine wpList_load_row rfl 70 _ rfl (S + 1) rfl 70 (tabA T) (0, 0) _ c5 Try.underlying70 rfl (size_tab T) ?_)
          | (refine wpList_store_row rfl 70 _ _ rfl S2 (tabA N) rfl rfl 70 (tabA zeroT) c3 (size_tab N) rfl (tabA_one N) ?_)
          | (refine wpList_store_row rfl 70 _ _ rfl w.heap.size (tabA T) rfl rfl 70 (tabA zeroT) c0 (size_tab T) rfl (tabA_one T) ?_))
        refine bodyPost_ret (results_cell_tmp2 (p := 2) (q := 3) rfl _ _ w.heap.size 70 (tabA T) (0, 0) _ rfl HB7.out Try.underlying70 rfl (size_tab _)) rfl ⟨?_, HB6.out⟩
        show Ending.returned (.tuple #[tabV T, .bool true]) = _
        rw [HFL.out, show tabV T = tabV (longT l) from congrArg Value.agg HR.out]
      | false =>
        have HNO2 : Hid (∀ m, m < k + 1 → ¬ Cs.Same (Cs.ways E (m + 1)) (Cs.ways E m)) := fun m hm => by
          by_cases e : m = k
          · subst e
            rw [HN.out, HT.out]
            intro h
            rw [(sameB_iff N T).2 h] at hs
            cases hs
          · exact HNO.out m (by omega)
        rw [hs] at heq
        clear hs
        have r6 : Wrote (S + 1) (W3.setRow S2 (tabA N)) ((W3.setRow S2 (tabA N)).setRow (S + 1) (tabA N)) := Wrote.row _ _ _
        have HX6 : Hid (LongW w S E (Cs.ways E (k + 1)) (k + 1) ((W3.setRow S2 (tabA N)).setRow (S + 1) (tabA N))) := by
          show LongW _ _ _ _ _ _
          rw [HN.out]
          exact ⟨r6.blk HX4.out.b0 (by omega), r6.blk HX4.out.b1 (by omega), BlkT.lay HX4.out.b2 N, r6.blk HX4.out.b3 (by omega), r6.below HX4.out.bel HX4.out.bel.size (by omega)⟩
        have HC6 : Hid (((W3.setRow S2 (tabA N)).setRow (S + 1) (tabA N)).cell? ⟨S + 2, 0, none⟩ = some (.int .i64 ((k + 1 : Nat) : Int))) := HX6.out.b3.cell 0
        clear r6
        go_wp2_with (first
          | (refine wpList_load_row rfl 70 _ rfl S2 rfl 70 (tabA N) (0, 0) _ c4 Try.underlying70 rfl (size_tab N) ?_)
          | (refine wpList_load_row rfl 70 _ rfl (S + 1) rfl 70 (tabA T) (0, 0) _ c5 Try.underlying70 rfl (size_tab T) ?_)
          | (refine wpList_store_row rfl 70 _ _ rfl S2 (tabA N) rfl rfl 70 (tabA zeroT) c3 (size_tab N) rfl (tabA_one N) ?_)
          | (refine wpList_store_row rfl 70 _ _ rfl (S + 1) (tabA N) rfl rfl 70 (tabA T) c5 (size_tab N) rfl (tabA_one N) ?_))
        refine ⟨⟨_, _, _, _, _, _, _, _, _, _, _, _, ⟨k + 1, by omega, HX6.out, HNO2.out⟩, rfl⟩, ?_⟩
        rw [HC6.out, HC0.out]
        simp [intOf]
        omega
    · have t1 : ¬ (k : Int) + 1 ≤ 6 := by omega
      have HF : Hid (Cs.flat l = false) := by
        show Cs.flat l = false
        rw [Bool.eq_false_iff]
        intro h
        have h1 := Cs.ways_stay HOK.out h
        rw [HE.out] at h1
        exact HNO.out 5 (by omega) h1
      have c0 := HX1.out.b0
      have HB6 : Hid (Below w.heap.size w (W1.setRow w.heap.size (tabA zeroT))) := (Wrote.row _ _ _).below HX1.out.bel HX1.out.bel.size (Nat.le_refl _)
      have HB7 : Hid (Blk (W1.setRow w.heap.size (tabA zeroT)) w.heap.size 70 (tabA zeroT)) := BlkT.lay c0 _
      have hbd : ∀ wx, (Instr.build 70 #[]).run Try.prog wx = .ok (tabV zeroT) wx := fun _ => by kernel_rfl
      go_wp2_with (refine wpList_store_row rfl 70 _ _ rfl w.heap.size (tabA zeroT) rfl rfl 70 (tabA zeroT) c0 (size_tab zeroT) rfl (tabA_one zeroT) ?_)
      refine bodyPost_ret (results_cell_tmp2 (p := 2) (q := 3) rfl _ _ w.heap.size 70 (tabA zeroT) (0, 0) _ rfl HB7.out Try.underlying70 rfl (size_tab _)) rfl ⟨?_, HB6.out⟩
      show Ending.returned (.tuple #[tabV zeroT, .bool false]) = _
      rw [HF.out, longT_no HF.out]
end Go.Proofs.Ytmmhcpigcdlnmaa
