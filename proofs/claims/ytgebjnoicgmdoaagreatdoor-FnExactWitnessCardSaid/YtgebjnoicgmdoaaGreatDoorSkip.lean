/- Two tables compared; the atomic counter; a table and a bool as results. -/
/- The program's table of longest ways: longestPaths. -/
/- Constraints of the program: satisfiable, ConsSat, pathsOf, ConsFar. -/
/- ConsLeast, of the program and of the reference model. -/
/- l05Skip of the reference model: the constraints that are not gone. -/
import Derived.Test.YtgebjnoicgmdoaaGreatDoorPtMem
import Derived.ChangeKeysEq
import Derived.Laws.StructEq
import Derived.Laws.LoneSync
import Derived.Test.YtgebjnoicgmdoaaGreatDoorPtEdge
import Derived.Test.YtgebjnoicgmdoaaGreatDoorCoTab
import Derived.Deep.AppendLies

namespace Go.Proofs.YtgebjnoicgmdoaaGreatDoor
open Go.RowKit
open Cs (Cn Tb)

/-- whether two tables are equal, as the program compares them -/
def sameB (a b : Tb) : Bool := (List.range 6).all fun i => (List.range 6).all fun j => a i j == b i j
theorem sameB_iff (a b : Tb) : sameB a b = true ↔ Cs.Same a b := by
  unfold sameB Cs.Same
  simp only [List.all_eq_true, List.mem_range, beq_iff_eq]
  exact ⟨fun h i j hi hj => h i hi j hj, fun h i hi j hj => h i j hi hj⟩
theorem eqItems_ints (d : Nat) (xs ys : Array Value) (f g : Nat → Int) (w : World) : ∀ is : List Nat, (∀ i ∈ is, xs[i]? = some (.int .i64 (f i)) ∧ ys[i]? = some (.int .i64 (g i))) →
    (Op.eqItems (d + 1) 3 1 xs ys is).run Tryz.prog w = .ok (is.all fun i => f i == g i) w
  | [], _ => by simp [Op.eqItems]
  | i :: is, h => by
    have hp : Tryz.prog.plainKey 3 = true := by kernel_rfl
    obtain ⟨h1, h2⟩ := h i (by simp)
    have p1 := run_part_plain (P := Tryz.prog) w hp (off := i * 1) (xs := xs) (by rw [Nat.mul_one]; exact h1)
    have p2 := run_part_plain (P := Tryz.prog) w hp (off := i * 1) (xs := ys) (by rw [Nat.mul_one]; exact h2)
    have p3 := run_equalIn_int (P := Tryz.prog) w d 3 .i64 .i64 (f i) (g i) Tryz.underlying3
    have ih := eqItems_ints d xs ys f g w is (fun k hk => h k (by simp [hk]))
    simp only [Op.eqItems, Sem.run_bind, p1, p2, p3, Result.andThen_ok, List.all_cons]
    cases hb : (f i == g i)
    · simp
    · simp only [Bool.not_true, Bool.false_eq_true, if_false, Bool.true_and]
      exact ih
theorem info_row : ∃ i, Tryz.prog.info? 83 = some i := by
  have h := size_row zeroT 0
  cases hq : Tryz.prog.info? 83 with
  | none => simp [hq] at h
  | some i => exact ⟨i, rfl⟩
theorem info_num : ∃ i, Tryz.prog.info? 3 = some i := by
  have h := info_int
  cases hq : Tryz.prog.info? 3 with
  | none => simp [hq] at h
  | some i => exact ⟨i, rfl⟩
theorem part_row (a : Tb) {i : Nat} (hi : i < 6) (w : World) : (part 83 (tabA a) (i * 6)).run Tryz.prog w = .ok (.agg (rowA a i)) w := by
  obtain rfl | rfl | rfl | rfl | rfl | rfl : i = 0 ∨ i = 1 ∨ i = 2 ∨ i = 3 ∨ i = 4 ∨ i = 5 := by omega
  all_goals kernel_rfl
theorem eqItems_rows (d : Nat) (a b : Tb) (w : World) : ∀ is : List Nat, (∀ i ∈ is, i < 6) →
    (Op.eqItems (d + 2) 83 6 (tabA a) (tabA b) is).run Tryz.prog w = .ok (is.all fun i => (List.range 6).all fun j => a i j == b i j) w
  | [], _ => by simp [Op.eqItems]
  | i :: is, h => by
    have hi := h i (by simp)
    have p1 := part_row a hi w
    have p2 := part_row b hi w
    obtain ⟨inf, hinf⟩ := info_num
    have p3 : (Op.equalIn (d + 2) 83 (.agg (rowA a i)) (.agg (rowA b i))).run Tryz.prog w = .ok ((List.range 6).all fun j => a i j == b i j) w := by
      rw [show d + 2 = (d + 1) + 1 by omega, run_equalIn_array (P := Tryz.prog) w (d + 1) (rowA a i) (rowA b i) Tryz.underlying83 hinf]
      rw [show Tryz.prog.cellsOf 3 = 1 by kernel_rfl]
      exact eqItems_ints d (rowA a i) (rowA b i) (a i) (b i) w (List.range 6) (fun k hk => ⟨rowA_get a i (List.mem_range.1 hk), rowA_get b i (List.mem_range.1 hk)⟩)
    have ih := eqItems_rows d a b w is (fun k hk => h k (by simp [hk]))
    simp only [Op.eqItems, Sem.run_bind, p1, p2, p3, Result.andThen_ok, List.all_cons]
    cases hb : ((List.range 6).all fun j => a i j == b i j)
    · simp
    · simp only [Bool.not_true, Bool.false_eq_true, if_false, Bool.true_and]
      exact ih
theorem equal_tab (a b : Tb) (w : World) : (Op.equalIn 10000 85 (.agg (tabA a)) (.agg (tabA b))).run Tryz.prog w = .ok (sameB a b) w := by
  obtain ⟨inf, hinf⟩ := info_row
  rw [show (10000 : Nat) = 9999 + 1 by omega, run_equalIn_array (P := Tryz.prog) w 9999 (tabA a) (tabA b) Tryz.underlying85 hinf]
  rw [show Tryz.prog.cellsOf 83 = 6 by kernel_rfl]
  exact eqItems_rows 9997 a b w (List.range 6) (fun k hk => List.mem_range.1 hk)

set_option maxRecDepth 100000 in
set_option maxHeartbeats 400000 in
/-- the counter, one higher -/
theorem count_any (g : Nat) (x : Int) (w : World) (hc : w.cell? ⟨g, 0, none⟩ = some (.int .i64 x)) (hz : w.frozen? ⟨g, 0, none⟩ = false) (h0 : 0 ≤ x) (h1 : x ≤ 100) :
    Calls Tryz.prog 139 #[.pointer (some ⟨g, 0, none⟩), .int .i64 1] w fun e w' => e = .returned (.int .i64 (x + 1)) ∧ w' = w.setCell ⟨g, 0, none⟩ (.int .i64 (x + 1)) := by
  have hw : IntKind.i64.wrap (x + 1) = x + 1 := IntWalk.i64_in _ ⟨by omega, by omega⟩
  have hadd := run_call_add (P := Tryz.prog) Tryz.func157 (by kernel_rfl) (by kernel_rfl) (by kernel_rfl) .i64 (by kernel_rfl) (y := 1) (s := x + 1) hc hz (by simp [go_sem, hw])
  go_enter Tryz.func139, Tryz.ntmps139
  go_wp2
  go_ret
  exact ⟨rfl, rfl⟩

theorem results_cell_tmp2 {P : Program} {fn : Func} {p q : Tmp} {ty : TypeId} (h : fn.results = #[.cell p ty, .tmp q]) (tmps : Array Value) (w : World) (g : Nat) (t : TypeId) (cs : Array Value) (fr : Nat × Nat) (d : TypeDesc)
    (hp : tmps.getD p undef = .pointer (some ⟨g, 0, none⟩)) (hg : w.heap[g]? = some (.cells cs t fr))
    (hu : P.underlying ty = some d) (hd : (match d with | .struct _ | .array _ _ => true | _ => false) = true) (hi : (P.info? ty).map (·.size) = some cs.size) :
    (results fn tmps).run P w = .ok (.tuple #[.agg cs, tmps.getD q undef]) w := by
  have hp' : tmps[p]?.getD undef = .pointer (some ⟨g, 0, none⟩) := by simpa using hp
  simp [results, h, hp', asAddr, run_loadVar_row w g t ty cs fr d hg hu hd hi]
end Go.Proofs.YtgebjnoicgmdoaaGreatDoor

namespace Go.Proofs.YtgebjnoicgmdoaaGreatDoor
open Go.RowKit
open Cs (Cn Tb)

/-- the table that longestPaths gives back -/
def longT (l : List Cn) : Tb := if Cs.flat l = true then Cs.tab l else zeroT
theorem longT_yes {l : List Cn} (h : Cs.flat l = true) : longT l = Cs.tab l := if_pos h
theorem longT_no {l : List Cn} (h : Cs.flat l = false) : longT l = zeroT := if_neg (by rw [h]; decide)
/-- the walk's memory -/
structure LongW (w : World) (S : Nat) (E T : Tb) (k : Nat) (wr : World) : Prop where
  b0 : Blk wr w.heap.size 85 (tabA zeroT)
  b1 : Blk wr S 85 (tabA E)
  b2 : Blk wr (S + 1) 85 (tabA T)
  b3 : Blk wr (S + 2) 192 #[.int .i64 (k : Int)]
  bel : Below w.heap.size w wr
theorem LongW.later {w wr w' : World} {S k : Nat} {E T : Tb} (h : LongW w S E T k wr) (hb : Below wr.heap.size wr w') : LongW w S E T k w' :=
  ⟨Blk.below h.b0 hb h.b0.lt, Blk.below h.b1 hb h.b1.lt, Blk.below h.b2 hb h.b2.lt, Blk.below h.b3 hb h.b3.lt, h.bel.trans (hb.mono h.bel.size)⟩
theorem LongW.count {w wr : World} {S k : Nat} {E T : Tb} (h : LongW w S E T k wr) (hS : w.heap.size < S) : LongW w S E T (k + 1) (wr.setCell ⟨S + 2, 0, none⟩ (.int .i64 ((k : Int) + 1))) := by
  have hw : Wrote (S + 2) wr (wr.setCell ⟨S + 2, 0, none⟩ (.int .i64 ((k : Int) + 1))) := Wrote.set _ _
  exact ⟨hw.blk h.b0 (by omega), hw.blk h.b1 (by omega), hw.blk h.b2 (by omega), Blk.put h.b3 0 (.int .i64 ((k : Int) + 1)), hw.below h.bel h.bel.size (by omega)⟩

set_option maxRecDepth 100000 in
set_option maxHeartbeats 4000000 in
theorem longestPaths_any (w : World) (B : Nat) (A : Option Addr) (n c : Nat) (l : List Cn) (hB : B ≤ w.heap.size) (hl : ConR w B A n l) (hok : Cs.ok l) (hn : n ≤ 1000) :
    Calls Tryz.prog 108 #[.slice A n c] w fun e w' => e = .returned (.tuple #[tabV (longT l), .bool (Cs.flat l)]) ∧ Below w.heap.size w w' := by
  obtain ⟨W0, hW0⟩ : ∃ W, w.alloc (.cells (tabA zeroT) 85) = W := ⟨_, rfl⟩
  have hz := zeros_tab
  have hb0 : Below w.heap.size w W0 := by rw [← hW0]; exact (Below.refl _ _).alloc (Nat.le_refl _) _
  have hs0 : W0.heap.size = w.heap.size + 1 := by rw [← hW0]; simp
  have hblk0 : Blk W0 w.heap.size 85 (tabA zeroT) := by rw [← hW0]; exact Blk.made _ _ _
  have HOK := Lib.hid hok
  have HL := Lib.hid hl
  have HB0 := Lib.hid hb0
  have HK0 := Lib.hid hblk0
  clear hok hl hb0 hblk0
  go_enter Tryz.func108, Tryz.ntmps108
  go_wp2_with fail
  refine (edgesOf_any W0 B A n c l (by omega) (HL.out.below (HB0.out.mono hB)) HOK.out hn).mono ?_
  rintro e w1 ⟨rfl, hb1⟩
  obtain ⟨E, hE⟩ : ∃ E, Cs.start l = E := ⟨_, rfl⟩
  rw [hE]
  have HE := Lib.hid hE
  have HB1 := Lib.hid hb1
  have hS0 := hb1.size
  rw [hs0] at hS0
  clear hE hb1 hs0 hW0
  obtain ⟨S, hS⟩ : ∃ S, w1.heap.size = S := ⟨_, rfl⟩
  have hSw : w.heap.size < S := by omega
  obtain ⟨W1, hW1⟩ : ∃ W, w1.alloc (.cells (tabA zeroT) 85) = W := ⟨_, rfl⟩
  have q1 : Below S w1 W1 := by rw [← hW1, ← hS]; exact (Below.refl _ _).alloc (Nat.le_refl _) _
  have c1 : Blk W1 S 85 (tabA zeroT) := by rw [← hW1, ← hS]; exact Blk.made _ _ _
  have s1 : W1.heap.size = S + 1 := by rw [← hW1]; simp [hS]
  obtain ⟨W2, hW2⟩ : ∃ W, W1.setRow S (tabA E) = W := ⟨_, rfl⟩
  have r2 : Wrote S W1 W2 := by rw [← hW2]; exact Wrote.row _ _ _
  have c2 : Blk W2 S 85 (tabA E) := by rw [← hW2]; exact BlkT.lay c1 E
  have s2 : W2.heap.size = S + 1 := by rw [r2.2, s1]
  obtain ⟨W3, hW3⟩ : ∃ W, W2.alloc (.cells (tabA zeroT) 85) = W := ⟨_, rfl⟩
  have q3 : Below (S + 1) W2 W3 := by rw [← hW3, ← s2]; exact (Below.refl _ _).alloc (Nat.le_refl _) _
  have c3 : Blk W3 (S + 1) 85 (tabA zeroT) := by rw [← hW3, ← s2]; exact Blk.made _ _ _
  have s3 : W3.heap.size = S + 1 + 1 := by rw [← hW3]; simp [s2]
  obtain ⟨W4, hW4⟩ : ∃ W, W3.setRow (S + 1) (tabA E) = W := ⟨_, rfl⟩
  have r4 : Wrote (S + 1) W3 W4 := by rw [← hW4]; exact Wrote.row _ _ _
  have c4 : Blk W4 (S + 1) 85 (tabA E) := by rw [← hW4]; exact BlkT.lay c3 E
  have s4 : W4.heap.size = S + 2 := by rw [r4.2, s3]
  obtain ⟨W5, hW5⟩ : ∃ W, W4.alloc (.cells #[.int .i64 0] 192) = W := ⟨_, rfl⟩
  have q5 : Below (S + 2) W4 W5 := by rw [← hW5, ← s4]; exact (Below.refl _ _).alloc (Nat.le_refl _) _
  have c5 : Blk W5 (S + 2) 192 #[.int .i64 0] := by rw [← hW5, ← s4]; exact Blk.made _ _ _
  have HX0 : Hid (LongW w S E (Cs.ways E 0) 0 W5) := by
    have k0 : Blk w1 w.heap.size 85 (tabA zeroT) := Blk.below HK0.out HB1.out HK0.out.lt
    have k1 := Blk.below k0 q1 (by omega)
    have k2 := r2.blk k1 (by omega)
    have k3 := Blk.below k2 q3 (by omega)
    have k4 := r4.blk k3 (by omega)
    have k5 := Blk.below k4 q5 (by omega)
    have e3 := r4.blk (Blk.below c2 q3 (by omega)) (by omega)
    refine ⟨k5, Blk.below e3 q5 (by omega), Blk.below c4 q5 (by omega), c5, ?_⟩
    have t1 : Below w.heap.size w w1 := HB0.out.trans (HB1.out.mono HB0.out.size)
    have t2 := r2.below (t1.trans (q1.mono (by omega))) (by omega) (by omega)
    have t4 := r4.below (t2.trans (q3.mono (by omega))) (by omega) (by omega)
    exact t4.trans (q5.mono (by omega))
  clear q1 q3 q5 c4 c5 r2 r4 HB0 HK0 HB1
  go_wp2_with (first
    | (refine wpList_load_row rfl 85 _ rfl S rfl 85 (tabA E) (0, 0) _ (BlkT.lay c1 E) Tryz.underlying85 rfl (size_tab E) ?_)
    | (refine wpList_load_row rfl 85 _ rfl S rfl 85 (tabA E) (0, 0) _ c2 Tryz.underlying85 rfl (size_tab E) ?_)
    | (refine wpList_store_row rfl 85 _ _ rfl S (tabA E) rfl rfl 85 (tabA zeroT) c1 (size_tab E) rfl (tabA_one E) ?_)
    | (refine wpList_store_row rfl 85 _ _ rfl (S + 1) (tabA E) rfl rfl 85 (tabA zeroT) c3 (size_tab E) rfl (tabA_one E) ?_))
  clear c1 c2 c3 s1 s2 s3 s4 hW1 hW2 hW3 hW4 hW5 hS
  have HBD : Hid (∀ i j, -1 ≤ E i j ∧ E i j ≤ 1) := fun i j => by rw [← HE.out]; exact Cs.start_le l i j
  go_loopw [11] (fun _ wr => ∃ k : Nat, k ≤ 6 ∧ Hid (LongW w S E (Cs.ways E k) k wr) ∧ Hid (∀ m, m < k → ¬ Cs.Same (Cs.ways E (m + 1)) (Cs.ways E m))) (fun _ wr => 7 - (intOf ((wr.cell? ⟨S + 2, 0, none⟩).getD undef)).toNat)
  case atStart => exact ⟨0, by omega, HX0.out, fun m hm => absurd hm (by omega)⟩
  case round =>
    clear HX0
    obtain ⟨k, hk, HX, HNO⟩ := hrel
    have HC0 : Hid (wr.cell? ⟨S + 2, 0, none⟩ = some (.int .i64 (k : Int))) := HX.out.b3.cell 0
    go_wp2_with fail
    refine (count_any (S + 2) k wr (HX.out.b3.cell 0) (HX.out.b3.thawed 0) (by omega) (by omega)).mono ?_
    rintro e W1 ⟨rfl, hW1⟩
    have HX1 : Hid (LongW w S E (Cs.ways E k) (k + 1) W1) := by show LongW _ _ _ _ _ _; rw [hW1]; exact HX.out.count hSw
    clear hW1 HX
    by_cases hk6 : k < 6
    · have t1 : (k : Int) + 1 ≤ 6 := by omega
      have b1 := HX1.out.b1
      have b2 := HX1.out.b2
      obtain ⟨T, hT⟩ : ∃ T, Cs.ways E k = T := ⟨_, rfl⟩
      have HT := Lib.hid hT
      rw [hT] at b2 HX1
      clear hT
      go_wp2_with (first
        | (refine wpList_load_row rfl 85 _ rfl S rfl 85 (tabA E) (0, 0) _ b1 Tryz.underlying85 rfl (size_tab E) ?_)
        | (refine wpList_load_row rfl 85 _ rfl (S + 1) rfl 85 (tabA T) (0, 0) _ b2 Tryz.underlying85 rfl (size_tab T) ?_))
      refine (ext_any W1 T E (fun i j => ?_) (fun i j => ?_)).mono ?_
      · have := Cs.ways_bd HBD.out k i j
        rw [HT.out] at this
        omega
      · have := HBD.out i j
        omega
      rintro e W2 ⟨rfl, hb2⟩
      obtain ⟨N, hN⟩ : ∃ N, Cs.ext T E = N := ⟨_, rfl⟩
      have HN : Hid (Cs.ways E (k + 1) = N) := by show Cs.ext (Cs.ways E k) E = N; rw [HT.out]; exact hN
      rw [hN]
      have HX2 := Lib.hid (HX1.out.later hb2)
      clear hN hb2 b1 b2 HX1
      obtain ⟨S2, hS2⟩ : ∃ S2, W2.heap.size = S2 := ⟨_, rfl⟩
      have hS3 : S + 2 < S2 := by rw [← hS2]; exact HX2.out.b3.lt
      obtain ⟨W3, hW3⟩ : ∃ W, W2.alloc (.cells (tabA zeroT) 85) = W := ⟨_, rfl⟩
      have c3 : Blk W3 S2 85 (tabA zeroT) := by rw [← hW3, ← hS2]; exact Blk.made _ _ _
      have HX3 : Hid (LongW w S E T (k + 1) W3) := by show LongW _ _ _ _ _ _; rw [← hW3]; exact HX2.out.later ((Below.refl _ _).alloc (Nat.le_refl _) _)
      have c4 := BlkT.lay c3 N
      have r4 : Wrote S2 W3 (W3.setRow S2 (tabA N)) := Wrote.row _ _ _
      have HX4 : Hid (LongW w S E T (k + 1) (W3.setRow S2 (tabA N))) := ⟨r4.blk HX3.out.b0 (by omega), r4.blk HX3.out.b1 (by omega), r4.blk HX3.out.b2 (by omega), r4.blk HX3.out.b3 (by omega), r4.below HX3.out.bel HX3.out.bel.size (by omega)⟩
      have c5 := HX4.out.b2
      have heq := equal_tab N T
      clear HX2 HX3 r4
      cases hs : sameB N T with
      | true =>
        have HS := Lib.hid hs
        have c0 := HX4.out.b0
        have HF : Hid (Cs.Same (Cs.ways (Cs.start l) (k + 1)) (Cs.ways (Cs.start l) k)) := by
          show Cs.Same _ _
          rw [HE.out, HN.out, HT.out]
          exact (sameB_iff N T).1 hs
        rw [hs] at heq
        clear hs
        have HR : Hid (tabA T = tabA (longT l)) := by
          show tabA T = tabA (longT l)
          rw [longT_yes (Cs.fix_flat HF.out), ← HT.out, ← HE.out]
          exact tabA_same.2 (Cs.fix_tab HF.out)
        have HFL := Lib.hid (Cs.fix_flat HF.out)
        have HB6 : Hid (Below w.heap.size w ((W3.setRow S2 (tabA N)).setRow w.heap.size (tabA T))) := (Wrote.row _ _ _).below HX4.out.bel HX4.out.bel.size (Nat.le_refl _)
        have HB7 : Hid (Blk ((W3.setRow S2 (tabA N)).setRow w.heap.size (tabA T)) w.heap.size 85 (tabA T)) := BlkT.lay c0 _
        go_wp2_with (first
          | (refine wpList_load_row rfl 85 _ rfl S2 rfl 85 (tabA N) (0, 0) _ c4 Tryz.underlying85 rfl (size_tab N) ?_)
          | (refine wpList_load_row rfl 85 _ rfl (S + 1) rfl 85 (tabA T) (0, 0) _ c5 Tryz.underlying85 rfl (size_tab T) ?_)
          | (refine wpList_store_row rfl 85 _ _ rfl S2 (tabA N) rfl rfl 85 (tabA zeroT) c3 (size_tab N) rfl (tabA_one N) ?_)
          | (refine wpList_store_row rfl 85 _ _ rfl w.heap.size (tabA T) rfl rfl 85 (tabA zeroT) c0 (size_tab T) rfl (tabA_one T) ?_))
        refine bodyPost_ret (results_cell_tmp2 (p := 2) (q := 3) rfl _ _ w.heap.size 85 (tabA T) (0, 0) _ rfl HB7.out Tryz.underlying85 rfl (size_tab _)) rfl ⟨?_, HB6.out⟩
        show Ending.returned (.tuple #[tabV T, .bool true]) = _
        rw [HFL.out, show tabV T = tabV (longT l) from congrArg Value.agg HR.out]
      | false =>
        have HNO2 : Hid (∀ m, m < k + 1 → ¬ Cs.Same (Cs.ways E (m + 1)) (Cs.ways E m)) := fun m hm => by
          by_cases e : m = k
          · subst e
            rw [HN.out, HT.out]
            intro h
            rw [(sameB_iff N T).2 h] at hs
            cases hs
          · exact HNO.out m (by omega)
        rw [hs] at heq
        clear hs
        have r6 : Wrote (S + 1) (W3.setRow S2 (tabA N)) ((W3.setRow S2 (tabA N)).setRow (S + 1) (tabA N)) := Wrote.row _ _ _
        have HX6 : Hid (LongW w S E (Cs.ways E (k + 1)) (k + 1) ((W3.setRow S2 (tabA N)).setRow (S + 1) (tabA N))) := by
          show LongW _ _ _ _ _ _
          rw [HN.out]
          exact ⟨r6.blk HX4.out.b0 (by omega), r6.blk HX4.out.b1 (by omega), BlkT.lay HX4.out.b2 N, r6.blk HX4.out.b3 (by omega), r6.below HX4.out.bel HX4.out.bel.size (by omega)⟩
        have HC6 : Hid (((W3.setRow S2 (tabA N)).setRow (S + 1) (tabA N)).cell? ⟨S + 2, 0, none⟩ = some (.int .i64 ((k + 1 : Nat) : Int))) := HX6.out.b3.cell 0
        clear r6
        go_wp2_with (first
          | (refine wpList_load_row rfl 85 _ rfl S2 rfl 85 (tabA N) (0, 0) _ c4 Tryz.underlying85 rfl (size_tab N) ?_)
          | (refine wpList_load_row rfl 85 _ rfl (S + 1) rfl 85 (tabA T) (0, 0) _ c5 Tryz.underlying85 rfl (size_tab T) ?_)
          | (refine wpList_store_row rfl 85 _ _ rfl S2 (tabA N) rfl rfl 85 (tabA zeroT) c3 (size_tab N) rfl (tabA_one N) ?_)
          | (refine wpList_store_row rfl 85 _ _ rfl (S + 1) (tabA N) rfl rfl 85 (tabA T) c5 (size_tab N) rfl (tabA_one N) ?_))
        refine ⟨⟨_, _, _, _, _, _, _, _, _, _, _, _, ⟨k + 1, by omega, HX6.out, HNO2.out⟩, rfl⟩, ?_⟩
        rw [HC6.out, HC0.out]
        simp [intOf]
        omega
    · have t1 : ¬ (k : Int) + 1 ≤ 6 := by omega
      have HF : Hid (Cs.flat l = false) := by
        show Cs.flat l = false
        rw [Bool.eq_false_iff]
        intro h
        have h1 := Cs.ways_stay HOK.out h
        rw [HE.out] at h1
        exact HNO.out 5 (by omega) h1
      have c0 := HX1.out.b0
      have HB6 : Hid (Below w.heap.size w (W1.setRow w.heap.size (tabA zeroT))) := (Wrote.row _ _ _).below HX1.out.bel HX1.out.bel.size (Nat.le_refl _)
      have HB7 : Hid (Blk (W1.setRow w.heap.size (tabA zeroT)) w.heap.size 85 (tabA zeroT)) := BlkT.lay c0 _
      have hbd : ∀ wx, (Instr.build 85 #[]).run Tryz.prog wx = .ok (tabV zeroT) wx := fun _ => by kernel_rfl
      go_wp2_with (refine wpList_store_row rfl 85 _ _ rfl w.heap.size (tabA zeroT) rfl rfl 85 (tabA zeroT) c0 (size_tab zeroT) rfl (tabA_one zeroT) ?_)
      refine bodyPost_ret (results_cell_tmp2 (p := 2) (q := 3) rfl _ _ w.heap.size 85 (tabA zeroT) (0, 0) _ rfl HB7.out Tryz.underlying85 rfl (size_tab _)) rfl ⟨?_, HB6.out⟩
      show Ending.returned (.tuple #[tabV zeroT, .bool false]) = _
      rw [HF.out, longT_no HF.out]
end Go.Proofs.YtgebjnoicgmdoaaGreatDoor

namespace Go.Proofs.YtgebjnoicgmdoaaGreatDoor
open Go.RowKit
open Cs (Cn Tb)

theorem build_tab (w : World) : (Instr.build 85 #[]).run Tryz.prog w = .ok (tabV zeroT) w := by kernel_rfl
end Go.Proofs.YtgebjnoicgmdoaaGreatDoor

namespace Go.Proofs.YtgebjnoicgmdoaaGreatDoor
open Go.RowKit
open Cs (Cn Tb)

theorem own_spot {w : World} {base g n c size : Nat} {e : TypeId} {xs : List Value} (h : w.ownsRow base e size (.slice (some ⟨g, 0, none⟩) n c) n xs) {i : Nat} {u : Value} (hu : xs[i]? = some u) : w.cell? ⟨g, i, none⟩ = some u ∧ w.frozen? ⟨g, i, none⟩ = false := by
  have h1 := h.cells (g := g) rfl i u hu
  rw [own_adds] at h1
  refine ⟨h1, ?_⟩
  rcases h.2 with ⟨h0, _⟩ | ⟨g', cap, cur, hv, hb, hgg, _⟩
  · cases h0
  · injection hv with e1
    injection e1 with e1
    injection e1 with e1
    rw [e1]
    exact Blk.thawed (w := w) hgg i
theorem own_whole {w : World} {base g n : Nat} {e : TypeId} {cs : Array Value} {xs : List Value} (h : Blk w g e cs) (hb : base ≤ g) (hn : n ≤ 3000000) (hx : cs.toList = xs) (hs : xs.length = n * 1 := by rfl) : w.ownsRow base e 1 (.slice (some ⟨g, 0, none⟩) n n) n xs := by
  have hsz : cs.size = n * 1 := by rw [← hs, ← hx]; simp
  exact ⟨hs, .inr ⟨g, n, cs, rfl, hb, h, Nat.le_refl _, by unfold maxLen; omega, hsz, by rw [← hsz, List.take_of_length_le (by simp)]; exact hx⟩⟩
/-- what a function gives back: a row of numbers and whether there is one -/
def ResJ (w : World) (r : Option (List Int)) (e : Ending) (w' : World) : Prop :=
  ∃ A c, e = .returned (.tuple #[.slice A (r.getD []).length c, .bool r.isSome]) ∧ OwnI w' w.heap.size A (r.getD []).length c (r.getD []) ∧ Below w.heap.size w w'
theorem resJ_none {w w' : World} (hb : Below w.heap.size w w') : ResJ w none (.returned (.tuple #[.slice none 0 0, .bool false])) w' := ⟨none, 0, rfl, World.ownsRow_nil _ _ _ _, hb⟩
theorem resJ_some {w w' : World} {g cap n : Nat} {l : List Int} (hl : l.length = n) (ho : OwnI w' w.heap.size (some ⟨g, 0, none⟩) n cap l) (hb : Below w.heap.size w w') : ResJ w (some l) (.returned (.tuple #[.slice (some ⟨g, 0, none⟩) n cap, .bool true])) w' :=
  ⟨some ⟨g, 0, none⟩, cap, by simp [hl], by simpa [hl] using ho, hb⟩
/-- the least env of a table, and the row that is being filled -/
def leastL (T : Tb) : List Int := (List.range 5).map fun p => T 0 (p + 1)
def fillE (T : Tb) (k : Nat) : List Int := (List.range 5).map fun p => if p < k then T 0 (p + 1) else 0
theorem fillE_zero (T : Tb) : fillE T 0 = [0, 0, 0, 0, 0] := rfl
theorem fillE_all (T : Tb) : fillE T 5 = leastL T := by
  unfold fillE leastL
  apply List.map_congr_left
  intro p hp
  rw [if_pos (List.mem_range.1 hp)]
theorem fillE_len (T : Tb) (k : Nat) : (fillE T k).length = 5 := by simp [fillE]
theorem fillE_set (T : Tb) {k : Nat} (_ : k < 5) : (fillE T k).set k (T 0 (k + 1)) = fillE T (k + 1) := by
  apply List.ext_getElem (by simp [fillE])
  intro i h1 h2
  rw [List.getElem_set]
  simp only [fillE, List.getElem_map, List.getElem_range]
  by_cases e : k = i
  · subst e
    rw [if_pos rfl, if_pos (by omega)]
  · rw [if_neg e]
    by_cases c : i < k
    · rw [if_pos c, if_pos (by omega)]
    · rw [if_neg c, if_neg (by omega)]

set_option maxRecDepth 100000 in
set_option maxHeartbeats 1600000 in
theorem least_any (w : World) (T : Tb) :
    Calls Tryz.prog 66 #[tabV T] w fun e w' => ∃ g, e = .returned (.slice (some ⟨g, 0, none⟩) 5 5) ∧ OwnI w' w.heap.size (some ⟨g, 0, none⟩) 5 5 (leastL T) ∧ Below w.heap.size w w' := by
  obtain ⟨i0, hi, hz0, hz1, hz2⟩ := info_parts info_int
  have hmk : ∀ wx, (Instr.makeSlice 29 (.int .i64 5) (.int .i64 5)).run Tryz.prog wx = .ok (.slice (some ⟨wx.heap.size, 0, none⟩) 5 5) (wx.alloc (.cells (madeCells #[Value.int .i64 0] 5) 3)) := by
    intro wx
    have hr := run_make (P := Tryz.prog) wx 29 3 i0 _ Tryz.underlying29 hi hz0 .i64 .i64 5 5 (by omega) (by omega) (by rw [hz2]; omega) (by omega)
    simp only [hz1] at hr
    exact hr
  obtain ⟨W0, hW0⟩ : ∃ W, w.alloc (.cells (tabA T) 85) = W := ⟨_, rfl⟩
  have hb0 : Below w.heap.size w W0 := by rw [← hW0]; exact (Below.refl _ _).alloc (Nat.le_refl _) _
  have hs0 : W0.heap.size = w.heap.size + 1 := by rw [← hW0]; simp
  have c0 : Blk W0 w.heap.size 85 (tabA T) := by rw [← hW0]; exact Blk.made _ _ _
  obtain ⟨W1, hW1⟩ : ∃ W, W0.alloc (.cells (madeCells #[Value.int .i64 0] 5) 3) = W := ⟨_, rfl⟩
  have HO1 : Hid (OwnI W1 w.heap.size (some ⟨w.heap.size + 1, 0, none⟩) 5 5 (fillE T 0)) := by
    show OwnI _ _ _ _ _ _
    have hb : Blk W1 (w.heap.size + 1) 3 (madeCells #[Value.int .i64 0] 5) := by rw [← hW1, ← hs0]; exact Blk.made _ _ _
    exact own_whole hb (by omega) (by omega) (by rw [fillE_zero]; kernel_rfl)
  have HB1 : Hid (Below w.heap.size w W1) := by show Below _ _ _; rw [← hW1]; exact hb0.alloc (by omega) _
  have HC1 : Hid (Blk W1 w.heap.size 85 (tabA T)) := by show Blk _ _ _ _; rw [← hW1]; exact Blk.below c0 ((Below.refl _ _).alloc (Nat.le_refl _) _) (by omega)
  clear hb0 c0 hi hz0 hz1 hz2
  go_enter Tryz.func66, Tryz.ntmps66
  go_wp2
  clear hmk hW0 hW1 hs0
  go_loopw [8] (fun i wr => ∃ k : Nat, k ≤ 5 ∧ i = .int .i64 k ∧ Hid (OwnI wr w.heap.size (some ⟨w.heap.size + 1, 0, none⟩) 5 5 (fillE T k)) ∧ Hid (Blk wr w.heap.size 85 (tabA T)) ∧ Hid (Below w.heap.size w wr)) (fun i _ => 5 - (intOf i).toNat)
  case atStart => exact ⟨0, by omega, rfl, HO1.out, HC1.out, HB1.out⟩
  case round =>
    clear HO1 HC1 HB1
    obtain ⟨k, hk, rfl, HO, HC, HB⟩ := hrel
    by_cases hlt : k < 5
    · have hki : (k : Int) < 5 := by omega
      have c1 := HC.out
      go_wp2_with (refine wpList_load_row rfl 85 _ rfl w.heap.size rfl 85 (tabA T) (0, 0) _ c1 Tryz.underlying85 rfl (size_tab T) ?_)
      refine (far_any wr T (-1) k 0 (k + 1) (by omega) (by omega) (by omega) (by omega)).mono ?_
      rintro e w1 ⟨rfl, hb1⟩
      have ho1 := own_below' HO.out hb1
      have hlen : k < (fillE T k).length := by rw [fillE_len]; exact hlt
      obtain ⟨q1, q2⟩ := own_spot ho1 (i := k) (u := .int .i64 ((fillE T k)[k])) (by simp)
      have HO2 : Hid (OwnI (w1.setCell ⟨w.heap.size + 1, k, none⟩ (.int .i64 (T 0 (k + 1)))) w.heap.size (some ⟨w.heap.size + 1, 0, none⟩) 5 5 (fillE T (k + 1))) := by
        have := own_set ho1 k (.int .i64 (T 0 (k + 1)))
        rw [← List.map_set, fillE_set T hlt] at this
        exact this
      have HC2 : Hid (Blk (w1.setCell ⟨w.heap.size + 1, k, none⟩ (.int .i64 (T 0 (k + 1)))) w.heap.size 85 (tabA T)) := (Wrote.set (g := w.heap.size + 1) _ _).blk (Blk.below HC.out hb1 HC.out.lt) (by omega)
      have HB2 : Hid (Below w.heap.size w (w1.setCell ⟨w.heap.size + 1, k, none⟩ (.int .i64 (T 0 (k + 1))))) := (HB.out.trans (hb1.mono HB.out.size)).setCell (p := ⟨w.heap.size + 1, k, none⟩) (by show _ ≤ w.heap.size + 1; omega) _
      generalize (fillE T k)[k] = z at q1
      clear hb1 ho1 c1
      go_wp2
      go_roundw
      case rel => exact ⟨k + 1, by omega, by go_num, HO2.out, HC2.out, HB2.out⟩
      case measure => simp [intOf]; omega
    · obtain rfl : k = 5 := by omega
      rw [fillE_all] at HO
      go_wp2
      go_ret
      exact ⟨w.heap.size + 1, rfl, HO.out, HB.out⟩

end Go.Proofs.YtgebjnoicgmdoaaGreatDoor

namespace Go.Proofs.YtgebjnoicgmdoaaGreatDoor
open Go.RowKit
open Cs (Cn Tb)

/-- the cells of a row of bools -/
def goneA (g : Nat → Bool) (n : Nat) : Array Value := ((List.range n).map fun i => Value.bool (g i)).toArray
theorem goneA_size (g : Nat → Bool) (n : Nat) : (goneA g n).size = n := by simp [goneA]
theorem goneA_get (g : Nat → Bool) {n i : Nat} (hi : i < n) : (goneA g n)[i]? = some (.bool (g i)) := by simp [goneA, hi]
theorem goneA_set (g : Nat → Bool) (n i : Nat) (b : Bool) : (goneA g n).setIfInBounds i (.bool b) = goneA (Cs.mark g i b) n := by
  apply Array.ext_getElem?
  intro k
  by_cases hk : k < n
  · rw [Array.getElem?_setIfInBounds, goneA_get _ hk, goneA_get _ hk, goneA_size]
    unfold Cs.mark
    by_cases e : i = k
    · subst e
      rw [if_pos rfl, if_pos (by omega), if_pos rfl]
    · rw [if_neg e, if_neg (fun h => e h.symm)]
  · rw [Array.getElem?_eq_none (by rw [Array.size_setIfInBounds, goneA_size]; omega), Array.getElem?_eq_none (by rw [goneA_size]; omega)]
theorem con_new (w : World) (U R V : Int) : ∀ j u, (conCells [(U, R, V)])[j]? = some u → (w.alloc (.cells #[.int .i64 U, .int .i64 R, .int .i64 V] 41)).cell? ((⟨w.heap.size, 0, none⟩ : Addr).add j) = some u :=
  World.news_of_block (cs := #[.int .i64 U, .int .i64 R, .int .i64 V]) (t := 41) (fr := (0, 0)) (heap_alloc_new w _)
end Go.Proofs.YtgebjnoicgmdoaaGreatDoor
