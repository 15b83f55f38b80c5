/- The program's table of longest ways: longestPaths. -/
/- Constraints of the program: sideOk, ConOk, ConsOk. -/
/- Constraints of the program: satisfiable, ConsSat, pathsOf, ConsFar. -/
import Derived.Test.YtfmhmnpmdjpmeaaPtExt
import Derived.Test.YtfmhmnpmdjpmeaaPtCmp
import Derived.Test.YtfmhmnpmdjpmeaaCoOk
import Derived.Test.YtfmhmnpmdjpmeaaCsMath6

namespace Go.Proofs.Ytfmhmnpmdjpmeaa
open Go.RowKit
open Cs (Cn Tb)

/-- the table that longestPaths gives back -/
def longT (l : List Cn) : Tb := if Cs.flat l = true then Cs.tab l else zeroT
theorem longT_yes {l : List Cn} (h : Cs.flat l = true) : longT l = Cs.tab l := if_pos h
theorem longT_no {l : List Cn} (h : Cs.flat l = false) : longT l = zeroT := if_neg (by rw [h]; decide)
/-- the walk's memory -/
structure LongW (w : World) (S : Nat) (E T : Tb) (k : Nat) (wr : World) : Prop where
  b0 : Blk wr w.heap.size 132 (tabA zeroT)
  b1 : Blk wr S 132 (tabA E)
  b2 : Blk wr (S + 1) 132 (tabA T)
  b3 : Blk wr (S + 2) 146 #[.int .i64 (k : Int)]
  bel : Below w.heap.size w wr
theorem LongW.later {w wr w' : World} {S k : Nat} {E T : Tb} (h : LongW w S E T k wr) (hb : Below wr.heap.size wr w') : LongW w S E T k w' :=
  ⟨Blk.below h.b0 hb h.b0.lt, Blk.below h.b1 hb h.b1.lt, Blk.below h.b2 hb h.b2.lt, Blk.below h.b3 hb h.b3.lt, h.bel.trans (hb.mono h.bel.size)⟩
theorem LongW.count {w wr : World} {S k : Nat} {E T : Tb} (h : LongW w S E T k wr) (hS : w.heap.size < S) : LongW w S E T (k + 1) (wr.setCell ⟨S + 2, 0, none⟩ (.int .i64 ((k : Int) + 1))) := by
  have hw : Wrote (S + 2) wr (wr.setCell ⟨S + 2, 0, none⟩ (.int .i64 ((k : Int) + 1))) := Wrote.set _ _
  exact ⟨hw.blk h.b0 (by omega), hw.blk h.b1 (by omega), hw.blk h.b2 (by omega), Blk.put h.b3 0 (.int .i64 ((k : Int) + 1)), hw.below h.bel h.bel.size (by omega)⟩

set_option maxRecDepth 100000 in
set_option maxHeartbeats 4000000 in
theorem longestPaths_any (w : World) (B : Nat) (A : Option Addr) (n c : Nat) (l : List Cn) (hB : B ≤ w.heap.size) (hl : ConR w B A n l) (hok : Cs.ok l) (hn : n ≤ 1000) :
    Calls Try.prog 100 #[.slice A n c] w fun e w' => e = .returned (.tuple #[tabV (longT l), .bool (Cs.flat l)]) ∧ Below w.heap.size w w' := by
  obtain ⟨W0, hW0⟩ : ∃ W, w.alloc (.cells (tabA zeroT) 132) = W := ⟨_, rfl⟩
  have hz := zeros_tab
  have hb0 : Below w.heap.size w W0 := by rw [← hW0]; exact (Below.refl _ _).alloc (Nat.le_refl _) _
  have hs0 : W0.heap.size = w.heap.size + 1 := by rw [← hW0]; simp
  have hblk0 : Blk W0 w.heap.size 132 (tabA zeroT) := by rw [← hW0]; exact Blk.made _ _ _
  have HOK := Lib.hid hok
  have HL := Lib.hid hl
  have HB0 := Lib.hid hb0
  have HK0 := Lib.hid hblk0
  clear hok hl hb0 hblk0
  go_enter Try.func100, Try.ntmps100
  go_wp2_with fail
  refine (edgesOf_any W0 B A n c l (by omega) (HL.out.below (HB0.out.mono hB)) HOK.out hn).mono ?_
  rintro e w1 ⟨rfl, hb1⟩
  obtain ⟨E, hE⟩ : ∃ E, Cs.start l = E := ⟨_, rfl⟩
  rw [hE]
  have HE := Lib.hid hE
  have HB1 := Lib.hid hb1
  have hS0 := hb1.size
  rw [hs0] at hS0
  clear hE hb1 hs0 hW0
  obtain ⟨S, hS⟩ : ∃ S, w1.heap.size = S := ⟨_, rfl⟩
  have hSw : w.heap.size < S := by omega
  obtain ⟨W1, hW1⟩ : ∃ W, w1.alloc (.cells (tabA zeroT) 132) = W := ⟨_, rfl⟩
  have q1 : Below S w1 W1 := by rw [← hW1, ← hS]; exact (Below.refl _ _).alloc (Nat.le_refl _) _
  have c1 : Blk W1 S 132 (tabA zeroT) := by rw [← hW1, ← hS]; exact Blk.made _ _ _
  have s1 : W1.heap.size = S + 1 := by rw [← hW1]; simp [hS]
  obtain ⟨W2, hW2⟩ : ∃ W, W1.setRow S (tabA E) = W := ⟨_, rfl⟩
  have r2 : Wrote S W1 W2 := by rw [← hW2]; exact Wrote.row _ _ _
  have c2 : Blk W2 S 132 (tabA E) := by rw [← hW2]; exact BlkT.lay c1 E
  have s2 : W2.heap.size = S + 1 := by rw [r2.2, s1]
  obtain ⟨W3, hW3⟩ : ∃ W, W2.alloc (.cells (tabA zeroT) 132) = W := ⟨_, rfl⟩
  have q3 : Below (S + 1) W2 W3 := by rw [← hW3, ← s2]; exact (Below.refl _ _).alloc (Nat.le_refl _) _
  have c3 : Blk W3 (S + 1) 132 (tabA zeroT) := by rw [← hW3, ← s2]; exact Blk.made _ _ _
  have s3 : W3.heap.size = S + 1 + 1 := by rw [← hW3]; simp [s2]
  obtain ⟨W4, hW4⟩ : ∃ W, W3.setRow (S + 1) (tabA E) = W := ⟨_, rfl⟩
  have r4 : Wrote (S + 1) W3 W4 := by rw [← hW4]; exact Wrote.row _ _ _
  have c4 : Blk W4 (S + 1) 132 (tabA E) := by rw [← hW4]; exact BlkT.lay c3 E
  have s4 : W4.heap.size = S + 2 := by rw [r4.2, s3]
  obtain ⟨W5, hW5⟩ : ∃ W, W4.alloc (.cells #[.int .i64 0] 146) = W := ⟨_, rfl⟩
  have q5 : Below (S + 2) W4 W5 := by rw [← hW5, ← s4]; exact (Below.refl _ _).alloc (Nat.le_refl _) _
  have c5 : Blk W5 (S + 2) 146 #[.int .i64 0] := by rw [← hW5, ← s4]; exact Blk.made _ _ _
  have HX0 : Hid (LongW w S E (Cs.ways E 0) 0 W5) := by
    have k0 : Blk w1 w.heap.size 132 (tabA zeroT) := Blk.below HK0.out HB1.out HK0.out.lt
    have k1 := Blk.below k0 q1 (by omega)
    have k2 := r2.blk k1 (by omega)
    have k3 := Blk.below k2 q3 (by omega)
    have k4 := r4.blk k3 (by omega)
    have k5 := Blk.below k4 q5 (by omega)
    have e3 := r4.blk (Blk.below c2 q3 (by omega)) (by omega)
    refine ⟨k5, Blk.below e3 q5 (by omega), Blk.below c4 q5 (by omega), c5, ?_⟩
    have t1 : Below w.heap.size w w1 := HB0.out.trans (HB1.out.mono HB0.out.size)
    have t2 := r2.below (t1.trans (q1.mono (by omega))) (by omega) (by omega)
    have t4 := r4.below (t2.trans (q3.mono (by omega))) (by omega) (by omega)
    exact t4.trans (q5.mono (by omega))
  clear q1 q3 q5 c4 c5 r2 r4 HB0 HK0 HB1
  go_wp2_with (first
    | (refine wpList_load_row rfl 132 _ rfl S rfl 132 (tabA E) (0, 0) _ (BlkT.lay c1 E) Try.underlying132 rfl (size_tab E) ?_)
    | (refine wpList_load_row rfl 132 _ rfl S rfl 132 (tabA E) (0, 0) _ c2 Try.underlying132 rfl (size_tab E) ?_)
    | (refine wpList_store_row rfl 132 _ _ rfl S (tabA E) rfl rfl 132 (tabA zeroT) c1 (size_tab E) rfl (tabA_one E) ?_)
    | (refine wpList_store_row rfl 132 _ _ rfl (S + 1) (tabA E) rfl rfl 132 (tabA zeroT) c3 (size_tab E) rfl (tabA_one E) ?_))
  clear c1 c2 c3 s1 s2 s3 s4 hW1 hW2 hW3 hW4 hW5 hS
  have HBD : Hid (∀ i j, -1 ≤ E i j ∧ E i j ≤ 1) := fun i j => by rw [← HE.out]; exact Cs.start_le l i j
  go_loopw [11] (fun _ wr => ∃ k : Nat, k ≤ 6 ∧ Hid (LongW w S E (Cs.ways E k) k wr) ∧ Hid (∀ m, m < k → ¬ Cs.Same (Cs.ways E (m + 1)) (Cs.ways E m))) (fun _ wr => 7 - (intOf ((wr.cell? ⟨S + 2, 0, none⟩).getD undef)).toNat)
  case atStart => exact ⟨0, by omega, HX0.out, fun m hm => absurd hm (by omega)⟩
  case round =>
    clear HX0
    obtain ⟨k, hk, HX, HNO⟩ := hrel
    have HC0 : Hid (wr.cell? ⟨S + 2, 0, none⟩ = some (.int .i64 (k : Int))) := HX.out.b3.cell 0
    go_wp2_with fail
    refine (count_any (S + 2) k wr (HX.out.b3.cell 0) (HX.out.b3.thawed 0) (by omega) (by omega)).mono ?_
    rintro e W1 ⟨rfl, hW1⟩
    have HX1 : Hid (LongW w S E (Cs.ways E k) (k + 1) W1) := by show LongW _ _ _ _ _ _; rw [hW1]; exact HX.out.count hSw
    clear hW1 HX
    by_cases hk6 : k < 6
    · have t1 : (k : Int) + 1 ≤ 6 := by omega
      have b1 := HX1.out.b1
      have b2 := HX1.out.b2
      obtain ⟨T, hT⟩ : ∃ T, Cs.ways E k = T := ⟨_, rfl⟩
      have HT := Lib.hid hT
      rw [hT] at b2 HX1
      clear hT
      go_wp2_with (first
        | (refine wpList_load_row rfl 132 _ rfl S rfl 132 (tabA E) (0, 0) _ b1 Try.underlying132 rfl (size_tab E) ?_)
        | (refine wpList_load_row rfl 132 _ rfl (S + 1) rfl 132 (tabA T) (0, 0) _ b2 Try.underlying132 rfl (size_tab T) ?_))
      refine (ext_any W1 T E (fun i j => ?_) (fun i j => ?_)).mono ?_
      · have := Cs.ways_bd HBD.out k i j
        rw [HT.out] at this
        omega
      · have := HBD.out i j
        omega
      rintro e W2 ⟨rfl, hb2⟩
      obtain ⟨N, hN⟩ : ∃ N, Cs.ext T E = N := ⟨_, rfl⟩
      have HN : Hid (Cs.ways E (k + 1) = N) := by show Cs.ext (Cs.ways E k) E = N; rw [HT.out]; exact hN
      rw [hN]
      have HX2 := Lib.hid (HX1.out.later hb2)
      clear hN hb2 b1 b2 HX1
      obtain ⟨S2, hS2⟩ : ∃ S2, W2.heap.size = S2 := ⟨_, rfl⟩
      have hS3 : S + 2 < S2 := by rw [← hS2]; exact HX2.out.b3.lt
      obtain ⟨W3, hW3⟩ : ∃ W, W2.alloc (.cells (tabA zeroT) 132) = W := ⟨_, rfl⟩
      have c3 : Blk W3 S2 132 (tabA zeroT) := by rw [← hW3, ← hS2]; exact Blk.made _ _ _
      have HX3 : Hid (LongW w S E T (k + 1) W3) := by show LongW _ _ _ _ _ _; rw [← hW3]; exact HX2.out.later ((Below.refl _ _).alloc (Nat.le_refl _) _)
      have c4 := BlkT.lay c3 N
      have r4 : Wrote S2 W3 (W3.setRow S2 (tabA N)) := Wrote.row _ _ _
      have HX4 : Hid (LongW w S E T (k + 1) (W3.setRow S2 (tabA N))) := ⟨r4.blk HX3.out.b0 (by omega), r4.blk HX3.out.b1 (by omega), r4.blk HX3.out.b2 (by omega), r4.blk HX3.out.b3 (by omega), r4.below HX3.out.bel HX3.out.bel.size (by omega)⟩
      have c5 := HX4.out.b2
      have heq := equal_tab N T
      clear HX2 HX3 r4
      cases hs : sameB N T with
      | true =>
        have HS := Lib.hid hs
        have c0 := HX4.out.b0
        have HF : Hid (Cs.Same (Cs.ways (Cs.start l) (k + 1)) (Cs.ways (Cs.start l) k)) := by
          show Cs.Same _ _
          rw [HE.out, HN.out, HT.out]
          exact (sameB_iff N T).1 hs
        rw [hs] at heq
        clear hs
        have HR : Hid (tabA T = tabA (longT l)) := by
          show tabA T = tabA (longT l)
          rw [longT_yes (Cs.fix_flat HF.out), ← HT.out, ← HE.out]
          exact tabA_same.2 (Cs.fix_tab HF.out)
        have HFL := Lib.hid (Cs.fix_flat HF.out)
        have HB6 : Hid (Below w.heap.size w ((W3.setRow S2 (tabA N)).setRow w.heap.size (tabA T))) := (Wrote.row _ _ _).below HX4.out.bel HX4.out.bel.size (Nat.le_refl _)
        have HB7 : Hid (Blk ((W3.setRow S2 (tabA N)).setRow w.heap.size (tabA T)) w.heap.size 132 (tabA T)) := BlkT.lay c0 _
        go_wp2_with (first
          | (refine wpList_load_row rfl 132 _ rfl S2 rfl 132 (tabA N) (0, 0) _ c4 Try.underlying132 rfl (size_tab N) ?_)
          | (refine wpList_load_row rfl 132 _ rfl (S + 1) rfl 132 (tabA T) (0, 0) _ c5 Try.underlying132 rfl (size_tab T) ?_)
          | (refine wpList_store_row rfl 132 _ _ rfl S2 (tabA N) rfl rfl 132 (tabA zeroT) c3 (size_tab N) rfl (tabA_one N) ?_)
          | (refine wpList_store_row rfl 132 _ _ rfl w.heap.size (tabA T) rfl rfl 132 (tabA zeroT) c0 (size_tab T) rfl (tabA_one T) ?_))
        refine bodyPost_ret (results_cell_tmp2 (p := 2) (q := 3) rfl _ _ w.heap.size 132 (tabA T) (0, 0) _ rfl HB7.out Try.underlying132 rfl (size_tab _)) rfl ⟨?_, HB6.out⟩
        show Ending.returned (.tuple #[tabV T, .bool true]) = _
        rw [HFL.out, show tabV T = tabV (longT l) from congrArg Value.agg HR.out]
      | false =>
        have HNO2 : Hid (∀ m, m < k + 1 → ¬ Cs.Same (Cs.ways E (m + 1)) (Cs.ways E m)) := fun m hm => by
          by_cases e : m = k
          · subst e
            rw [HN.out, HT.out]
            intro h
            rw [(sameB_iff N T).2 h] at hs
            cases hs
          · exact HNO.out m (by omega)
        rw [hs] at heq
        clear hs
        have r6 : Wrote (S + 1) (W3.setRow S2 (tabA N)) ((W3.setRow S2 (tabA N)).setRow (S + 1) (tabA N)) := Wrote.row _ _ _
        have HX6 : Hid (LongW w S E (Cs.ways E (k + 1)) (k + 1) ((W3.setRow S2 (tabA N)).setRow (S + 1) (tabA N))) := by
          show LongW _ _ _ _ _ _
          rw [HN.out]
          exact ⟨r6.blk HX4.out.b0 (by omega), r6.blk HX4.out.b1 (by omega), BlkT.lay HX4.out.b2 N, r6.blk HX4.out.b3 (by omega), r6.below HX4.out.bel HX4.out.bel.size (by omega)⟩
        have HC6 : Hid (((W3.setRow S2 (tabA N)).setRow (S + 1) (tabA N)).cell? ⟨S + 2, 0, none⟩ = some (.int .i64 ((k + 1 : Nat) : Int))) := HX6.out.b3.cell 0
        clear r6
        go_wp2_with (first
          | (refine wpList_load_row rfl 132 _ rfl S2 rfl 132 (tabA N) (0, 0) _ c4 Try.underlying132 rfl (size_tab N) ?_)
          | (refine wpList_load_row rfl 132 _ rfl (S + 1) rfl 132 (tabA T) (0, 0) _ c5 Try.underlying132 rfl (size_tab T) ?_)
          | (refine wpList_store_row rfl 132 _ _ rfl S2 (tabA N) rfl rfl 132 (tabA zeroT) c3 (size_tab N) rfl (tabA_one N) ?_)
          | (refine wpList_store_row rfl 132 _ _ rfl (S + 1) (tabA N) rfl rfl 132 (tabA T) c5 (size_tab N) rfl (tabA_one N) ?_))
        refine ⟨⟨_, _, _, _, _, _, _, _, _, _, _, _, ⟨k + 1, by omega, HX6.out, HNO2.out⟩, rfl⟩, ?_⟩
        rw [HC6.out, HC0.out]
        simp [intOf]
        omega
    · have t1 : ¬ (k : Int) + 1 ≤ 6 := by omega
      have HF : Hid (Cs.flat l = false) := by
        show Cs.flat l = false
        rw [Bool.eq_false_iff]
        intro h
        have h1 := Cs.ways_stay HOK.out h
        rw [HE.out] at h1
        exact HNO.out 5 (by omega) h1
      have c0 := HX1.out.b0
      have HB6 : Hid (Below w.heap.size w (W1.setRow w.heap.size (tabA zeroT))) := (Wrote.row _ _ _).below HX1.out.bel HX1.out.bel.size (Nat.le_refl _)
      have HB7 : Hid (Blk (W1.setRow w.heap.size (tabA zeroT)) w.heap.size 132 (tabA zeroT)) := BlkT.lay c0 _
      have hbd : ∀ wx, (Instr.build 132 #[]).run Try.prog wx = .ok (tabV zeroT) wx := fun _ => by kernel_rfl
      go_wp2_with (refine wpList_store_row rfl 132 _ _ rfl w.heap.size (tabA zeroT) rfl rfl 132 (tabA zeroT) c0 (size_tab zeroT) rfl (tabA_one zeroT) ?_)
      refine bodyPost_ret (results_cell_tmp2 (p := 2) (q := 3) rfl _ _ w.heap.size 132 (tabA zeroT) (0, 0) _ rfl HB7.out Try.underlying132 rfl (size_tab _)) rfl ⟨?_, HB6.out⟩
      show Ending.returned (.tuple #[tabV zeroT, .bool false]) = _
      rw [HF.out, longT_no HF.out]
end Go.Proofs.Ytfmhmnpmdjpmeaa

namespace Go.Proofs.Ytfmhmnpmdjpmeaa
open Go.RowKit
open Cs (Cn)

set_option maxHeartbeats 400000 in
theorem parOk_any (w : World) (p : Int) : Calls Try.prog 78 #[.int .i64 p] w fun e w' => e = .returned (.bool (decide (0 ≤ p) && decide (p < 5))) ∧ w' = w := by
  by_cases h1 : 0 ≤ p
  · have HF : Hid ((decide (0 ≤ p) && decide (p < 5)) = decide (p < 5)) := by show _ = _; simp [h1]
    have d1 : decide (0 ≤ p) = true := decide_eq_true h1
    go_enter Try.func78, Try.ntmps78
    go_wp2
    go_ret
    exact ⟨by rw [HF.out]; rfl, rfl⟩
  · have d1 : decide (0 ≤ p) = false := decide_eq_false h1
    go_enter Try.func78, Try.ntmps78
    go_wp2
    go_ret
    exact ⟨rfl, rfl⟩
set_option maxHeartbeats 400000 in
theorem sideOk_any (w : World) (p : Int) : Calls Try.prog 107 #[.int .i64 p] w fun e w' => e = .returned (.bool (nodeR p)) ∧ w' = w := by
  by_cases h1 : p = -1
  · subst h1
    go_enter Try.func107, Try.ntmps107
    go_wp2
    go_ret
    exact ⟨rfl, rfl⟩
  · have HF : Hid (nodeR p = (decide (0 ≤ p) && decide (p < 5))) := by
      show _ = _
      rw [Bool.eq_iff_iff]
      simp [nodeR]
      omega
    have d1 : (p == -1) = false := by simpa using h1
    go_enter Try.func107, Try.ntmps107
    go_wp2_with fail
    refine (parOk_any w p).mono ?_
    rintro e w1 ⟨rfl, rfl⟩
    rw [← HF.out]
    go_wp2
    go_ret
    exact ⟨rfl, rfl⟩

set_option maxRecDepth 100000 in
set_option maxHeartbeats 1600000 in
theorem implConOk_any (w : World) (U R V : Int) : Calls Try.prog 98 #[.agg #[.int .i64 U, .int .i64 R, .int .i64 V]] w fun e w' => e = .returned (.bool (Cs.cOk (U, R, V))) ∧ Below w.heap.size w w' := by
  have HB : Hid (Below w.heap.size w (w.alloc (.cells #[.int .i64 U, .int .i64 R, .int .i64 V] 78))) := (Below.refl _ _).alloc (Nat.le_refl _) _
  have HC := Lib.hid (cOk_parts U R V)
  cases h1 : nodeR U with
  | false =>
    have HF : Hid (Cs.cOk (U, R, V) = false) := by show _ = _; rw [HC.out, h1]; rfl
    have H1 := Lib.hid h1
    clear h1 HC
    go_enter Try.func98, Try.ntmps98
    go_wp2_with fail
    refine (sideOk_any _ U).mono ?_
    rintro e w1 ⟨rfl, rfl⟩
    rw [H1.out]
    go_wp2
    go_ret
    exact ⟨by rw [HF.out]; rfl, HB.out⟩
  | true =>
    have H1 := Lib.hid h1
    cases h2 : nodeR V with
    | false =>
      have HF : Hid (Cs.cOk (U, R, V) = false) := by show _ = _; rw [HC.out, h1, h2]; rfl
      have H2 := Lib.hid h2
      clear h1 h2 HC
      go_enter Try.func98, Try.ntmps98
      go_wp2_with fail
      refine (sideOk_any _ U).mono ?_
      rintro e w1 ⟨rfl, rfl⟩
      rw [H1.out]
      go_wp2_with fail
      refine (sideOk_any _ V).mono ?_
      rintro e w1 ⟨rfl, rfl⟩
      rw [H2.out]
      go_wp2
      go_ret
      exact ⟨by rw [HF.out]; rfl, HB.out⟩
    | true =>
      have H2 := Lib.hid h2
      have HF : Hid (Cs.cOk (U, R, V) = (decide (0 ≤ R) && decide (R ≤ 2))) := by show _ = _; rw [HC.out, h1, h2]; rfl
      clear h1 h2 HC
      by_cases h3 : 0 ≤ R
      · have HG : Hid (Cs.cOk (U, R, V) = decide (R ≤ 2)) := by show _ = _; rw [HF.out, decide_eq_true h3]; rfl
        have d3 : decide (0 ≤ R) = true := decide_eq_true h3
        go_enter Try.func98, Try.ntmps98
        go_wp2_with fail
        refine (sideOk_any _ U).mono ?_
        rintro e w1 ⟨rfl, rfl⟩
        rw [H1.out]
        go_wp2_with fail
        refine (sideOk_any _ V).mono ?_
        rintro e w1 ⟨rfl, rfl⟩
        rw [H2.out]
        go_wp2
        go_ret
        exact ⟨by rw [HG.out]; rfl, HB.out⟩
      · have HG : Hid (Cs.cOk (U, R, V) = false) := by show _ = _; rw [HF.out]; simp [h3]
        have d3 : decide (0 ≤ R) = false := decide_eq_false h3
        go_enter Try.func98, Try.ntmps98
        go_wp2_with fail
        refine (sideOk_any _ U).mono ?_
        rintro e w1 ⟨rfl, rfl⟩
        rw [H1.out]
        go_wp2_with fail
        refine (sideOk_any _ V).mono ?_
        rintro e w1 ⟨rfl, rfl⟩
        rw [H2.out]
        go_wp2
        go_ret
        exact ⟨by rw [HG.out]; rfl, HB.out⟩

theorem consOkR_long {l : List Cn} (h : ¬ l.length ≤ 24) : consOkR l = false := by
  cases e : consOkR l with
  | false => rfl
  | true => exact absurd (consOkR_ok e).2 h
theorem consOkR_bad {l : List Cn} {k : Nat} {t : Cn} (hk : k < l.length) (ht : l.getD k (0, 0, 0) = t) (h : Cs.cOk t = false) : consOkR l = false := by
  cases e : consOkR l with
  | false => rfl
  | true =>
    have := (consOkR_ok e).1 (l.getD k (0, 0, 0)) (by rw [List.getD_eq_getElem?_getD, List.getElem?_eq_getElem hk]; exact List.getElem_mem _)
    rw [ht, h] at this
    cases this
theorem consOkR_all {l : List Cn} (hl : l.length ≤ 24) (h : ∀ j, j < l.length → Cs.cOk (l.getD j (0, 0, 0)) = true) : consOkR l = true := by
  simp only [consOkR, Bool.and_eq_true, List.all_eq_true, decide_eq_true_eq]
  refine ⟨fun c hc => ?_, hl⟩
  obtain ⟨j, hj, rfl⟩ := List.getElem_of_mem hc
  have := h j hj
  rw [List.getD_eq_getElem?_getD, List.getElem?_eq_getElem hj] at this
  exact this
set_option maxRecDepth 100000 in
set_option maxHeartbeats 1600000 in
theorem implConsOk_any (w : World) (B : Nat) (A : Option Addr) (n c : Nat) (l : List Cn) (hB : B ≤ w.heap.size) (hl : ConR w B A n l) (hn : (n : Int) ≤ 140737488355328) :
    Calls Try.prog 82 #[.slice A n c] w fun e w' => e = .returned (.bool (consOkR l)) ∧ Below w.heap.size w w' := by
  by_cases h24 : n ≤ 24
  · have h24i : ¬ (24 : Int) < (n : Int) := by omega
    go_enter Try.func82, Try.ntmps82
    go_wp2
    go_loopw [10] (fun i wr => ∃ k : Nat, k ≤ n ∧ i = .int .i64 k ∧ Hid (∀ j, j < k → Cs.cOk (l.getD j (0, 0, 0)) = true) ∧ Hid (Below w.heap.size w wr)) (fun i _ => n - (intOf i).toNat)
    case atStart => exact ⟨0, Nat.zero_le _, rfl, (fun j hj => absurd hj (by omega)), Below.refl _ _⟩
    case round =>
      obtain ⟨k, hk, rfl, HA, HBR⟩ := hrel
      have hszr := HBR.out.size
      by_cases hlt : k < n
      · have hki : (k : Int) < (n : Int) := by omega
        obtain ⟨b, off, hA, hb, hc⟩ := hl.2 (by omega)
        obtain ⟨x1, x2, x3⟩ := hc k hlt
        have HL := Lib.hid hl.1
        obtain ⟨t, ht⟩ : ∃ t, l.getD k (0, 0, 0) = t := ⟨_, rfl⟩
        rw [ht] at x1 x2 x3
        obtain ⟨U, R, V⟩ := t
        have HT := Lib.hid ht
        subst hA
        have k1 := (HBR.out.cell (p := ⟨b, off + k * 3, none⟩) (by show b < _; omega)).trans x1
        have k2 := (HBR.out.cell (p := ⟨b, off + k * 3 + 1, none⟩) (by show b < _; omega)).trans x2
        have k3 := (HBR.out.cell (p := ⟨b, off + k * 3 + 2, none⟩) (by show b < _; omega)).trans x3
        obtain ⟨W1, hW1⟩ : ∃ W1, wr.alloc (.cells #[.int .i64 U, .int .i64 R, .int .i64 V] 78) = W1 := ⟨_, rfl⟩
        have hb1 : Below wr.heap.size wr W1 := by rw [← hW1]; exact (Below.refl _ _).alloc (Nat.le_refl _) _
        have hbx : Blk W1 wr.heap.size 78 #[.int .i64 U, .int .i64 R, .int .i64 V] := by rw [← hW1]; exact Blk.made _ _ _
        have y0 : W1.cell? ⟨wr.heap.size, 0, none⟩ = some (.int .i64 U) := hbx.cell 0
        have y1 : W1.cell? ⟨wr.heap.size, 1, none⟩ = some (.int .i64 R) := hbx.cell 1
        have y2 : W1.cell? ⟨wr.heap.size, 2, none⟩ = some (.int .i64 V) := hbx.cell 2
        have HB1 := Lib.hid (HBR.out.trans (hb1.mono hszr))
        clear hc ht x1 x2 x3 hl hbx hb1
        go_wp2_with fail
        refine (implConOk_any W1 U R V).mono ?_
        rintro e w2 ⟨rfl, hb2⟩
        have HB2 := Lib.hid (HB1.out.trans (hb2.mono HB1.out.size))
        clear hb2
        cases hok : Cs.cOk (U, R, V) with
        | true =>
          have HA2 : Hid (∀ j, j < k + 1 → Cs.cOk (l.getD j (0, 0, 0)) = true) := fun j hj => by
            by_cases e : j = k
            · subst e; rw [HT.out]; exact hok
            · exact HA.out j (by omega)
          clear hok
          go_wp2
          go_roundw
          case rel => exact ⟨k + 1, by omega, by go_num, HA2.out, HB2.out⟩
          case measure => simp [intOf]; omega
        | false =>
          have HF := Lib.hid (consOkR_bad (by rw [HL.out]; exact hlt) HT.out hok)
          clear hok
          go_wp2
          go_ret
          exact ⟨by rw [HF.out]; rfl, HB2.out⟩
      · obtain rfl : k = n := by omega
        have hkk : ¬ (k : Int) < (k : Int) := by omega
        have HF := Lib.hid (consOkR_all (l := l) (by rw [hl.1]; exact h24) (fun j hj => HA.out j (by rw [← hl.1]; exact hj)))
        clear hl
        go_wp2
        go_ret
        exact ⟨by rw [HF.out]; rfl, HBR.out⟩
  · have h24i : (24 : Int) < (n : Int) := by omega
    have HF := Lib.hid (consOkR_long (l := l) (by rw [hl.1]; exact h24))
    clear hl
    go_enter Try.func82, Try.ntmps82
    go_wp2
    go_ret
    exact ⟨by rw [HF.out]; rfl, Below.refl _ _⟩
end Go.Proofs.Ytfmhmnpmdjpmeaa

namespace Go.Proofs.Ytfmhmnpmdjpmeaa
open Go.RowKit
open Cs (Cn Tb)

set_option maxRecDepth 100000 in
set_option maxHeartbeats 1600000 in
theorem satisfiable_any (w : World) (B : Nat) (A : Option Addr) (n c : Nat) (l : List Cn) (hB : B ≤ w.heap.size) (hl : ConR w B A n l) (hok : Cs.ok l) (hn : n ≤ 1000) :
    Calls Try.prog 83 #[.slice A n c] w fun e w' => e = .returned (.bool (Cs.flat l)) ∧ Below w.heap.size w w' := by
  have hz := zeros_tab
  have HOK := Lib.hid hok
  have HL := Lib.hid hl
  clear hok hl
  go_enter Try.func83, Try.ntmps83
  go_wp2_with fail
  refine (longestPaths_any w B A n c l hB HL.out HOK.out hn).mono ?_
  rintro e w1 ⟨rfl, hb1⟩
  obtain ⟨T, hT⟩ : ∃ T, longT l = T := ⟨_, rfl⟩
  rw [hT]
  clear hT
  obtain ⟨W1, hW1⟩ : ∃ W, w1.alloc (.cells (tabA zeroT) 132) = W := ⟨_, rfl⟩
  have c1 : Blk W1 w1.heap.size 132 (tabA zeroT) := by rw [← hW1]; exact Blk.made _ _ _
  have HB1 : Hid (Below w.heap.size w (W1.setRow w1.heap.size (tabA T))) := by
    have q1 : Below w1.heap.size w1 W1 := by rw [← hW1]; exact (Below.refl _ _).alloc (Nat.le_refl _) _
    have := q1.size
    have := hb1.size
    exact (Wrote.row _ _ _).below (hb1.trans (q1.mono (by omega))) (by omega) (by omega)
  clear hb1
  go_wp2_with (refine wpList_store_row rfl 132 _ _ rfl w1.heap.size (tabA T) rfl rfl 132 (tabA zeroT) c1 (size_tab T) rfl (tabA_one T) ?_)
  go_ret
  exact ⟨rfl, HB1.out⟩

set_option maxRecDepth 100000 in
set_option maxHeartbeats 1600000 in
theorem implConsSat_any (w : World) (B : Nat) (A : Option Addr) (n c : Nat) (l : List Cn) (hB : B ≤ w.heap.size) (hl : ConR w B A n l) (hn : (n : Int) ≤ 140737488355328) :
    Calls Try.prog 67 #[.slice A n c] w fun e w' => e = .returned (.bool (satR l)) ∧ Below w.heap.size w w' := by
  have HL := Lib.hid hl
  clear hl
  go_enter Try.func67, Try.ntmps67
  go_wp2_with fail
  refine (implConsOk_any w B A n c l hB HL.out hn).mono ?_
  rintro e w1 ⟨rfl, hb1⟩
  have HB1 := Lib.hid hb1
  have hs1 := hb1.size
  clear hb1
  cases hc : consOkR l with
  | false =>
    have HF := Lib.hid (satR_no hc)
    clear hc
    go_wp2
    go_ret
    exact ⟨by rw [HF.out]; rfl, HB1.out⟩
  | true =>
    have HF := Lib.hid (satR_ok hc)
    have HP := Lib.hid (consOk_parts hc)
    clear hc
    go_wp2_with fail
    refine (satisfiable_any w1 B A n c l (Nat.le_trans hB hs1) (HL.out.below (HB1.out.mono hB)) HP.out.1 (by rw [← HL.out.1]; exact HP.out.2)).mono ?_
    rintro e w2 ⟨rfl, hb2⟩
    have HB2 := Lib.hid (HB1.out.trans (hb2.mono hs1))
    clear hb2
    rw [← HF.out]
    go_wp2
    go_ret
    exact ⟨rfl, HB2.out⟩

end Go.Proofs.Ytfmhmnpmdjpmeaa
