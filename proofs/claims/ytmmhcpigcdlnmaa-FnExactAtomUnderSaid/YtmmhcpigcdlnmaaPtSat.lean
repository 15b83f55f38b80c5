/- Constraints of the program: sideOk, ConOk, ConsOk. -/
/- Constraints of the program: satisfiable, ConsSat, pathsOf, ConsFar. -/
import Derived.Test.YtmmhcpigcdlnmaaCoOk
import Derived.Test.YtmmhcpigcdlnmaaPtLong
import Derived.Test.YtmmhcpigcdlnmaaCoImp

namespace Go.Proofs.Ytmmhcpigcdlnmaa
open Go.RowKit
open Cs (Cn)

set_option maxHeartbeats 400000 in
theorem parOk_any (w : World) (p : Int) : Calls Try.prog 91 #[.int .i64 p] w fun e w' => e = .returned (.bool (decide (0 ≤ p) && decide (p < 5))) ∧ w' = w := by
  by_cases h1 : 0 ≤ p
  · have HF : Hid ((decide (0 ≤ p) && decide (p < 5)) = decide (p < 5)) := by show _ = _; simp [h1]
    have d1 : decide (0 ≤ p) = true := decide_eq_true h1
    go_enter Try.func91, Try.ntmps91
    go_wp2
    go_ret
    exact ⟨by rw [HF.out]; rfl, rfl⟩
  · have d1 : decide (0 ≤ p) = false := decide_eq_false h1
    go_enter Try.func91, Try.ntmps91
    go_wp2
    go_ret
    exact ⟨rfl, rfl⟩
set_option maxHeartbeats 400000 in
theorem sideOk_any (w : World) (p : Int) : Calls Try.prog 66 #[.int .i64 p] w fun e w' => e = .returned (.bool (nodeR p)) ∧ w' = w := by
  by_cases h1 : p = -1
  · subst h1
    go_enter Try.func66, Try.ntmps66
    go_wp2
    go_ret
    exact ⟨rfl, rfl⟩
  · have HF : Hid (nodeR p = (decide (0 ≤ p) && decide (p < 5))) := by
      show _ = _
      rw [Bool.eq_iff_iff]
      simp [nodeR]
      omega
    have d1 : (p == -1) = false := by simpa using h1
    go_enter Try.func66, Try.ntmps66
    go_wp2_with fail
    refine (parOk_any w p).mono ?_
    rintro e w1 ⟨rfl, rfl⟩
    rw [← HF.out]
    go_wp2
    go_ret
    exact ⟨rfl, rfl⟩

set_option maxRecDepth 100000 in
set_option maxHeartbeats 1600000 in
theorem implConOk_any (w : World) (U R V : Int) : Calls Try.prog 69 #[.agg #[.int .i64 U, .int .i64 R, .int .i64 V]] w fun e w' => e = .returned (.bool (Cs.cOk (U, R, V))) ∧ Below w.heap.size w w' := by
  have HB : Hid (Below w.heap.size w (w.alloc (.cells #[.int .i64 U, .int .i64 R, .int .i64 V] 34))) := (Below.refl _ _).alloc (Nat.le_refl _) _
  have HC := Lib.hid (cOk_parts U R V)
  cases h1 : nodeR U with
  | false =>
    have HF : Hid (Cs.cOk (U, R, V) = false) := by show _ = _; rw [HC.out, h1]; rfl
    have H1 := Lib.hid h1
    clear h1 HC
    go_enter Try.func69, Try.ntmps69
    go_wp2_with fail
    refine (sideOk_any _ U).mono ?_
    rintro e w1 ⟨rfl, rfl⟩
    rw [H1.out]
    go_wp2
    go_ret
    exact ⟨by rw [HF.out]; rfl, HB.out⟩
  | true =>
    have H1 := Lib.hid h1
    cases h2 : nodeR V with
    | false =>
      have HF : Hid (Cs.cOk (U, R, V) = false) := by show _ = _; rw [HC.out, h1, h2]; rfl
      have H2 := Lib.hid h2
      clear h1 h2 HC
      go_enter Try.func69, Try.ntmps69
      go_wp2_with fail
      refine (sideOk_any _ U).mono ?_
      rintro e w1 ⟨rfl, rfl⟩
      rw [H1.out]
      go_wp2_with fail
      refine (sideOk_any _ V).mono ?_
      rintro e w1 ⟨rfl, rfl⟩
      rw [H2.out]
      go_wp2
      go_ret
      exact ⟨by rw [HF.out]; rfl, HB.out⟩
    | true =>
      have H2 := Lib.hid h2
      have HF : Hid (Cs.cOk (U, R, V) = (decide (0 ≤ R) && decide (R ≤ 2))) := by show _ = _; rw [HC.out, h1, h2]; rfl
      clear h1 h2 HC
      by_cases h3 : 0 ≤ R
      · have HG : Hid (Cs.cOk (U, R, V) = decide (R ≤ 2)) := by show _ = _; rw [HF.out, decide_eq_true h3]; rfl
        have d3 : decide (0 ≤ R) = true := decide_eq_true h3
        go_enter Try.func69, Try.ntmps69
        go_wp2_with fail
        refine (sideOk_any _ U).mono ?_
        rintro e w1 ⟨rfl, rfl⟩
        rw [H1.out]
        go_wp2_with fail
        refine (sideOk_any _ V).mono ?_
        rintro e w1 ⟨rfl, rfl⟩
        rw [H2.out]
        go_wp2
        go_ret
        exact ⟨by rw [HG.out]; rfl, HB.out⟩
      · have HG : Hid (Cs.cOk (U, R, V) = false) := by show _ = _; rw [HF.out]; simp [h3]
        have d3 : decide (0 ≤ R) = false := decide_eq_false h3
        go_enter Try.func69, Try.ntmps69
        go_wp2_with fail
        refine (sideOk_any _ U).mono ?_
        rintro e w1 ⟨rfl, rfl⟩
        rw [H1.out]
        go_wp2_with fail
        refine (sideOk_any _ V).mono ?_
        rintro e w1 ⟨rfl, rfl⟩
        rw [H2.out]
        go_wp2
        go_ret
        exact ⟨by rw [HG.out]; rfl, HB.out⟩

theorem consOkR_long {l : List Cn} (h : ¬ l.length ≤ 24) : consOkR l = false := by
  cases e : consOkR l with
  | false => rfl
  | true => exact absurd (consOkR_ok e).2 h
theorem consOkR_bad {l : List Cn} {k : Nat} {t : Cn} (hk : k < l.length) (ht : l.getD k (0, 0, 0) = t) (h : Cs.cOk t = false) : consOkR l = false := by
  cases e : consOkR l with
  | false => rfl
  | true =>
    have := (consOkR_ok e).1 (l.getD k (0, 0, 0)) (by rw [List.getD_eq_getElem?_getD, List.getElem?_eq_getElem hk]; exact List.getElem_mem _)
    rw [ht, h] at this
    cases this
theorem consOkR_all {l : List Cn} (hl : l.length ≤ 24) (h : ∀ j, j < l.length → Cs.cOk (l.getD j (0, 0, 0)) = true) : consOkR l = true := by
  simp only [consOkR, Bool.and_eq_true, List.all_eq_true, decide_eq_true_eq]
  refine ⟨fun c hc => ?_, hl⟩
  obtain ⟨j, hj, rfl⟩ := List.getElem_of_mem hc
  have := h j hj
  rw [List.getD_eq_getElem?_getD, List.getElem?_eq_getElem hj] at this
  exact this
set_option maxRecDepth 100000 in
set_option maxHeartbeats 1600000 in
theorem implConsOk_any (w : World) (B : Nat) (A : Option Addr) (n c : Nat) (l : List Cn) (hB : B ≤ w.heap.size) (hl : ConR w B A n l) (hn : (n : Int) ≤ 140737488355328) :
    Calls Try.prog 56 #[.slice A n c] w fun e w' => e = .returned (.bool (consOkR l)) ∧ Below w.heap.size w w' := by
  by_cases h24 : n ≤ 24
  · have h24i : ¬ (24 : Int) < (n : Int) := by omega
    go_enter Try.func56, Try.ntmps56
    go_wp2
    go_loopw [10] (fun i wr => ∃ k : Nat, k ≤ n ∧ i = .int .i64 k ∧ Hid (∀ j, j < k → Cs.cOk (l.getD j (0, 0, 0)) = true) ∧ Hid (Below w.heap.size w wr)) (fun i _ => n - (intOf i).toNat)
    case atStart => exact ⟨0, Nat.zero_le _, rfl, (fun j hj => absurd hj (by omega)), Below.refl _ _⟩
    case round =>
      obtain ⟨k, hk, rfl, HA, HBR⟩ := hrel
      have hszr := HBR.out.size
      by_cases hlt : k < n
      · have hki : (k : Int) < (n : Int) := by omega
        obtain ⟨b, off, hA, hb, hc⟩ := hl.2 (by omega)
        obtain ⟨x1, x2, x3⟩ := hc k hlt
        have HL := Lib.hid hl.1
        obtain ⟨t, ht⟩ : ∃ t, l.getD k (0, 0, 0) = t := ⟨_, rfl⟩
        rw [ht] at x1 x2 x3
        obtain ⟨U, R, V⟩ := t
        have HT := Lib.hid ht
        subst hA
        have k1 := (HBR.out.cell (p := ⟨b, off + k * 3, none⟩) (by show b < _; omega)).trans x1
        have k2 := (HBR.out.cell (p := ⟨b, off + k * 3 + 1, none⟩) (by show b < _; omega)).trans x2
        have k3 := (HBR.out.cell (p := ⟨b, off + k * 3 + 2, none⟩) (by show b < _; omega)).trans x3
        obtain ⟨W1, hW1⟩ : ∃ W1, wr.alloc (.cells #[.int .i64 U, .int .i64 R, .int .i64 V] 34) = W1 := ⟨_, rfl⟩
        have hb1 : Below wr.heap.size wr W1 := by rw [← hW1]; exact (Below.refl _ _).alloc (Nat.le_refl _) _
        have hbx : Blk W1 wr.heap.size 34 #[.int .i64 U, .int .i64 R, .int .i64 V] := by rw [← hW1]; exact Blk.made _ _ _
        have y0 : W1.cell? ⟨wr.heap.size, 0, none⟩ = some (.int .i64 U) := hbx.cell 0
        have y1 : W1.cell? ⟨wr.heap.size, 1, none⟩ = some (.int .i64 R) := hbx.cell 1
        have y2 : W1.cell? ⟨wr.heap.size, 2, none⟩ = some (.int .i64 V) := hbx.cell 2
        have HB1 := Lib.hid (HBR.out.trans (hb1.mono hszr))
        clear hc ht x1 x2 x3 hl hbx hb1
        go_wp2_with fail
        refine (implConOk_any W1 U R V).mono ?_
        rintro e w2 ⟨rfl, hb2⟩
        have HB2 := Lib.hid (HB1.out.trans (hb2.mono HB1.out.size))
        clear hb2
        cases hok : Cs.cOk (U, R, V) with
        | true =>
          have HA2 : Hid (∀ j, j < k + 1 → Cs.cOk (l.getD j (0, 0, 0)) = true) := fun j hj => by
            by_cases e : j = k
            · subst e; rw [HT.out]; exact hok
            · exact HA.out j (by omega)
          clear hok
          go_wp2
          go_roundw
          case rel => exact ⟨k + 1, by omega, by go_num, HA2.out, HB2.out⟩
          case measure => simp [intOf]; omega
        | false =>
          have HF := Lib.hid (consOkR_bad (by rw [HL.out]; exact hlt) HT.out hok)
          clear hok
          go_wp2
          go_ret
          exact ⟨by rw [HF.out]; rfl, HB2.out⟩
      · obtain rfl : k = n := by omega
        have hkk : ¬ (k : Int) < (k : Int) := by omega
        have HF := Lib.hid (consOkR_all (l := l) (by rw [hl.1]; exact h24) (fun j hj => HA.out j (by rw [← hl.1]; exact hj)))
        clear hl
        go_wp2
        go_ret
        exact ⟨by rw [HF.out]; rfl, HBR.out⟩
  · have h24i : (24 : Int) < (n : Int) := by omega
    have HF := Lib.hid (consOkR_long (l := l) (by rw [hl.1]; exact h24))
    clear hl
    go_enter Try.func56, Try.ntmps56
    go_wp2
    go_ret
    exact ⟨by rw [HF.out]; rfl, Below.refl _ _⟩
end Go.Proofs.Ytmmhcpigcdlnmaa

namespace Go.Proofs.Ytmmhcpigcdlnmaa
open Go.RowKit
open Cs (Cn Tb)

set_option maxRecDepth 100000 in
set_option maxHeartbeats 1600000 in
theorem satisfiable_any (w : World) (B : Nat) (A : Option Addr) (n c : Nat) (l : List Cn) (hB : B ≤ w.heap.size) (hl : ConR w B A n l) (hok : Cs.ok l) (hn : n ≤ 1000) :
    Calls Try.prog 57 #[.slice A n c] w fun e w' => e = .returned (.bool (Cs.flat l)) ∧ Below w.heap.size w w' := by
  have hz := zeros_tab
  have HOK := Lib.hid hok
  have HL := Lib.hid hl
  clear hok hl
  go_enter Try.func57, Try.ntmps57
  go_wp2_with fail
  refine (longestPaths_any w B A n c l hB HL.out HOK.out hn).mono ?_
  rintro e w1 ⟨rfl, hb1⟩
  obtain ⟨T, hT⟩ : ∃ T, longT l = T := ⟨_, rfl⟩
  rw [hT]
  clear hT
  obtain ⟨W1, hW1⟩ : ∃ W, w1.alloc (.cells (tabA zeroT) 70) = W := ⟨_, rfl⟩
  have c1 : Blk W1 w1.heap.size 70 (tabA zeroT) := by rw [← hW1]; exact Blk.made _ _ _
  have HB1 : Hid (Below w.heap.size w (W1.setRow w1.heap.size (tabA T))) := by
    have q1 : Below w1.heap.size w1 W1 := by rw [← hW1]; exact (Below.refl _ _).alloc (Nat.le_refl _) _
    have := q1.size
    have := hb1.size
    exact (Wrote.row _ _ _).below (hb1.trans (q1.mono (by omega))) (by omega) (by omega)
  clear hb1
  go_wp2_with (refine wpList_store_row rfl 70 _ _ rfl w1.heap.size (tabA T) rfl rfl 70 (tabA zeroT) c1 (size_tab T) rfl (tabA_one T) ?_)
  go_ret
  exact ⟨rfl, HB1.out⟩

set_option maxRecDepth 100000 in
set_option maxHeartbeats 1600000 in
theorem implConsSat_any (w : World) (B : Nat) (A : Option Addr) (n c : Nat) (l : List Cn) (hB : B ≤ w.heap.size) (hl : ConR w B A n l) (hn : (n : Int) ≤ 140737488355328) :
    Calls Try.prog 16 #[.slice A n c] w fun e w' => e = .returned (.bool (satR l)) ∧ Below w.heap.size w w' := by
  have HL := Lib.hid hl
  clear hl
  go_enter Try.func16, Try.ntmps16
  go_wp2_with fail
  refine (implConsOk_any w B A n c l hB HL.out hn).mono ?_
  rintro e w1 ⟨rfl, hb1⟩
  have HB1 := Lib.hid hb1
  have hs1 := hb1.size
  clear hb1
  cases hc : consOkR l with
  | false =>
    have HF := Lib.hid (satR_no hc)
    clear hc
    go_wp2
    go_ret
    exact ⟨by rw [HF.out]; rfl, HB1.out⟩
  | true =>
    have HF := Lib.hid (satR_ok hc)
    have HP := Lib.hid (consOk_parts hc)
    clear hc
    go_wp2_with fail
    refine (satisfiable_any w1 B A n c l (Nat.le_trans hB hs1) (HL.out.below (HB1.out.mono hB)) HP.out.1 (by rw [← HL.out.1]; exact HP.out.2)).mono ?_
    rintro e w2 ⟨rfl, hb2⟩
    have HB2 := Lib.hid (HB1.out.trans (hb2.mono hs1))
    clear hb2
    rw [← HF.out]
    go_wp2
    go_ret
    exact ⟨rfl, HB2.out⟩

/-- the table that pathsOf gives back -/
def pathT (l : List Cn) : Tb := if satR l = true then Cs.tab l else zeroT
theorem pathT_yes {l : List Cn} (h : satR l = true) : pathT l = Cs.tab l := if_pos h
theorem pathT_long {l : List Cn} (h : consOkR l = true) : pathT l = longT l := by unfold pathT longT; rw [satR_ok h]
theorem pathT_no {l : List Cn} (h : consOkR l = false) : pathT l = zeroT := if_neg (by rw [satR_no h]; decide)
theorem build_tab (w : World) : (Instr.build 70 #[]).run Try.prog w = .ok (tabV zeroT) w := by kernel_rfl
set_option maxRecDepth 100000 in
set_option maxHeartbeats 1600000 in
theorem pathsOf_any (w : World) (B : Nat) (A : Option Addr) (n c : Nat) (l : List Cn) (hB : B ≤ w.heap.size) (hl : ConR w B A n l) (hn : (n : Int) ≤ 140737488355328) :
    Calls Try.prog 53 #[.slice A n c] w fun e w' => e = .returned (.tuple #[tabV (pathT l), .bool (satR l)]) ∧ Below w.heap.size w w' := by
  have hz := zeros_tab
  obtain ⟨W0, hW0⟩ : ∃ W, w.alloc (.cells (tabA zeroT) 70) = W := ⟨_, rfl⟩
  have hb0 : Below w.heap.size w W0 := by rw [← hW0]; exact (Below.refl _ _).alloc (Nat.le_refl _) _
  have hs0 : W0.heap.size = w.heap.size + 1 := by rw [← hW0]; simp
  have hk0 : Blk W0 w.heap.size 70 (tabA zeroT) := by rw [← hW0]; exact Blk.made _ _ _
  have HL := Lib.hid (hl.below (hb0.mono hB))
  have HB0 := Lib.hid hb0
  have HK0 := Lib.hid hk0
  clear hl hb0 hk0
  go_enter Try.func53, Try.ntmps53
  go_wp2_with fail
  refine (implConsOk_any W0 B A n c l (by omega) HL.out hn).mono ?_
  rintro e w1 ⟨rfl, hb1⟩
  have HB1 := Lib.hid (HB0.out.trans (hb1.mono (by omega)))
  have hs1 := hb1.size
  have HK1 := Lib.hid (Blk.below HK0.out hb1 (by omega))
  have HL1 := Lib.hid (HL.out.below (hb1.mono (by omega)))
  clear hb1 hW0
  cases hc : consOkR l with
  | false =>
    have HF := Lib.hid (satR_no hc)
    have HT := Lib.hid (pathT_no hc)
    clear hc
    have hbd := build_tab
    have c0 := HK1.out
    have HB6 : Hid (Below w.heap.size w (w1.setRow w.heap.size (tabA zeroT))) := (Wrote.row _ _ _).below HB1.out HB1.out.size (Nat.le_refl _)
    have HB7 : Hid (Blk (w1.setRow w.heap.size (tabA zeroT)) w.heap.size 70 (tabA zeroT)) := BlkT.lay c0 _
    go_wp2_with (refine wpList_store_row rfl 70 _ _ rfl w.heap.size (tabA zeroT) rfl rfl 70 (tabA zeroT) c0 (size_tab zeroT) rfl (tabA_one zeroT) ?_)
    refine bodyPost_ret (results_cell_tmp2 (p := 2) (q := 3) rfl _ _ w.heap.size 70 (tabA zeroT) (0, 0) _ rfl HB7.out Try.underlying70 rfl (size_tab _)) rfl ⟨?_, HB6.out⟩
    show Ending.returned (.tuple #[tabV zeroT, .bool false]) = _
    rw [HF.out, HT.out]
  | true =>
    have HF := Lib.hid (satR_ok hc)
    have HT := Lib.hid (pathT_long hc)
    have HP := Lib.hid (consOk_parts hc)
    clear hc
    go_wp2_with fail
    refine (longestPaths_any w1 B A n c l (by omega) HL1.out HP.out.1 (by rw [← HL1.out.1]; exact HP.out.2)).mono ?_
    rintro e w2 ⟨rfl, hb2⟩
    rw [← HT.out, ← HF.out]
    obtain ⟨T, hT⟩ : ∃ T, pathT l = T := ⟨_, rfl⟩
    have HT2 := Lib.hid hT
    rw [hT]
    have HB2 := Lib.hid (HB1.out.trans (hb2.mono (by omega)))
    have c0 := Blk.below HK1.out hb2 HK1.out.lt
    clear hb2 hT
    have HB6 : Hid (Below w.heap.size w (w2.setRow w.heap.size (tabA T))) := (Wrote.row _ _ _).below HB2.out HB2.out.size (Nat.le_refl _)
    have HB7 : Hid (Blk (w2.setRow w.heap.size (tabA T)) w.heap.size 70 (tabA T)) := BlkT.lay c0 _
    go_wp2_with (refine wpList_store_row rfl 70 _ _ rfl w.heap.size (tabA T) rfl rfl 70 (tabA zeroT) c0 (size_tab T) rfl (tabA_one T) ?_)
    refine bodyPost_ret (results_cell_tmp2 (p := 2) (q := 3) rfl _ _ w.heap.size 70 (tabA T) (0, 0) _ rfl HB7.out Try.underlying70 rfl (size_tab _)) rfl ⟨?_, HB6.out⟩
    show Ending.returned (.tuple #[tabV T, .bool (satR l)]) = _
    rw [HT2.out]

set_option maxRecDepth 100000 in
set_option maxHeartbeats 1600000 in
theorem implConsFar_any (w : World) (B : Nat) (A : Option Addr) (n c : Nat) (l : List Cn) (i j : Int) (hB : B ≤ w.heap.size) (hl : ConR w B A n l) (hn : (n : Int) ≤ 140737488355328) :
    Calls Try.prog 21 #[.slice A n c, .int .i64 i, .int .i64 j] w fun e w' => e = .returned (.int .i64 (farR l i j)) ∧ Below w.heap.size w w' := by
  have hz := zeros_tab
  have HL := Lib.hid hl
  clear hl
  go_enter Try.func21, Try.ntmps21
  go_wp2_with fail
  refine (pathsOf_any w B A n c l hB HL.out hn).mono ?_
  rintro e w1 ⟨rfl, hb1⟩
  obtain ⟨T, hT⟩ : ∃ T, pathT l = T := ⟨_, rfl⟩
  rw [hT]
  have HT := Lib.hid hT
  clear hT
  obtain ⟨W1, hW1⟩ : ∃ W, w1.alloc (.cells (tabA zeroT) 70) = W := ⟨_, rfl⟩
  have c1 : Blk W1 w1.heap.size 70 (tabA zeroT) := by rw [← hW1]; exact Blk.made _ _ _
  obtain ⟨S, hS⟩ : ∃ S, w1.heap.size = S := ⟨_, rfl⟩
  rw [hS] at c1
  obtain ⟨W2, hW2⟩ : ∃ W, W1.setRow S (tabA T) = W := ⟨_, rfl⟩
  have c2 : Blk W2 S 70 (tabA T) := by rw [← hW2]; exact BlkT.lay c1 T
  have HB2 : Hid (Below w.heap.size w W2) := by
    show Below _ _ _
    have q1 : Below w1.heap.size w1 W1 := by rw [← hW1]; exact (Below.refl _ _).alloc (Nat.le_refl _) _
    have := q1.size
    have := hb1.size
    rw [← hW2]
    exact (Wrote.row _ _ _).below (hb1.trans (q1.mono (by omega))) (by omega) (by omega)
  clear hb1
  cases h1 : satR l with
  | false =>
    have HF : Hid (farR l i j = -1) := if_neg (fun h => by rw [h1] at h; exact absurd h.1 (by decide))
    clear h1
    go_wp2_with (refine wpList_store_row rfl 70 _ _ rfl S (tabA T) rfl rfl 70 (tabA zeroT) c1 (size_tab T) rfl (tabA_one T) ?_)
    go_ret
    exact ⟨by rw [HF.out]; rfl, HB2.out⟩
  | true =>
    have H1 := Lib.hid h1
    clear h1
    go_wp2_with (refine wpList_store_row rfl 70 _ _ rfl S (tabA T) rfl rfl 70 (tabA zeroT) c1 (size_tab T) rfl (tabA_one T) ?_)
    refine (sideOk_any W2 i).mono ?_
    rintro e w2 ⟨rfl, rfl⟩
    cases h2 : nodeR i with
    | false =>
      have HF : Hid (farR l i j = -1) := if_neg (fun h => by rw [h2] at h; exact absurd h.2.1 (by decide))
      clear h2
      go_wp2
      go_ret
      exact ⟨by rw [HF.out]; rfl, HB2.out⟩
    | true =>
      have H2 := Lib.hid h2
      clear h2
      go_wp2_with fail
      refine (sideOk_any w2 j).mono ?_
      rintro e w3 ⟨rfl, rfl⟩
      cases h3 : nodeR j with
      | false =>
        have HF : Hid (farR l i j = -1) := if_neg (fun h => by rw [h3] at h; exact absurd h.2.2 (by decide))
        clear h3
        go_wp2
        go_ret
        exact ⟨by rw [HF.out]; rfl, HB2.out⟩
      | true =>
        obtain ⟨u, hu, hu6⟩ := nodeR_nat H2.out
        obtain ⟨v, hv, hv6⟩ := nodeR_nat h3
        have HF : Hid (farR l i j = T u v) := (if_pos ⟨H1.out, H2.out, h3⟩).trans (by rw [node_of hu, node_of hv, ← HT.out, pathT_yes H1.out])
        have HU := Lib.hid hu
        have HV := Lib.hid hv
        clear h3 hu hv
        go_wp2_with (refine wpList_load_row rfl 70 _ rfl S rfl 70 (tabA T) (0, 0) _ c2 Try.underlying70 rfl (size_tab T) ?_)
        refine (far_any w3 T i j u v HU.out hu6 HV.out hv6).mono ?_
        rintro e w4 ⟨rfl, hb4⟩
        have HB4 := Lib.hid (HB2.out.trans (hb4.mono HB2.out.size))
        clear hb4
        go_wp2
        go_ret
        exact ⟨by rw [HF.out]; rfl, HB4.out⟩
end Go.Proofs.Ytmmhcpigcdlnmaa
