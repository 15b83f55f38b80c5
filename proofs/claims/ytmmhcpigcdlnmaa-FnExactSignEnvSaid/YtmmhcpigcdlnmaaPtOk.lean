/- Constraints of the program: sideOk, ConOk, ConsOk. -/
import Derived.Test.YtmmhcpigcdlnmaaCoOk
namespace Go.Proofs.Ytmmhcpigcdlnmaa
open Go.RowKit
open Cs (Cn)

set_option maxHeartbeats 400000 in
theorem parOk_any (w : World) (p : Int) : Calls Try.prog 91 #[.int .i64 p] w fun e w' => e = .returned (.bool (decide (0 ≤ p) && decide (p < 5))) ∧ w' = w := by
  by_cases h1 : 0 ≤ p
  · have HF : Hid ((decide (0 ≤ p) && decide (p < 5)) = decide (p < 5)) := by show _ = _; simp [h1]
    have d1 : decide (0 ≤ p) = true := decide_eq_true h1
    go_enter Try.func91, Try.ntmps91
    go_wp2
    go_ret
    exact ⟨by rw [HF.out]; rfl, rfl⟩
  · have d1 : decide (0 ≤ p) = false := decide_eq_false h1
    go_enter Try.func91, Try.ntmps91
    go_wp2
    go_ret
    exact ⟨rfl, rfl⟩
set_option maxHeartbeats 400000 in
theorem sideOk_any (w : World) (p : Int) : Calls Try.prog 66 #[.int .i64 p] w fun e w' => e = .returned (.bool (nodeR p)) ∧ w' = w := by
  by_cases h1 : p = -1
  · subst h1
    go_enter Try.func66, Try.ntmps66
    go_wp2
    go_ret
    exact ⟨rfl, rfl⟩
  · have HF : Hid (nodeR p = (decide (0 ≤ p) && decide (p < 5))) := by
      show _ = _
      rw [Bool.eq_iff_iff]
      simp [nodeR]
      omega
    have d1 : (p == -1) = false := by simpa using h1
    go_enter Try.func66, Try.ntmps66
    go_wp2_with fail
    refine (parOk_any w p).mono ?_
    rintro e w1 ⟨rfl, rfl⟩
    rw [← HF.out]
    go_wp2
    go_ret
    exact ⟨rfl, rfl⟩

set_option maxRecDepth 100000 in
set_option maxHeartbeats 1600000 in
theorem implConOk_any (w : World) (U R V : Int) : Calls Try.prog 69 #[.agg #[.int .i64 U, .int .i64 R, .int .i64 V]] w fun e w' => e = .returned (.bool (Cs.cOk (U, R, V))) ∧ Below w.heap.size w w' := by
  have HB : Hid (Below w.heap.size w (w.alloc (.cells #[.int .i64 U, .int .i64 R, .int .i64 V] 34))) := (Below.refl _ _).alloc (Nat.le_refl _) _
  have HC := Lib.hid (cOk_parts U R V)
  cases h1 : nodeR U with
  | false =>
    have HF : Hid (Cs.cOk (U, R, V) = false) := by show _ = _; rw [HC.out, h1]; rfl
    have H1 := Lib.hid h1
    clear h1 HC
    go_enter Try.func69, Try.ntmps69
    go_wp2_with fail
    refine (sideOk_any _ U).mono ?_
    rintro e w1 ⟨rfl, rfl⟩
    rw [H1.out]
    go_wp2
    go_ret
    exact ⟨by rw [HF.out]; rfl, HB.out⟩
  | true =>
    have H1 := Lib.hid h1
    cases h2 : nodeR V with
    | false =>
      have HF : Hid (Cs.cOk (U, R, V) = false) := by show _ = _; rw [HC.out, h1, h2]; rfl
      have H2 := Lib.hid h2
      clear h1 h2 HC
      go_enter Try.func69, Try.ntmps69
      go_wp2_with fail
      refine (sideOk_any _ U).mono ?_
      rintro e w1 ⟨rfl, rfl⟩
      rw [H1.out]
      go_wp2_with fail
      refine (sideOk_any _ V).mono ?_
      rintro e w1 ⟨rfl, rfl⟩
      rw [H2.out]
      go_wp2
      go_ret
      exact ⟨by rw [HF.out]; rfl, HB.out⟩
    | true =>
      have H2 := Lib.hid h2
      have HF : Hid (Cs.cOk (U, R, V) = (decide (0 ≤ R) && decide (R ≤ 2))) := by show _ = _; rw [HC.out, h1, h2]; rfl
      clear h1 h2 HC
      by_cases h3 : 0 ≤ R
      · have HG : Hid (Cs.cOk (U, R, V) = decide (R ≤ 2)) := by show _ = _; rw [HF.out, decide_eq_true h3]; rfl
        have d3 : decide (0 ≤ R) = true := decide_eq_true h3
        go_enter Try.func69, Try.ntmps69
        go_wp2_with fail
        refine (sideOk_any _ U).mono ?_
        rintro e w1 ⟨rfl, rfl⟩
        rw [H1.out]
        go_wp2_with fail
        refine (sideOk_any _ V).mono ?_
        rintro e w1 ⟨rfl, rfl⟩
        rw [H2.out]
        go_wp2
        go_ret
        exact ⟨by rw [HG.out]; rfl, HB.out⟩
      · have HG : Hid (Cs.cOk (U, R, V) = false) := by show _ = _; rw [HF.out]; simp [h3]
        have d3 : decide (0 ≤ R) = false := decide_eq_false h3
        go_enter Try.func69, Try.ntmps69
        go_wp2_with fail
        refine (sideOk_any _ U).mono ?_
        rintro e w1 ⟨rfl, rfl⟩
        rw [H1.out]
        go_wp2_with fail
        refine (sideOk_any _ V).mono ?_
        rintro e w1 ⟨rfl, rfl⟩
        rw [H2.out]
        go_wp2
        go_ret
        exact ⟨by rw [HG.out]; rfl, HB.out⟩

theorem consOkR_long {l : List Cn} (h : ¬ l.length ≤ 24) : consOkR l = false := by
  cases e : consOkR l with
  | false => rfl
  | true => exact absurd (consOkR_ok e).2 h
theorem consOkR_bad {l : List Cn} {k : Nat} {t : Cn} (hk : k < l.length) (ht : l.getD k (0, 0, 0) = t) (h : Cs.cOk t = false) : consOkR l = false := by
  cases e : consOkR l with
  | false => rfl
  | true =>
    have := (consOkR_ok e).1 (l.getD k (0, 0, 0)) (by rw [List.getD_eq_getElem?_getD, List.getElem?_eq_getElem hk]; exact List.getElem_mem _)
    rw [ht, h] at this
    cases this
theorem consOkR_all {l : List Cn} (hl : l.length ≤ 24) (h : ∀ j, j < l.length → Cs.cOk (l.getD j (0, 0, 0)) = true) : consOkR l = true := by
  simp only [consOkR, Bool.and_eq_true, List.all_eq_true, decide_eq_true_eq]
  refine ⟨fun c hc => ?_, hl⟩
  obtain ⟨j, hj, rfl⟩ := List.getElem_of_mem hc
  have := h j hj
  rw [List.getD_eq_getElem?_getD, List.getElem?_eq_getElem hj] at this
  exact this
set_option maxRecDepth 100000 in
set_option maxHeartbeats 1600000 in
theorem implConsOk_any (w : World) (B : Nat) (A : Option Addr) (n c : Nat) (l : List Cn) (hB : B ≤ w.heap.size) (hl : ConR w B A n l) (hn : (n : Int) ≤ 140737488355328) :
    Calls Try.prog 56 #[.slice A n c] w fun e w' => e = .returned (.bool (consOkR l)) ∧ Below w.heap.size w w' := by
  by_cases h24 : n ≤ 24
  · have h24i : ¬ (24 : Int) < (n : Int) := by omega
    go_enter Try.func56, Try.ntmps56
    go_wp2
    go_loopw [10] (fun i wr => ∃ k : Nat, k ≤ n ∧ i = .int .i64 k ∧ Hid (∀ j, j < k → Cs.cOk (l.getD j (0, 0, 0)) = true) ∧ Hid (Below w.heap.size w wr)) (fun i _ => n - (intOf i).toNat)
    case atStart => exact ⟨0, Nat.zero_le _, rfl, (fun j hj => absurd hj (by omega)), Below.refl _ _⟩
    case round =>
      obtain ⟨k, hk, rfl, HA, HBR⟩ := hrel
      have hszr := HBR.out.size
      by_cases hlt : k < n
      · have hki : (k : Int) < (n : Int) := by omega
        obtain ⟨b, off, hA, hb, hc⟩ := hl.2 (by omega)
        obtain ⟨x1, x2, x3⟩ := hc k hlt
        have HL := Lib.hid hl.1
        obtain ⟨t, ht⟩ : ∃ t, l.getD k (0, 0, 0) = t := ⟨_, rfl⟩
        rw [ht] at x1 x2 x3
        obtain ⟨U, R, V⟩ := t
        have HT := Lib.hid ht
        subst hA
        have k1 := (HBR.out.cell (p := ⟨b, off + k * 3, none⟩) (by show b < _; omega)).trans x1
        have k2 := (HBR.out.cell (p := ⟨b, off + k * 3 + 1, none⟩) (by show b < _; omega)).trans x2
        have k3 := (HBR.out.cell (p := ⟨b, off + k * 3 + 2, none⟩) (by show b < _; omega)).trans x3
        obtain ⟨W1, hW1⟩ : ∃ W1, wr.alloc (.cells #[.int .i64 U, .int .i64 R, .int .i64 V] 34) = W1 := ⟨_, rfl⟩
        have hb1 : Below wr.heap.size wr W1 := by rw [← hW1]; exact (Below.refl _ _).alloc (Nat.le_refl _) _
        have hbx : Blk W1 wr.heap.size 34 #[.int .i64 U, .int .i64 R, .int .i64 V] := by rw [← hW1]; exact Blk.made _ _ _
        have y0 : W1.cell? ⟨wr.heap.size, 0, none⟩ = some (.int .i64 U) := hbx.cell 0
        have y1 : W1.cell? ⟨wr.heap.size, 1, none⟩ = some (.int .i64 R) := hbx.cell 1
        have y2 : W1.cell? ⟨wr.heap.size, 2, none⟩ = some (.int .i64 V) := hbx.cell 2
        have HB1 := Lib.hid (HBR.out.trans (hb1.mono hszr))
        clear hc ht x1 x2 x3 hl hbx hb1
        go_wp2_with fail
        refine (implConOk_any W1 U R V).mono ?_
        rintro e w2 ⟨rfl, hb2⟩
        have HB2 := Lib.hid (HB1.out.trans (hb2.mono HB1.out.size))
        clear hb2
        cases hok : Cs.cOk (U, R, V) with
        | true =>
          have HA2 : Hid (∀ j, j < k + 1 → Cs.cOk (l.getD j (0, 0, 0)) = true) := fun j hj => by
            by_cases e : j = k
            · subst e; rw [HT.out]; exact hok
            · exact HA.out j (by omega)
          clear hok
          go_wp2
          go_roundw
          case rel => exact ⟨k + 1, by omega, by go_num, HA2.out, HB2.out⟩
          case measure => simp [intOf]; omega
        | false =>
          have HF := Lib.hid (consOkR_bad (by rw [HL.out]; exact hlt) HT.out hok)
          clear hok
          go_wp2
          go_ret
          exact ⟨by rw [HF.out]; rfl, HB2.out⟩
      · obtain rfl : k = n := by omega
        have hkk : ¬ (k : Int) < (k : Int) := by omega
        have HF := Lib.hid (consOkR_all (l := l) (by rw [hl.1]; exact h24) (fun j hj => HA.out j (by rw [← hl.1]; exact hj)))
        clear hl
        go_wp2
        go_ret
        exact ⟨by rw [HF.out]; rfl, HBR.out⟩
  · have h24i : (24 : Int) < (n : Int) := by omega
    have HF := Lib.hid (consOkR_long (l := l) (by rw [hl.1]; exact h24))
    clear hl
    go_enter Try.func56, Try.ntmps56
    go_wp2
    go_ret
    exact ⟨by rw [HF.out]; rfl, Below.refl _ _⟩
end Go.Proofs.Ytmmhcpigcdlnmaa
