/- Constraints of the reference model: l05Node, ConOk, ConsOk, l05Val, ConHolds. -/
import Derived.Test.YtfmhmnpmdjpmeaaCoMem

namespace Go.Proofs.Ytfmhmnpmdjpmeaa
open Go.RowKit
open Cs (Cn)

/-- a node's number -/
def nodeR (n : Int) : Bool := decide (-1 ≤ n) && decide (n < 5)
set_option maxHeartbeats 800000 in
theorem l05Node_any (w : World) (n : Int) : Calls Try.prog 76 #[.int .i64 n] w fun e w' => e = .returned (.bool (nodeR n)) ∧ w' = w := by
  by_cases h1 : -1 ≤ n
  · by_cases h2 : n < 5
    · have HF : Hid (nodeR n = true) := by show _ = _; simp [nodeR, h1, h2]
      go_enter Try.func76, Try.ntmps76
      go_wp2
      go_ret
      exact ⟨by rw [HF.out]; rfl, rfl⟩
    · have HF : Hid (nodeR n = false) := by show _ = _; simp [nodeR, h2]
      go_enter Try.func76, Try.ntmps76
      go_wp2
      go_ret
      exact ⟨by rw [HF.out]; rfl, rfl⟩
  · have HF : Hid (nodeR n = false) := by show _ = _; simp [nodeR, h1]
    go_enter Try.func76, Try.ntmps76
    go_wp2
    go_ret
    exact ⟨by rw [HF.out]; rfl, rfl⟩
theorem cOk_parts (U R V : Int) : Cs.cOk (U, R, V) = (nodeR U && nodeR V && decide (0 ≤ R) && decide (R ≤ 2)) := by
  rw [Bool.eq_iff_iff, Cs.cOk_iff]
  simp [nodeR]
  omega

set_option maxRecDepth 100000 in
set_option maxHeartbeats 1600000 in
theorem specConOk_any (w : World) (U R V : Int) : Calls Try.prog 62 #[.agg #[.int .i64 U, .int .i64 R, .int .i64 V]] w fun e w' => e = .returned (.bool (Cs.cOk (U, R, V))) ∧ Below w.heap.size w w' := by
  have HB : Hid (Below w.heap.size w (w.alloc (.cells #[.int .i64 U, .int .i64 R, .int .i64 V] 78))) := (Below.refl _ _).alloc (Nat.le_refl _) _
  have HC := Lib.hid (cOk_parts U R V)
  cases h1 : nodeR U with
  | false =>
    have HF : Hid (Cs.cOk (U, R, V) = false) := by show _ = _; rw [HC.out, h1]; rfl
    have H1 := Lib.hid h1
    clear h1 HC
    go_enter Try.func62, Try.ntmps62
    go_wp2_with fail
    refine (l05Node_any _ U).mono ?_
    rintro e w1 ⟨rfl, rfl⟩
    rw [H1.out]
    go_wp2
    go_ret
    exact ⟨by rw [HF.out]; rfl, HB.out⟩
  | true =>
    have H1 := Lib.hid h1
    cases h2 : nodeR V with
    | false =>
      have HF : Hid (Cs.cOk (U, R, V) = false) := by show _ = _; rw [HC.out, h1, h2]; rfl
      have H2 := Lib.hid h2
      clear h1 h2 HC
      go_enter Try.func62, Try.ntmps62
      go_wp2_with fail
      refine (l05Node_any _ U).mono ?_
      rintro e w1 ⟨rfl, rfl⟩
      rw [H1.out]
      go_wp2_with fail
      refine (l05Node_any _ V).mono ?_
      rintro e w1 ⟨rfl, rfl⟩
      rw [H2.out]
      go_wp2
      go_ret
      exact ⟨by rw [HF.out]; rfl, HB.out⟩
    | true =>
      have H2 := Lib.hid h2
      have HF : Hid (Cs.cOk (U, R, V) = (decide (0 ≤ R) && decide (R ≤ 2))) := by show _ = _; rw [HC.out, h1, h2]; rfl
      clear h1 h2 HC
      by_cases h3 : 0 ≤ R
      · have HG : Hid (Cs.cOk (U, R, V) = decide (R ≤ 2)) := by show _ = _; rw [HF.out, decide_eq_true h3]; rfl
        have d3 : decide (0 ≤ R) = true := decide_eq_true h3
        go_enter Try.func62, Try.ntmps62
        go_wp2_with fail
        refine (l05Node_any _ U).mono ?_
        rintro e w1 ⟨rfl, rfl⟩
        rw [H1.out]
        go_wp2_with fail
        refine (l05Node_any _ V).mono ?_
        rintro e w1 ⟨rfl, rfl⟩
        rw [H2.out]
        go_wp2
        go_ret
        exact ⟨by rw [HG.out]; rfl, HB.out⟩
      · have HG : Hid (Cs.cOk (U, R, V) = false) := by show _ = _; rw [HF.out]; simp [h3]
        have d3 : decide (0 ≤ R) = false := decide_eq_false h3
        go_enter Try.func62, Try.ntmps62
        go_wp2_with fail
        refine (l05Node_any _ U).mono ?_
        rintro e w1 ⟨rfl, rfl⟩
        rw [H1.out]
        go_wp2_with fail
        refine (l05Node_any _ V).mono ?_
        rintro e w1 ⟨rfl, rfl⟩
        rw [H2.out]
        go_wp2
        go_ret
        exact ⟨by rw [HG.out]; rfl, HB.out⟩

/-- ConsOk's answer -/
def consOkR (l : List Cn) : Bool := l.all Cs.cOk && decide (l.length ≤ 24)
theorem consOkR_ok {l : List Cn} (h : consOkR l = true) : Cs.ok l ∧ l.length ≤ 24 := by
  simp only [consOkR, Bool.and_eq_true, List.all_eq_true, decide_eq_true_eq] at h
  exact h
set_option maxRecDepth 100000 in
set_option maxHeartbeats 1600000 in
theorem specConsOk_any (w : World) (B : Nat) (A : Option Addr) (n c : Nat) (l : List Cn) (hB : B ≤ w.heap.size) (hl : ConR w B A n l) (hn : (n : Int) ≤ 140737488355328) :
    Calls Try.prog 63 #[.slice A n c] w fun e w' => e = .returned (.bool (consOkR l)) ∧ Below w.heap.size w w' := by
  go_enter Try.func63, Try.ntmps63
  go_wp2
  go_loopw [3] (fun i wr => ∃ k : Nat, k ≤ n ∧ i = .int .i64 k ∧ Hid (∀ j, j < k → Cs.cOk (l.getD j (0, 0, 0)) = true) ∧ Hid (Below w.heap.size w wr)) (fun i _ => n - (intOf i).toNat)
  case atStart => exact ⟨0, Nat.zero_le _, rfl, (fun j hj => absurd hj (by omega)), Below.refl _ _⟩
  case round =>
    obtain ⟨k, hk, rfl, HA, HBR⟩ := hrel
    have hszr := HBR.out.size
    by_cases hlt : k < n
    · have hki : (k : Int) < (n : Int) := by omega
      obtain ⟨b, off, hA, hb, hc⟩ := hl.2 (by omega)
      obtain ⟨x1, x2, x3⟩ := hc k hlt
      have HL := Lib.hid hl.1
      obtain ⟨t, ht⟩ : ∃ t, l.getD k (0, 0, 0) = t := ⟨_, rfl⟩
      rw [ht] at x1 x2 x3
      obtain ⟨U, R, V⟩ := t
      have HT := Lib.hid ht
      subst hA
      have k1 := (HBR.out.cell (p := ⟨b, off + k * 3, none⟩) (by show b < _; omega)).trans x1
      have k2 := (HBR.out.cell (p := ⟨b, off + k * 3 + 1, none⟩) (by show b < _; omega)).trans x2
      have k3 := (HBR.out.cell (p := ⟨b, off + k * 3 + 2, none⟩) (by show b < _; omega)).trans x3
      clear hc ht x1 x2 x3 hl
      go_wp2_with fail
      refine (specConOk_any wr U R V).mono ?_
      rintro e w1 ⟨rfl, hb1⟩
      have HB1 := Lib.hid (HBR.out.trans (hb1.mono hszr))
      clear hb1
      cases hok : Cs.cOk (U, R, V) with
      | true =>
        have HA2 : Hid (∀ j, j < k + 1 → Cs.cOk (l.getD j (0, 0, 0)) = true) := fun j hj => by
          by_cases e : j = k
          · subst e; rw [HT.out]; exact hok
          · exact HA.out j (by omega)
        clear hok
        go_wp2
        go_roundw
        case rel => exact ⟨k + 1, by omega, by go_num, HA2.out, HB1.out⟩
        case measure => simp [intOf]; omega
      | false =>
        have HF : Hid (consOkR l = false) := by
          cases e : consOkR l with
          | false => rfl
          | true =>
            have hkl : k < l.length := by rw [HL.out]; exact hlt
            have := (consOkR_ok e).1 (l.getD k (0, 0, 0)) (by rw [List.getD_eq_getElem?_getD, List.getElem?_eq_getElem hkl]; exact List.getElem_mem _)
            rw [HT.out, hok] at this
            cases this
        clear hok
        go_wp2
        go_ret
        exact ⟨by rw [HF.out]; rfl, HB1.out⟩
    · obtain rfl : k = n := by omega
      have hkk : ¬ (k : Int) < (k : Int) := by omega
      have HF : Hid (consOkR l = decide ((k : Int) ≤ 24)) := by
        show _ = _
        rw [Bool.eq_iff_iff]
        simp only [consOkR, Bool.and_eq_true, List.all_eq_true, decide_eq_true_eq, hl.1]
        constructor
        · intro h; omega
        · intro h
          refine ⟨fun c hc => ?_, by omega⟩
          obtain ⟨j, hj, rfl⟩ := List.getElem_of_mem hc
          have := HA.out j (by have := hl.1; omega)
          rw [List.getD_eq_getElem?_getD, List.getElem?_eq_getElem hj] at this
          exact this
      clear hl
      go_wp2
      go_ret
      exact ⟨by rw [HF.out]; rfl, HBR.out⟩
end Go.Proofs.Ytfmhmnpmdjpmeaa
