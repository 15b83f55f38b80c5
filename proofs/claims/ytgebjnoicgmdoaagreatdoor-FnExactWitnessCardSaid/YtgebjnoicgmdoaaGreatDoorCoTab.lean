/- Constraints of the reference model: l05Node, ConOk, ConsOk, l05Val, ConHolds. -/
/- Constraints of the program: sideOk, ConOk, ConsOk. -/
/- ConHolds and ConsHold, of the program and of the reference model. -/
/- Plain facts: what it is that a list of constraints holds in an env. -/
/- Words for memory: a table of six rows of six numbers, each row a block of the call's own. -/
import Derived.Test.YtgebjnoicgmdoaaGreatDoorCsMath7
import Derived.BigQuiet

namespace Go.Proofs.YtgebjnoicgmdoaaGreatDoor
open Go.RowKit
open Cs (Cn)

/-- a node's number -/
def nodeR (n : Int) : Bool := decide (-1 ≤ n) && decide (n < 5)
set_option maxHeartbeats 800000 in
theorem l05Node_any (w : World) (n : Int) : Calls Tryz.prog 104 #[.int .i64 n] w fun e w' => e = .returned (.bool (nodeR n)) ∧ w' = w := by
  by_cases h1 : -1 ≤ n
  · by_cases h2 : n < 5
    · have HF : Hid (nodeR n = true) := by show _ = _; simp [nodeR, h1, h2]
      go_enter Tryz.func104, Tryz.ntmps104
      go_wp2
      go_ret
      exact ⟨by rw [HF.out]; rfl, rfl⟩
    · have HF : Hid (nodeR n = false) := by show _ = _; simp [nodeR, h2]
      go_enter Tryz.func104, Tryz.ntmps104
      go_wp2
      go_ret
      exact ⟨by rw [HF.out]; rfl, rfl⟩
  · have HF : Hid (nodeR n = false) := by show _ = _; simp [nodeR, h1]
    go_enter Tryz.func104, Tryz.ntmps104
    go_wp2
    go_ret
    exact ⟨by rw [HF.out]; rfl, rfl⟩
theorem cOk_parts (U R V : Int) : Cs.cOk (U, R, V) = (nodeR U && nodeR V && decide (0 ≤ R) && decide (R ≤ 2)) := by
  rw [Bool.eq_iff_iff, Cs.cOk_iff]
  simp [nodeR]
  omega

set_option maxRecDepth 100000 in
set_option maxHeartbeats 1600000 in
theorem specConOk_any (w : World) (U R V : Int) : Calls Tryz.prog 58 #[.agg #[.int .i64 U, .int .i64 R, .int .i64 V]] w fun e w' => e = .returned (.bool (Cs.cOk (U, R, V))) ∧ Below w.heap.size w w' := by
  have HB : Hid (Below w.heap.size w (w.alloc (.cells #[.int .i64 U, .int .i64 R, .int .i64 V] 41))) := (Below.refl _ _).alloc (Nat.le_refl _) _
  have HC := Lib.hid (cOk_parts U R V)
  cases h1 : nodeR U with
  | false =>
    have HF : Hid (Cs.cOk (U, R, V) = false) := by show _ = _; rw [HC.out, h1]; rfl
    have H1 := Lib.hid h1
    clear h1 HC
    go_enter Tryz.func58, Tryz.ntmps58
    go_wp2_with fail
    refine (l05Node_any _ U).mono ?_
    rintro e w1 ⟨rfl, rfl⟩
    rw [H1.out]
    go_wp2
    go_ret
    exact ⟨by rw [HF.out]; rfl, HB.out⟩
  | true =>
    have H1 := Lib.hid h1
    cases h2 : nodeR V with
    | false =>
      have HF : Hid (Cs.cOk (U, R, V) = false) := by show _ = _; rw [HC.out, h1, h2]; rfl
      have H2 := Lib.hid h2
      clear h1 h2 HC
      go_enter Tryz.func58, Tryz.ntmps58
      go_wp2_with fail
      refine (l05Node_any _ U).mono ?_
      rintro e w1 ⟨rfl, rfl⟩
      rw [H1.out]
      go_wp2_with fail
      refine (l05Node_any _ V).mono ?_
      rintro e w1 ⟨rfl, rfl⟩
      rw [H2.out]
      go_wp2
      go_ret
      exact ⟨by rw [HF.out]; rfl, HB.out⟩
    | true =>
      have H2 := Lib.hid h2
      have HF : Hid (Cs.cOk (U, R, V) = (decide (0 ≤ R) && decide (R ≤ 2))) := by show _ = _; rw [HC.out, h1, h2]; rfl
      clear h1 h2 HC
      by_cases h3 : 0 ≤ R
      · have HG : Hid (Cs.cOk (U, R, V) = decide (R ≤ 2)) := by show _ = _; rw [HF.out, decide_eq_true h3]; rfl
        have d3 : decide (0 ≤ R) = true := decide_eq_true h3
        go_enter Tryz.func58, Tryz.ntmps58
        go_wp2_with fail
        refine (l05Node_any _ U).mono ?_
        rintro e w1 ⟨rfl, rfl⟩
        rw [H1.out]
        go_wp2_with fail
        refine (l05Node_any _ V).mono ?_
        rintro e w1 ⟨rfl, rfl⟩
        rw [H2.out]
        go_wp2
        go_ret
        exact ⟨by rw [HG.out]; rfl, HB.out⟩
      · have HG : Hid (Cs.cOk (U, R, V) = false) := by show _ = _; rw [HF.out]; simp [h3]
        have d3 : decide (0 ≤ R) = false := decide_eq_false h3
        go_enter Tryz.func58, Tryz.ntmps58
        go_wp2_with fail
        refine (l05Node_any _ U).mono ?_
        rintro e w1 ⟨rfl, rfl⟩
        rw [H1.out]
        go_wp2_with fail
        refine (l05Node_any _ V).mono ?_
        rintro e w1 ⟨rfl, rfl⟩
        rw [H2.out]
        go_wp2
        go_ret
        exact ⟨by rw [HG.out]; rfl, HB.out⟩

/-- ConsOk's answer -/
def consOkR (l : List Cn) : Bool := l.all Cs.cOk && decide (l.length ≤ 24)
theorem consOkR_ok {l : List Cn} (h : consOkR l = true) : Cs.ok l ∧ l.length ≤ 24 := by
  simp only [consOkR, Bool.and_eq_true, List.all_eq_true, decide_eq_true_eq] at h
  exact h
set_option maxRecDepth 100000 in
set_option maxHeartbeats 1600000 in
theorem specConsOk_any (w : World) (B : Nat) (A : Option Addr) (n c : Nat) (l : List Cn) (hB : B ≤ w.heap.size) (hl : ConR w B A n l) (hn : (n : Int) ≤ 140737488355328) :
    Calls Tryz.prog 16 #[.slice A n c] w fun e w' => e = .returned (.bool (consOkR l)) ∧ Below w.heap.size w w' := by
  go_enter Tryz.func16, Tryz.ntmps16
  go_wp2
  go_loopw [3] (fun i wr => ∃ k : Nat, k ≤ n ∧ i = .int .i64 k ∧ Hid (∀ j, j < k → Cs.cOk (l.getD j (0, 0, 0)) = true) ∧ Hid (Below w.heap.size w wr)) (fun i _ => n - (intOf i).toNat)
  case atStart => exact ⟨0, Nat.zero_le _, rfl, (fun j hj => absurd hj (by omega)), Below.refl _ _⟩
  case round =>
    obtain ⟨k, hk, rfl, HA, HBR⟩ := hrel
    have hszr := HBR.out.size
    by_cases hlt : k < n
    · have hki : (k : Int) < (n : Int) := by omega
      obtain ⟨b, off, hA, hb, hc⟩ := hl.2 (by omega)
      obtain ⟨x1, x2, x3⟩ := hc k hlt
      have HL := Lib.hid hl.1
      obtain ⟨t, ht⟩ : ∃ t, l.getD k (0, 0, 0) = t := ⟨_, rfl⟩
      rw [ht] at x1 x2 x3
      obtain ⟨U, R, V⟩ := t
      have HT := Lib.hid ht
      subst hA
      have k1 := (HBR.out.cell (p := ⟨b, off + k * 3, none⟩) (by show b < _; omega)).trans x1
      have k2 := (HBR.out.cell (p := ⟨b, off + k * 3 + 1, none⟩) (by show b < _; omega)).trans x2
      have k3 := (HBR.out.cell (p := ⟨b, off + k * 3 + 2, none⟩) (by show b < _; omega)).trans x3
      clear hc ht x1 x2 x3 hl
      go_wp2_with fail
      refine (specConOk_any wr U R V).mono ?_
      rintro e w1 ⟨rfl, hb1⟩
      have HB1 := Lib.hid (HBR.out.trans (hb1.mono hszr))
      clear hb1
      cases hok : Cs.cOk (U, R, V) with
      | true =>
        have HA2 : Hid (∀ j, j < k + 1 → Cs.cOk (l.getD j (0, 0, 0)) = true) := fun j hj => by
          by_cases e : j = k
          · subst e; rw [HT.out]; exact hok
          · exact HA.out j (by omega)
        clear hok
        go_wp2
        go_roundw
        case rel => exact ⟨k + 1, by omega, by go_num, HA2.out, HB1.out⟩
        case measure => simp [intOf]; omega
      | false =>
        have HF : Hid (consOkR l = false) := by
          cases e : consOkR l with
          | false => rfl
          | true =>
            have hkl : k < l.length := by rw [HL.out]; exact hlt
            have := (consOkR_ok e).1 (l.getD k (0, 0, 0)) (by rw [List.getD_eq_getElem?_getD, List.getElem?_eq_getElem hkl]; exact List.getElem_mem _)
            rw [HT.out, hok] at this
            cases this
        clear hok
        go_wp2
        go_ret
        exact ⟨by rw [HF.out]; rfl, HB1.out⟩
    · obtain rfl : k = n := by omega
      have hkk : ¬ (k : Int) < (k : Int) := by omega
      have HF : Hid (consOkR l = decide ((k : Int) ≤ 24)) := by
        show _ = _
        rw [Bool.eq_iff_iff]
        simp only [consOkR, Bool.and_eq_true, List.all_eq_true, decide_eq_true_eq, hl.1]
        constructor
        · intro h; omega
        · intro h
          refine ⟨fun c hc => ?_, by omega⟩
          obtain ⟨j, hj, rfl⟩ := List.getElem_of_mem hc
          have := HA.out j (by have := hl.1; omega)
          rw [List.getD_eq_getElem?_getD, List.getElem?_eq_getElem hj] at this
          exact this
      clear hl
      go_wp2
      go_ret
      exact ⟨by rw [HF.out]; rfl, HBR.out⟩
end Go.Proofs.YtgebjnoicgmdoaaGreatDoor

namespace Go.Proofs.YtgebjnoicgmdoaaGreatDoor
open Go.RowKit
open Cs (Cn)

set_option maxHeartbeats 400000 in
theorem parOk_any (w : World) (p : Int) : Calls Tryz.prog 142 #[.int .i64 p] w fun e w' => e = .returned (.bool (decide (0 ≤ p) && decide (p < 5))) ∧ w' = w := by
  by_cases h1 : 0 ≤ p
  · have HF : Hid ((decide (0 ≤ p) && decide (p < 5)) = decide (p < 5)) := by show _ = _; simp [h1]
    have d1 : decide (0 ≤ p) = true := decide_eq_true h1
    go_enter Tryz.func142, Tryz.ntmps142
    go_wp2
    go_ret
    exact ⟨by rw [HF.out]; rfl, rfl⟩
  · have d1 : decide (0 ≤ p) = false := decide_eq_false h1
    go_enter Tryz.func142, Tryz.ntmps142
    go_wp2
    go_ret
    exact ⟨rfl, rfl⟩
set_option maxHeartbeats 400000 in
theorem sideOk_any (w : World) (p : Int) : Calls Tryz.prog 114 #[.int .i64 p] w fun e w' => e = .returned (.bool (nodeR p)) ∧ w' = w := by
  by_cases h1 : p = -1
  · subst h1
    go_enter Tryz.func114, Tryz.ntmps114
    go_wp2
    go_ret
    exact ⟨rfl, rfl⟩
  · have HF : Hid (nodeR p = (decide (0 ≤ p) && decide (p < 5))) := by
      show _ = _
      rw [Bool.eq_iff_iff]
      simp [nodeR]
      omega
    have d1 : (p == -1) = false := by simpa using h1
    go_enter Tryz.func114, Tryz.ntmps114
    go_wp2_with fail
    refine (parOk_any w p).mono ?_
    rintro e w1 ⟨rfl, rfl⟩
    rw [← HF.out]
    go_wp2
    go_ret
    exact ⟨rfl, rfl⟩

set_option maxRecDepth 100000 in
set_option maxHeartbeats 1600000 in
theorem implConOk_any (w : World) (U R V : Int) : Calls Tryz.prog 71 #[.agg #[.int .i64 U, .int .i64 R, .int .i64 V]] w fun e w' => e = .returned (.bool (Cs.cOk (U, R, V))) ∧ Below w.heap.size w w' := by
  have HB : Hid (Below w.heap.size w (w.alloc (.cells #[.int .i64 U, .int .i64 R, .int .i64 V] 41))) := (Below.refl _ _).alloc (Nat.le_refl _) _
  have HC := Lib.hid (cOk_parts U R V)
  cases h1 : nodeR U with
  | false =>
    have HF : Hid (Cs.cOk (U, R, V) = false) := by show _ = _; rw [HC.out, h1]; rfl
    have H1 := Lib.hid h1
    clear h1 HC
    go_enter Tryz.func71, Tryz.ntmps71
    go_wp2_with fail
    refine (sideOk_any _ U).mono ?_
    rintro e w1 ⟨rfl, rfl⟩
    rw [H1.out]
    go_wp2
    go_ret
    exact ⟨by rw [HF.out]; rfl, HB.out⟩
  | true =>
    have H1 := Lib.hid h1
    cases h2 : nodeR V with
    | false =>
      have HF : Hid (Cs.cOk (U, R, V) = false) := by show _ = _; rw [HC.out, h1, h2]; rfl
      have H2 := Lib.hid h2
      clear h1 h2 HC
      go_enter Tryz.func71, Tryz.ntmps71
      go_wp2_with fail
      refine (sideOk_any _ U).mono ?_
      rintro e w1 ⟨rfl, rfl⟩
      rw [H1.out]
      go_wp2_with fail
      refine (sideOk_any _ V).mono ?_
      rintro e w1 ⟨rfl, rfl⟩
      rw [H2.out]
      go_wp2
      go_ret
      exact ⟨by rw [HF.out]; rfl, HB.out⟩
    | true =>
      have H2 := Lib.hid h2
      have HF : Hid (Cs.cOk (U, R, V) = (decide (0 ≤ R) && decide (R ≤ 2))) := by show _ = _; rw [HC.out, h1, h2]; rfl
      clear h1 h2 HC
      by_cases h3 : 0 ≤ R
      · have HG : Hid (Cs.cOk (U, R, V) = decide (R ≤ 2)) := by show _ = _; rw [HF.out, decide_eq_true h3]; rfl
        have d3 : decide (0 ≤ R) = true := decide_eq_true h3
        go_enter Tryz.func71, Tryz.ntmps71
        go_wp2_with fail
        refine (sideOk_any _ U).mono ?_
        rintro e w1 ⟨rfl, rfl⟩
        rw [H1.out]
        go_wp2_with fail
        refine (sideOk_any _ V).mono ?_
        rintro e w1 ⟨rfl, rfl⟩
        rw [H2.out]
        go_wp2
        go_ret
        exact ⟨by rw [HG.out]; rfl, HB.out⟩
      · have HG : Hid (Cs.cOk (U, R, V) = false) := by show _ = _; rw [HF.out]; simp [h3]
        have d3 : decide (0 ≤ R) = false := decide_eq_false h3
        go_enter Tryz.func71, Tryz.ntmps71
        go_wp2_with fail
        refine (sideOk_any _ U).mono ?_
        rintro e w1 ⟨rfl, rfl⟩
        rw [H1.out]
        go_wp2_with fail
        refine (sideOk_any _ V).mono ?_
        rintro e w1 ⟨rfl, rfl⟩
        rw [H2.out]
        go_wp2
        go_ret
        exact ⟨by rw [HG.out]; rfl, HB.out⟩

theorem consOkR_long {l : List Cn} (h : ¬ l.length ≤ 24) : consOkR l = false := by
  cases e : consOkR l with
  | false => rfl
  | true => exact absurd (consOkR_ok e).2 h
theorem consOkR_bad {l : List Cn} {k : Nat} {t : Cn} (hk : k < l.length) (ht : l.getD k (0, 0, 0) = t) (h : Cs.cOk t = false) : consOkR l = false := by
  cases e : consOkR l with
  | false => rfl
  | true =>
    have := (consOkR_ok e).1 (l.getD k (0, 0, 0)) (by rw [List.getD_eq_getElem?_getD, List.getElem?_eq_getElem hk]; exact List.getElem_mem _)
    rw [ht, h] at this
    cases this
theorem consOkR_all {l : List Cn} (hl : l.length ≤ 24) (h : ∀ j, j < l.length → Cs.cOk (l.getD j (0, 0, 0)) = true) : consOkR l = true := by
  simp only [consOkR, Bool.and_eq_true, List.all_eq_true, decide_eq_true_eq]
  refine ⟨fun c hc => ?_, hl⟩
  obtain ⟨j, hj, rfl⟩ := List.getElem_of_mem hc
  have := h j hj
  rw [List.getD_eq_getElem?_getD, List.getElem?_eq_getElem hj] at this
  exact this
set_option maxRecDepth 100000 in
set_option maxHeartbeats 1600000 in
theorem implConsOk_any (w : World) (B : Nat) (A : Option Addr) (n c : Nat) (l : List Cn) (hB : B ≤ w.heap.size) (hl : ConR w B A n l) (hn : (n : Int) ≤ 140737488355328) :
    Calls Tryz.prog 63 #[.slice A n c] w fun e w' => e = .returned (.bool (consOkR l)) ∧ Below w.heap.size w w' := by
  by_cases h24 : n ≤ 24
  · have h24i : ¬ (24 : Int) < (n : Int) := by omega
    go_enter Tryz.func63, Tryz.ntmps63
    go_wp2
    go_loopw [10] (fun i wr => ∃ k : Nat, k ≤ n ∧ i = .int .i64 k ∧ Hid (∀ j, j < k → Cs.cOk (l.getD j (0, 0, 0)) = true) ∧ Hid (Below w.heap.size w wr)) (fun i _ => n - (intOf i).toNat)
    case atStart => exact ⟨0, Nat.zero_le _, rfl, (fun j hj => absurd hj (by omega)), Below.refl _ _⟩
    case round =>
      obtain ⟨k, hk, rfl, HA, HBR⟩ := hrel
      have hszr := HBR.out.size
      by_cases hlt : k < n
      · have hki : (k : Int) < (n : Int) := by omega
        obtain ⟨b, off, hA, hb, hc⟩ := hl.2 (by omega)
        obtain ⟨x1, x2, x3⟩ := hc k hlt
        have HL := Lib.hid hl.1
        obtain ⟨t, ht⟩ : ∃ t, l.getD k (0, 0, 0) = t := ⟨_, rfl⟩
        rw [ht] at x1 x2 x3
        obtain ⟨U, R, V⟩ := t
        have HT := Lib.hid ht
        subst hA
        have k1 := (HBR.out.cell (p := ⟨b, off + k * 3, none⟩) (by show b < _; omega)).trans x1
        have k2 := (HBR.out.cell (p := ⟨b, off + k * 3 + 1, none⟩) (by show b < _; omega)).trans x2
        have k3 := (HBR.out.cell (p := ⟨b, off + k * 3 + 2, none⟩) (by show b < _; omega)).trans x3
        obtain ⟨W1, hW1⟩ : ∃ W1, wr.alloc (.cells #[.int .i64 U, .int .i64 R, .int .i64 V] 41) = W1 := ⟨_, rfl⟩
        have hb1 : Below wr.heap.size wr W1 := by rw [← hW1]; exact (Below.refl _ _).alloc (Nat.le_refl _) _
        have hbx : Blk W1 wr.heap.size 41 #[.int .i64 U, .int .i64 R, .int .i64 V] := by rw [← hW1]; exact Blk.made _ _ _
        have y0 : W1.cell? ⟨wr.heap.size, 0, none⟩ = some (.int .i64 U) := hbx.cell 0
        have y1 : W1.cell? ⟨wr.heap.size, 1, none⟩ = some (.int .i64 R) := hbx.cell 1
        have y2 : W1.cell? ⟨wr.heap.size, 2, none⟩ = some (.int .i64 V) := hbx.cell 2
        have HB1 := Lib.hid (HBR.out.trans (hb1.mono hszr))
        clear hc ht x1 x2 x3 hl hbx hb1
        go_wp2_with fail
        refine (implConOk_any W1 U R V).mono ?_
        rintro e w2 ⟨rfl, hb2⟩
        have HB2 := Lib.hid (HB1.out.trans (hb2.mono HB1.out.size))
        clear hb2
        cases hok : Cs.cOk (U, R, V) with
        | true =>
          have HA2 : Hid (∀ j, j < k + 1 → Cs.cOk (l.getD j (0, 0, 0)) = true) := fun j hj => by
            by_cases e : j = k
            · subst e; rw [HT.out]; exact hok
            · exact HA.out j (by omega)
          clear hok
          go_wp2
          go_roundw
          case rel => exact ⟨k + 1, by omega, by go_num, HA2.out, HB2.out⟩
          case measure => simp [intOf]; omega
        | false =>
          have HF := Lib.hid (consOkR_bad (by rw [HL.out]; exact hlt) HT.out hok)
          clear hok
          go_wp2
          go_ret
          exact ⟨by rw [HF.out]; rfl, HB2.out⟩
      · obtain rfl : k = n := by omega
        have hkk : ¬ (k : Int) < (k : Int) := by omega
        have HF := Lib.hid (consOkR_all (l := l) (by rw [hl.1]; exact h24) (fun j hj => HA.out j (by rw [← hl.1]; exact hj)))
        clear hl
        go_wp2
        go_ret
        exact ⟨by rw [HF.out]; rfl, HBR.out⟩
  · have h24i : (24 : Int) < (n : Int) := by omega
    have HF := Lib.hid (consOkR_long (l := l) (by rw [hl.1]; exact h24))
    clear hl
    go_enter Tryz.func63, Tryz.ntmps63
    go_wp2
    go_ret
    exact ⟨by rw [HF.out]; rfl, Below.refl _ _⟩
end Go.Proofs.YtgebjnoicgmdoaaGreatDoor

namespace Go.Proofs.YtgebjnoicgmdoaaGreatDoor
open Go.RowKit
open Cs (Cn)

theorem IntOwn.below {w w' : World} {g n B : Nat} {l : List Int} (h : IntOwn w g n l) (hb : Below B w w') (hg : g < B) : IntOwn w' g n l := by
  obtain ⟨hl, cs, hblk, rest⟩ := h
  exact ⟨hl, cs, hblk.below hb hg, rest⟩
/-- the value of a side in an env -/
def valR (env : List Int) (p : Int) : Int := if p < 0 then 0 else env.getD p.toNat 0
/-- whether a constraint is satisfied in an env -/
def holdR (env : List Int) (c : Cn) : Bool := if c.2.1 = 0 then decide (valR env c.1 ≤ valR env c.2.2) else if c.2.1 = 1 then decide (valR env c.1 < valR env c.2.2) else (valR env c.1 == valR env c.2.2)
def consHoldR (l : List Cn) (env : List Int) : Bool := consOkR l && envOk env && l.all (holdR env)
end Go.Proofs.YtgebjnoicgmdoaaGreatDoor

namespace Go.Proofs.YtgebjnoicgmdoaaGreatDoor
open Cs (Cn)

theorem valR_of {env : List Int} {p : Int} (h : -1 ≤ p) : valR env p = Cs.valOf env (Cs.node p) := by
  unfold valR Cs.node
  by_cases e : p < 0
  · rw [if_pos e, show (p + 1).toNat = 0 by omega]
    rfl
  · rw [if_neg e, show (p + 1).toNat = p.toNat + 1 by omega]
    rfl
theorem hold_sat {env : List Int} {c : Cn} (hc : Cs.cOk c = true) : holdR env c = true ↔ Cs.Sat (Cs.valOf env) c := by
  have h := (Cs.cOk_iff c).1 hc
  unfold holdR Cs.Sat
  rw [valR_of h.1.1, valR_of h.2.1.1]
  split
  · simp
  · split
    · simp
    · simp
theorem envOk_pos {env : List Int} (h : envOk env = true) : env.length = 5 ∧ ∀ p, 0 ≤ env.getD p 0 := by
  unfold envOk at h
  simp only [Bool.and_eq_true, decide_eq_true_eq, List.all_eq_true] at h
  refine ⟨h.1, fun p => ?_⟩
  rw [List.getD_eq_getElem?_getD]
  cases hg : env[p]? with
  | none => exact Int.le_refl _
  | some x => exact (h.2 x (List.mem_of_getElem? hg)).1
theorem consHold_sat {l : List Cn} {env : List Int} (hok : consOkR l = true) (he : envOk env = true) : consHoldR l env = true ↔ Cs.SatAll (Cs.valOf env) l := by
  have h1 := (consOkR_ok hok).1
  unfold consHoldR
  rw [hok, he, Bool.true_and, Bool.true_and, List.all_eq_true]
  exact ⟨fun h => ⟨Cs.valOf_val (envOk_pos he).2, fun c hc => (hold_sat (h1 c hc)).1 (h c hc)⟩, fun h c hc => (hold_sat (h1 c hc)).2 (h.2 c hc)⟩
end Go.Proofs.YtgebjnoicgmdoaaGreatDoor

namespace Go.Proofs.YtgebjnoicgmdoaaGreatDoor
open Go.RowKit
open Cs (Cn Tb)

theorem own_set {w : World} {base g n c size : Nat} {e : TypeId} {xs : List Value} (h : w.ownsRow base e size (.slice (some ⟨g, 0, none⟩) n c) n xs) (i : Nat) (u : Value) :
    (w.setCell ⟨g, i, none⟩ u).ownsRow base e size (.slice (some ⟨g, 0, none⟩) n c) n (xs.set i u) := by
  refine ⟨by rw [List.length_set]; exact h.1, ?_⟩
  rcases h.2 with ⟨h0, _⟩ | ⟨g', cap, cur, hv, hb, hgg, h1, h2, h3, h4⟩
  · cases h0
  · injection hv with e1 e2 e3
    injection e1 with e1
    injection e1 with e1
    subst e1; subst e3
    refine .inr ⟨g, c, _, rfl, hb, Blk.put (w := w) (t := e) hgg i u, h1, h2, by simp [h3], ?_⟩
    rw [Array.toList_setIfInBounds, List.take_set, h4]
/-- a row of a table -/
def rowL (d : Tb) (i : Nat) : List Int := (List.range 6).map fun j => d i j
theorem rowL_len (d : Tb) (i : Nat) : (rowL d i).length = 6 := by simp [rowL]
theorem rowL_get (d : Tb) (i : Nat) {j : Nat} (hj : j < 6) : (rowL d i).getD j 0 = d i j := by simp [rowL, List.getD_eq_getElem?_getD, hj]
theorem rowL_put (d : Tb) (i j : Nat) (x : Int) : (rowL d i).set j x = rowL (Cs.put d i j x) i := by
  apply List.ext_getElem (by simp [rowL])
  intro k h1 h2
  rw [List.getElem_set]
  by_cases e : j = k
  · subst e
    rw [if_pos rfl]
    simp [rowL, Cs.put]
  · rw [if_neg e]
    simp only [rowL, List.getElem_map, List.getElem_range]
    exact (Cs.put_other d x (fun h => e h.2.symm)).symm
theorem rowL_other (d : Tb) {i a : Nat} (h : a ≠ i) (j : Nat) (x : Int) : rowL (Cs.put d i j x) a = rowL d a := by
  unfold rowL
  apply List.map_congr_left
  intro k _
  exact Cs.put_other d x (fun e => h e.1)
/-- the rows of a table, as values -/
def rowVs (rw cp : Nat → Nat) (n : Nat) : List Value := (List.range n).map fun i => .slice (some ⟨rw i, 0, none⟩) 6 (cp i)
theorem rowVs_get (rw cp : Nat → Nat) {n i : Nat} (hi : i < n) : (rowVs rw cp n)[i]? = some (.slice (some ⟨rw i, 0, none⟩) 6 (cp i)) := by simp [rowVs, hi]
/-- the first n rows of a table -/
structure TabN (w : World) (base g cap n : Nat) (rw cp : Nat → Nat) (d : Tb) : Prop where
  out : w.ownsRow base 29 1 (.slice (some ⟨g, 0, none⟩) n cap) n (rowVs rw cp n)
  row : ∀ i, i < n → OwnI w base (some ⟨rw i, 0, none⟩) 6 (cp i) (rowL d i)
  inj : ∀ i j, i < n → j < n → rw i = rw j → i = j
theorem TabN.below {w w' : World} {base g cap n : Nat} {rw cp : Nat → Nat} {d : Tb} (h : TabN w base g cap n rw cp d) (hb : Below w.heap.size w w') : TabN w' base g cap n rw cp d :=
  ⟨own_below' h.out hb, fun i hi => own_below' (h.row i hi) hb, h.inj⟩
theorem TabN.head {w : World} {base g cap n : Nat} {rw cp : Nat → Nat} {d : Tb} (h : TabN w base g cap n rw cp d) {i : Nat} (hi : i < n) : w.cell? ⟨g, i, none⟩ = some (.slice (some ⟨rw i, 0, none⟩) 6 (cp i)) := by
  have := h.out.cells (g := g) rfl i _ (rowVs_get rw cp hi)
  rw [own_adds] at this
  exact this
theorem TabN.spot {w : World} {base g cap n : Nat} {rw cp : Nat → Nat} {d : Tb} (h : TabN w base g cap n rw cp d) {i j : Nat} (hi : i < n) (hj : j < 6) : w.cell? ⟨rw i, j, none⟩ = some (.int .i64 (d i j)) ∧ w.frozen? ⟨rw i, j, none⟩ = false := by
  have hr := h.row i hi
  obtain ⟨b, off, hA, _, hc⟩ := (OwnI.reads hr).2 (by omega)
  injection hA with e2
  injection e2 with e2 e3
  subst e2; subst e3
  have := hc j hj
  rw [Nat.zero_add, rowL_get d i hj] at this
  refine ⟨this, ?_⟩
  rcases hr.2 with ⟨h0, _⟩ | ⟨g', cap', cur, hv, _, hgg, _⟩
  · cases h0
  · injection hv with e1
    injection e1 with e1
    injection e1 with e1
    rw [e1]
    exact Blk.thawed (w := w) hgg j
theorem TabN.put {w : World} {base g cap n : Nat} {rw cp : Nat → Nat} {d : Tb} (h : TabN w base g cap n rw cp d) {i : Nat} (hi : i < n) (j : Nat) (x : Int) :
    TabN (w.setCell ⟨rw i, j, none⟩ (.int .i64 x)) base g cap n rw cp (Cs.put d i j x) := by
  have hr := h.row i hi
  obtain ⟨cs, hblk⟩ := own_blk hr (rw i) rfl
  have grown : w.grownBy (w.setCell ⟨rw i, j, none⟩ (.int .i64 x)) (some (rw i)) := ⟨rfl, rfl, rfl, by simp [World.setCell], fun k _ hk => Below.heap_setCell _ _ _ _ (fun e => hk (by rw [e]))⟩
  refine ⟨h.out.kept grown (.inr ?_), fun a ha => ?_, h.inj⟩
  · exact own_apart h.out hblk (by decide)
  · by_cases e : a = i
    · subst e
      have := own_set hr j (.int .i64 x)
      rw [← List.map_set, rowL_put d a j x] at this
      exact this
    · rw [rowL_other d e j x]
      refine (h.row a ha).kept grown (.inr fun e2 => ?_)
      have e3 : rw a = rw i := by simpa [Value.ownBlock] using e2
      exact e (h.inj a i ha hi e3)
theorem TabN.base {w : World} {base g cap n : Nat} {rw cp : Nat → Nat} {d : Tb} (h : TabN w base g cap n rw cp d) {i : Nat} (hi : i < n) : base ≤ rw i ∧ rw i < w.heap.size := (h.row i hi).lt (rw i) rfl
end Go.Proofs.YtgebjnoicgmdoaaGreatDoor
