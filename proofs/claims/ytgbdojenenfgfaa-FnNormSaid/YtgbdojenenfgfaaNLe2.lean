/- NormLe of the reference model. -/
import Derived.Test.YtgbdojenenfgfaaNLe
namespace Go.Proofs.Ytgbdojenenfgfaa
open Go.RowKit

open Classical in
/-- some of the first k atoms of m serves for x -/
noncomputable def heldB (x : Int × Int) (m : List (Int × Int)) (k : Nat) : Bool := decide (∃ j, j < k ∧ Fits x (m.getD j (0, 0)))
theorem heldB_zero (x : Int × Int) (m : List (Int × Int)) : heldB x m 0 = false := by simp [heldB]
theorem heldB_yes {x : Int × Int} {m : List (Int × Int)} {k : Nat} (h : Fits x (m.getD k (0, 0))) : heldB x m (k + 1) = true := by
  simp only [heldB, decide_eq_true_eq]; exact ⟨k, by omega, h⟩
theorem heldB_had {x : Int × Int} {m : List (Int × Int)} {k : Nat} (h : heldB x m k = true) : heldB x m (k + 1) = true := by
  simp only [heldB, decide_eq_true_eq] at h ⊢
  obtain ⟨j, hj, hh⟩ := h
  exact ⟨j, by omega, hh⟩
theorem heldB_no {x : Int × Int} {m : List (Int × Int)} {k : Nat} (h : heldB x m k = false) (hn : ¬ Fits x (m.getD k (0, 0))) : heldB x m (k + 1) = false := by
  simp only [heldB, decide_eq_false_iff_not] at h ⊢
  rintro ⟨j, hj, hh⟩
  by_cases e : j = k
  · subst e; exact hn hh
  · exact h ⟨j, by omega, hh⟩
theorem heldB_all (x : Int × Int) (m : List (Int × Int)) : heldB x m m.length = true ↔ Nm.atomLe x m := by
  simp only [heldB, decide_eq_true_eq]
  exact Iff.rfl

set_option maxRecDepth 100000 in
set_option maxHeartbeats 3200000 in
theorem specNormLe_any (w : World) (B : Nat) (A1 : Option Addr) (n1 c1 : Nat) (l : List (Int × Int)) (A2 : Option Addr) (n2 c2 : Nat) (m : List (Int × Int)) (hB : B ≤ w.heap.size) (hl : TokR w B A1 n1 l) (hn1 : (n1 : Int) ≤ 140737488355328)
    (hm : TokR w B A2 n2 m) (hn2 : (n2 : Int) ≤ 140737488355328) :
    Calls Try.prog 24 #[.slice A1 n1 c1, .slice A2 n2 c2] w fun e w' => e = .returned (.bool (Nm.normLe l m)) ∧ Below w.heap.size w w' := by
  cases h1 : Nm.normOk l with
  | false =>
    have HF := Lib.hid (normLe_notA (b := m) h1)
    have HO := Lib.hid h1
    clear h1
    go_enter Try.func24, Try.ntmps24
    go_wp2_with fail
    refine (specNormOk_any w B A1 n1 c1 l hB hl hn1).mono ?_
    rintro e w1 ⟨rfl, hb1⟩
    rw [HO.out]
    go_wp2
    go_ret
    exact ⟨by rw [HF.out]; rfl, hb1⟩
  | true =>
    have HO := Lib.hid h1
    clear h1
    cases h2 : Nm.normOk m with
    | false =>
      have HF := Lib.hid (normLe_notB (a := l) h2)
      have HO2 := Lib.hid h2
      clear h2
      go_enter Try.func24, Try.ntmps24
      go_wp2_with fail
      refine (specNormOk_any w B A1 n1 c1 l hB hl hn1).mono ?_
      rintro e w1 ⟨rfl, hb1⟩
      rw [HO.out]
      go_wp2_with fail
      refine (specNormOk_any w1 B A2 n2 c2 m (Nat.le_trans hB hb1.size) (hm.below (hb1.mono hB)) hn2).mono ?_
      rintro e w2 ⟨rfl, hb2⟩
      rw [HO2.out]
      have HB := Lib.hid (hb1.trans (hb2.mono hb1.size))
      go_wp2
      go_ret
      exact ⟨by rw [HF.out]; rfl, HB.out⟩
    | true =>
      have HO2 := Lib.hid h2
      clear h2
      go_enter Try.func24, Try.ntmps24
      go_wp2_with fail
      refine (specNormOk_any w B A1 n1 c1 l hB hl hn1).mono ?_
      rintro e w1 ⟨rfl, hb1⟩
      rw [HO.out]
      go_wp2_with fail
      refine (specNormOk_any w1 B A2 n2 c2 m (Nat.le_trans hB hb1.size) (hm.below (hb1.mono hB)) hn2).mono ?_
      rintro e w2 ⟨rfl, hb2⟩
      rw [HO2.out]
      have HB := Lib.hid (hb1.trans (hb2.mono hb1.size))
      clear hb1 hb2
      go_wp2
      go_loopw [5] (fun i wr => ∃ k : Nat, k ≤ n1 ∧ i = .int .i64 k ∧ Hid (∀ j, j < k → Nm.atomLe (l.getD j (0, 0)) m) ∧ Below w.heap.size w wr) (fun i _ => n1 - (intOf i).toNat)
      case atStart => exact ⟨0, Nat.zero_le _, rfl, (fun j hj => absurd hj (by omega)), HB.out⟩
      case round =>
        obtain ⟨k, hk, rfl, HA, hbel⟩ := hrel
        by_cases hlt : k < n1
        · obtain ⟨b, off, rfl, hb, hc⟩ := hl.2 (by omega)
          obtain ⟨e1, e2⟩ := hc k hlt
          have HL := Lib.hid hl.1
          obtain ⟨t, ht⟩ : ∃ t, l.getD k (0, 0) = t := ⟨_, rfl⟩
          rw [ht] at e1 e2
          obtain ⟨p, x⟩ := t
          have HT := Lib.hid ht
          have HE1 := Lib.hid e1
          have HE2 := Lib.hid e2
          have hki : (k : Int) < (n1 : Int) := by omega
          have HBO := Lib.hid hbel
          clear e1 e2 hc hl ht
          go_wp2
          go_loopw [6, 7] (fun h i wr => ∃ j : Nat, j ≤ n2 ∧ i = .int .i64 j ∧ h = .bool (heldB (p, x) m j) ∧ Below w.heap.size w wr) (fun _ i _ => n2 - (intOf i).toNat)
          case atStart => exact ⟨0, Nat.zero_le _, rfl, by rw [heldB_zero], HBO.out⟩
          case round =>
            rename_i wq
            obtain ⟨j, hj, rfl, rfl, hbel⟩ := hrel
            by_cases hlt2 : j < n2
            · obtain ⟨b2, off2, rfl, hb2, hc⟩ := hm.2 (by omega)
              obtain ⟨f1, f2⟩ := hc j hlt2
              obtain ⟨u, hu⟩ : ∃ u, m.getD j (0, 0) = u := ⟨_, rfl⟩
              rw [hu] at f1 f2
              obtain ⟨q, y⟩ := u
              have HU := Lib.hid hu
              have hbr : b < wr.heap.size := by have := hbel.size; omega
              have hbr2 : b2 < wr.heap.size := by have := hbel.size; omega
              have k1 : ∀ d : Later wr, d.out.cell? ⟨b, off + k * 2, none⟩ = some (.int .i64 p) := fun d => d.cell hbr ((hbel.cell (p := ⟨b, off + k * 2, none⟩) (by show b < _; omega)).trans HE1.out)
              have k2 : ∀ d : Later wr, d.out.cell? ⟨b, off + k * 2 + 1, none⟩ = some (.int .i64 x) := fun d => d.cell hbr ((hbel.cell (p := ⟨b, off + k * 2 + 1, none⟩) (by show b < _; omega)).trans HE2.out)
              have k3 : ∀ d : Later wr, d.out.cell? ⟨b2, off2 + j * 2, none⟩ = some (.int .i64 q) := fun d => d.cell hbr2 ((hbel.cell (p := ⟨b2, off2 + j * 2, none⟩) (by show b2 < _; omega)).trans f1)
              have k4 : ∀ d : Later wr, d.out.cell? ⟨b2, off2 + j * 2 + 1, none⟩ = some (.int .i64 y) := fun d => d.cell hbr2 ((hbel.cell (p := ⟨b2, off2 + j * 2 + 1, none⟩) (by show b2 < _; omega)).trans f2)
              have hji : (j : Int) < (n2 : Int) := by omega
              clear f1 f2 hc hu hm
              cases hh : heldB (p, x) m j with
              | true =>
                have HN := Lib.hid (heldB_had hh)
                clear hh
                go_wp2_with fail
                refine region_later (by kernel_rfl) (by kernel_rfl) ?_
                repeat (go_big_quiet_step (fail))
                refine wpQuiet_nil ?_
                intro w1 hb1
                have HB := Lib.hid (hbel.trans (hb1.mono hbel.size))
                clear hb1
                go_wp2
                go_roundw
                case rel => exact ⟨j + 1, by omega, by go_num, by rw [HN.out], HB.out⟩
                case measure => simp [intOf]; omega
              | false =>
                have no_of : ¬ Fits (p, x) (q, y) → Hid (heldB (p, x) m (j + 1) = false) := fun h => heldB_no hh (by rw [HU.out]; exact h)
                have yes_of : Fits (p, x) (q, y) → Hid (heldB (p, x) m (j + 1) = true) := fun h => heldB_yes (by rw [HU.out]; exact h)
                by_cases ep : p = -1
                · subst ep
                  by_cases hx : x ≤ y
                  · have HN := yes_of ⟨.inl rfl, hx⟩
                    clear yes_of no_of hh
                    go_wp2_with fail
                    refine region_later (by kernel_rfl) (by kernel_rfl) ?_
                    repeat (go_big_quiet_step (fail))
                    refine wpQuiet_nil ?_
                    intro w1 hb1
                    have HB := Lib.hid (hbel.trans (hb1.mono hbel.size))
                    clear hb1
                    go_wp2
                    go_roundw
                    case rel => exact ⟨j + 1, by omega, by go_num, by rw [HN.out], HB.out⟩
                    case measure => simp [intOf]; omega
                  · have HN := no_of (fun h => hx h.2)
                    have dx : decide (x ≤ y) = false := by simp; omega
                    clear yes_of no_of hh hx
                    go_wp2_with fail
                    refine region_later (by kernel_rfl) (by kernel_rfl) ?_
                    repeat (go_big_quiet_step (fail))
                    refine wpQuiet_nil ?_
                    intro w1 hb1
                    have HB := Lib.hid (hbel.trans (hb1.mono hbel.size))
                    clear hb1
                    go_wp2
                    go_roundw
                    case rel => exact ⟨j + 1, by omega, by go_num, by rw [HN.out], HB.out⟩
                    case measure => simp [intOf]; omega
                · have dp : (p == -1) = false := by simpa using ep
                  by_cases epq : p = q
                  · subst epq
                    by_cases hx : x ≤ y
                    · have HN := yes_of ⟨.inr rfl, hx⟩
                      clear yes_of no_of hh ep
                      go_wp2_with fail
                      refine region_later (by kernel_rfl) (by kernel_rfl) ?_
                      repeat (go_big_quiet_step (fail))
                      refine wpQuiet_nil ?_
                      intro w1 hb1
                      have HB := Lib.hid (hbel.trans (hb1.mono hbel.size))
                      clear hb1
                      go_wp2
                      go_roundw
                      case rel => exact ⟨j + 1, by omega, by go_num, by rw [HN.out], HB.out⟩
                      case measure => simp [intOf]; omega
                    · have HN := no_of (fun h => hx h.2)
                      have dx : decide (x ≤ y) = false := by simp; omega
                      clear yes_of no_of hh hx ep
                      go_wp2_with fail
                      refine region_later (by kernel_rfl) (by kernel_rfl) ?_
                      repeat (go_big_quiet_step (fail))
                      refine wpQuiet_nil ?_
                      intro w1 hb1
                      have HB := Lib.hid (hbel.trans (hb1.mono hbel.size))
                      clear hb1
                      go_wp2
                      go_roundw
                      case rel => exact ⟨j + 1, by omega, by go_num, by rw [HN.out], HB.out⟩
                      case measure => simp [intOf]; omega
                  · have HN := no_of (fun h => by rcases h.1 with h | h; exact ep h; exact epq h)
                    have dq : (p == q) = false := by simpa using epq
                    clear yes_of no_of hh ep epq
                    go_wp2_with fail
                    refine region_later (by kernel_rfl) (by kernel_rfl) ?_
                    repeat (go_big_quiet_step (fail))
                    refine wpQuiet_nil ?_
                    intro w1 hb1
                    have HB := Lib.hid (hbel.trans (hb1.mono hbel.size))
                    clear hb1
                    go_wp2
                    go_roundw
                    case rel => exact ⟨j + 1, by omega, by go_num, by rw [HN.out], HB.out⟩
                    case measure => simp [intOf]; omega
            · obtain rfl : j = n2 := by omega
              have hmj : m.length = j := hm.1
              clear hm
              cases hh : heldB (p, x) m j with
              | true =>
                have HA2 : Hid (∀ i, i < k + 1 → Nm.atomLe (l.getD i (0, 0)) m) := by
                  intro i hi
                  by_cases e : i = k
                  · subst e; rw [HT.out, ← heldB_all, hmj]; exact hh
                  · exact HA.out i (by omega)
                clear hh hmj
                go_wp2
                go_roundw
                case rel => exact ⟨k + 1, by omega, by go_num, HA2.out, hbel⟩
                case measure => simp [intOf]; omega
              | false =>
                have HF : Hid (Nm.normLe l m = false) := Nm.normLe_no (fun h => by
                  have h' := h.2.2 k (by rw [HL.out]; exact hlt)
                  rw [HT.out, ← heldB_all, hmj, hh] at h'
                  cases h')
                clear hh hmj
                go_wp2
                go_ret
                exact ⟨by rw [HF.out]; rfl, hbel⟩
        · have HF : Hid (Nm.normLe l m = true) := (Nm.normLe_iff l m).2 ⟨(Nm.normOk_iff l).1 HO.out, (Nm.normOk_iff m).1 HO2.out, fun j hj => HA.out j (by have := hl.1; omega)⟩
          clear hl hm
          go_wp2
          go_ret
          exact ⟨by rw [HF.out]; rfl, hbel⟩
end Go.Proofs.Ytgbdojenenfgfaa
