/- ResidLe of the reference model (written by tools/mkrle.py). -/
import Derived.Test.YtmbcjddahncocaaDoorDcMath
import Derived.Test.YtmbcjddahncocaaDoorUnAtom3

namespace Go.Proofs.YtmbcjddahncocaaDoor
open Go.RowKit

open Classical in
/-- some of the first k atoms of m serves for x -/
noncomputable def rheldB (x : Int × Int) (m : List (Int × Int)) (k : Nat) : Bool := decide (∃ j, j < k ∧ Nm.RFits x (m.getD j (0, 0)))
theorem rheldB_zero (x : Int × Int) (m : List (Int × Int)) : rheldB x m 0 = false := by simp [rheldB]
theorem rheldB_yes {x : Int × Int} {m : List (Int × Int)} {k : Nat} (h : Nm.RFits x (m.getD k (0, 0))) : rheldB x m (k + 1) = true := by
  simp only [rheldB, decide_eq_true_eq]; exact ⟨k, by omega, h⟩
theorem rheldB_had {x : Int × Int} {m : List (Int × Int)} {k : Nat} (h : rheldB x m k = true) : rheldB x m (k + 1) = true := by
  simp only [rheldB, decide_eq_true_eq] at h ⊢
  obtain ⟨j, hj, hh⟩ := h
  exact ⟨j, by omega, hh⟩
theorem rheldB_no {x : Int × Int} {m : List (Int × Int)} {k : Nat} (h : rheldB x m k = false) (hn : ¬ Nm.RFits x (m.getD k (0, 0))) : rheldB x m (k + 1) = false := by
  simp only [rheldB, decide_eq_false_iff_not] at h ⊢
  rintro ⟨j, hj, hh⟩
  by_cases e : j = k
  · subst e; exact hn hh
  · exact h ⟨j, by omega, hh⟩
theorem rheldB_all (x : Int × Int) (m : List (Int × Int)) : rheldB x m m.length = true ↔ Nm.ratomLe x m := by
  simp only [rheldB, decide_eq_true_eq]
  exact Iff.rfl

set_option maxRecDepth 100000 in
set_option maxHeartbeats 12800000 in
theorem specResidLe_any (w : World) (B : Nat) (A1 : Option Addr) (n1 c1 : Nat) (l : List (Int × Int)) (A2 : Option Addr) (n2 c2 : Nat) (m : List (Int × Int)) (s : Int) (hB : B ≤ w.heap.size) (hl : TokR w B A1 n1 l) (hn1 : (n1 : Int) ≤ 140737488355328)
    (hm : TokR w B A2 n2 m) (hn2 : (n2 : Int) ≤ 140737488355328) :
    Calls Tryd.prog 65 #[.slice A1 n1 c1, .slice A2 n2 c2, .int .i64 s] w fun e w' => e = .returned (.bool (Nm.residLe s l m)) ∧ Below w.heap.size w w' := by
  cases h1 : Nm.residOk s l with
  | false =>
    have HF := Lib.hid (Nm.residLe_notA (b := m) h1)
    have HO := Lib.hid h1
    clear h1
    go_enter Tryd.func65, Tryd.ntmps65
    go_wp2_with fail
    refine (specResidOk_any w B A1 n1 c1 l s hB hl hn1).mono ?_
    rintro e w1 ⟨rfl, hb1⟩
    rw [HO.out]
    go_wp2
    go_ret
    exact ⟨by rw [HF.out]; rfl, hb1⟩
  | true =>
    have HO := Lib.hid h1
    clear h1
    cases h2 : Nm.residOk s m with
    | false =>
      have HF := Lib.hid (Nm.residLe_notB (a := l) h2)
      have HO2 := Lib.hid h2
      clear h2
      go_enter Tryd.func65, Tryd.ntmps65
      go_wp2_with fail
      refine (specResidOk_any w B A1 n1 c1 l s hB hl hn1).mono ?_
      rintro e w1 ⟨rfl, hb1⟩
      rw [HO.out]
      go_wp2_with fail
      refine (specResidOk_any w1 B A2 n2 c2 m s (Nat.le_trans hB hb1.size) (hm.below (hb1.mono hB)) hn2).mono ?_
      rintro e w2 ⟨rfl, hb2⟩
      rw [HO2.out]
      have HB := Lib.hid (hb1.trans (hb2.mono hb1.size))
      go_wp2
      go_ret
      exact ⟨by rw [HF.out]; rfl, HB.out⟩
    | true =>
      have HO2 := Lib.hid h2
      have HMO := Lib.hid ((Nm.residOk_iff s m).1 h2).2.2.1
      clear h2
      go_enter Tryd.func65, Tryd.ntmps65
      go_wp2_with fail
      refine (specResidOk_any w B A1 n1 c1 l s hB hl hn1).mono ?_
      rintro e w1 ⟨rfl, hb1⟩
      rw [HO.out]
      go_wp2_with fail
      refine (specResidOk_any w1 B A2 n2 c2 m s (Nat.le_trans hB hb1.size) (hm.below (hb1.mono hB)) hn2).mono ?_
      rintro e w2 ⟨rfl, hb2⟩
      rw [HO2.out]
      have HB := Lib.hid (hb1.trans (hb2.mono hb1.size))
      clear hb1 hb2
      go_wp2
      go_loopw [7] (fun i wr => ∃ k : Nat, k ≤ n1 ∧ i = .int .i64 k ∧ Hid (∀ j, j < k → Nm.ratomLe (l.getD j (0, 0)) m) ∧ Below w.heap.size w wr) (fun i _ => n1 - (intOf i).toNat)
      case atStart => exact ⟨0, Nat.zero_le _, rfl, (fun j hj => absurd hj (by omega)), HB.out⟩
      case round =>
        obtain ⟨k, hk, rfl, HA, hbel⟩ := hrel
        by_cases hlt : k < n1
        · obtain ⟨b, off, rfl, hb, hc⟩ := hl.2 (by omega)
          obtain ⟨e1, e2⟩ := hc k hlt
          have HL := Lib.hid hl.1
          obtain ⟨t, ht⟩ : ∃ t, l.getD k (0, 0) = t := ⟨_, rfl⟩
          rw [ht] at e1 e2
          obtain ⟨p, x⟩ := t
          have HT := Lib.hid ht
          have HE1 := Lib.hid e1
          have HE2 := Lib.hid e2
          have hki : (k : Int) < (n1 : Int) := by omega
          have HBO := Lib.hid hbel
          clear e1 e2 hc hl ht
          go_wp2
          go_loopw [8, 9] (fun h i wr => ∃ j : Nat, j ≤ n2 ∧ i = .int .i64 j ∧ h = .bool (rheldB (p, x) m j) ∧ Below w.heap.size w wr) (fun _ i _ => n2 - (intOf i).toNat)
          case atStart => exact ⟨0, Nat.zero_le _, rfl, by rw [rheldB_zero], HBO.out⟩
          case round =>
            rename_i wq
            obtain ⟨j, hj, rfl, rfl, hbel⟩ := hrel
            by_cases hlt2 : j < n2
            · obtain ⟨b2, off2, rfl, hb2, hc⟩ := hm.2 (by omega)
              obtain ⟨f1, f2⟩ := hc j hlt2
              have hat := (Nm.atOk_iff _).1 (HMO.out j (by rw [hm.1]; exact hlt2))
              obtain ⟨u, hu⟩ : ∃ u, m.getD j (0, 0) = u := ⟨_, rfl⟩
              rw [hu] at f1 f2 hat
              obtain ⟨q, y⟩ := u
              simp only at hat
              obtain ⟨a1, a2, a3, a4⟩ := hat
              have hy1 : IntKind.i64.wrap (y + 1) = y + 1 := by rw [IntKind.wrap_i64]; omega
              have HU := Lib.hid hu
              have HF1 := Lib.hid f1
              have HF2 := Lib.hid f2
              have hji : (j : Int) < (n2 : Int) := by omega
              have mk1 : ∀ wv : World, Below w.heap.size w wv → ∀ d : Later wv, d.out.cell? ⟨b, off + k * 2, none⟩ = some (.int .i64 p) := fun wv hv d => d.cell (by show b < _; have := hv.size; omega) ((hv.cell (p := ⟨b, off + k * 2, none⟩) (by show b < _; omega)).trans HE1.out)
              have mk2 : ∀ wv : World, Below w.heap.size w wv → ∀ d : Later wv, d.out.cell? ⟨b, off + k * 2 + 1, none⟩ = some (.int .i64 x) := fun wv hv d => d.cell (by show b < _; have := hv.size; omega) ((hv.cell (p := ⟨b, off + k * 2 + 1, none⟩) (by show b < _; omega)).trans HE2.out)
              have mk3 : ∀ wv : World, Below w.heap.size w wv → ∀ d : Later wv, d.out.cell? ⟨b2, off2 + j * 2, none⟩ = some (.int .i64 q) := fun wv hv d => d.cell (by show b2 < _; have := hv.size; omega) ((hv.cell (p := ⟨b2, off2 + j * 2, none⟩) (by show b2 < _; omega)).trans HF1.out)
              have mk4 : ∀ wv : World, Below w.heap.size w wv → ∀ d : Later wv, d.out.cell? ⟨b2, off2 + j * 2 + 1, none⟩ = some (.int .i64 y) := fun wv hv d => d.cell (by show b2 < _; have := hv.size; omega) ((hv.cell (p := ⟨b2, off2 + j * 2 + 1, none⟩) (by show b2 < _; omega)).trans HF2.out)
              have HK1 := Lib.hid mk1
              have HK2 := Lib.hid mk2
              have HK3 := Lib.hid mk3
              have HK4 := Lib.hid mk4
              clear f1 f2 hc hu hm mk1 mk2 mk3 mk4
              cases hh : rheldB (p, x) m j with
              | true =>
                have HN0 := Lib.hid (rheldB_had hh)
                clear hh
                by_cases epq : p = q
                · subst epq
                  by_cases hx : x ≤ y
                  · skip
                    have HN := HN0
                    have k1 := HK1.out wr hbel
                    have k2 := HK2.out wr hbel
                    have k3 := HK3.out wr hbel
                    have k4 := HK4.out wr hbel
                    go_wp2_with fail
                    refine region_later (by kernel_rfl) (by kernel_rfl) ?_
                    repeat (go_big_quiet_step (fail))
                    refine wpQuiet_nil ?_
                    intro w1 hb1
                    have hbel1 := hbel.trans (hb1.mono hbel.size)
                    clear hb1 k1 k2 k3 k4
                    have k1 := HK1.out w1 hbel1
                    have k2 := HK2.out w1 hbel1
                    have k3 := HK3.out w1 hbel1
                    have k4 := HK4.out w1 hbel1
                    go_wp2_with fail
                    refine region_later (by kernel_rfl) (by kernel_rfl) ?_
                    repeat (go_big_quiet_step (fail))
                    refine wpQuiet_nil ?_
                    intro w2 hb2
                    have HB := Lib.hid (hbel1.trans (hb2.mono hbel1.size))
                    clear hb2 k1 k2 k3 k4
                    go_wp2
                    go_roundw
                    case rel => exact ⟨j + 1, by omega, by go_num, by rw [HN.out], HB.out⟩
                    case measure => simp [intOf]; omega
                  · have dx : decide (x ≤ y) = false := by simp; omega
                    by_cases ep : p = -1
                    · subst ep
                      have HN := HN0
                      clear hx
                      have k1 := HK1.out wr hbel
                      have k2 := HK2.out wr hbel
                      have k3 := HK3.out wr hbel
                      have k4 := HK4.out wr hbel
                      go_wp2_with fail
                      refine region_later (by kernel_rfl) (by kernel_rfl) ?_
                      repeat (go_big_quiet_step (fail))
                      refine wpQuiet_nil ?_
                      intro w1 hb1
                      have hbel1 := hbel.trans (hb1.mono hbel.size)
                      clear hb1 k1 k2 k3 k4
                      have k1 := HK1.out w1 hbel1
                      have k2 := HK2.out w1 hbel1
                      have k3 := HK3.out w1 hbel1
                      have k4 := HK4.out w1 hbel1
                      go_wp2_with fail
                      refine region_later (by kernel_rfl) (by kernel_rfl) ?_
                      repeat (go_big_quiet_step (fail))
                      refine wpQuiet_nil ?_
                      intro w2 hb2
                      have HB := Lib.hid (hbel1.trans (hb2.mono hbel1.size))
                      clear hb2 k1 k2 k3 k4
                      go_wp2
                      go_roundw
                      case rel => exact ⟨j + 1, by omega, by go_num, by rw [HN.out], HB.out⟩
                      case measure => simp [intOf]; omega
                    · have dp : (p == -1) = false := by simpa using ep
                      have HN := HN0
                      clear hx ep
                      have k1 := HK1.out wr hbel
                      have k2 := HK2.out wr hbel
                      have k3 := HK3.out wr hbel
                      have k4 := HK4.out wr hbel
                      go_wp2_with fail
                      refine region_later (by kernel_rfl) (by kernel_rfl) ?_
                      repeat (go_big_quiet_step (fail))
                      refine wpQuiet_nil ?_
                      intro w1 hb1
                      have hbel1 := hbel.trans (hb1.mono hbel.size)
                      clear hb1 k1 k2 k3 k4
                      have k1 := HK1.out w1 hbel1
                      have k2 := HK2.out w1 hbel1
                      have k3 := HK3.out w1 hbel1
                      have k4 := HK4.out w1 hbel1
                      go_wp2_with fail
                      refine region_later (by kernel_rfl) (by kernel_rfl) ?_
                      repeat (go_big_quiet_step (fail))
                      refine wpQuiet_nil ?_
                      intro w2 hb2
                      have HB := Lib.hid (hbel1.trans (hb2.mono hbel1.size))
                      clear hb2 k1 k2 k3 k4
                      go_wp2
                      go_roundw
                      case rel => exact ⟨j + 1, by omega, by go_num, by rw [HN.out], HB.out⟩
                      case measure => simp [intOf]; omega
                · have dq : (p == q) = false := by simpa using epq
                  by_cases ep : p = -1
                  · subst ep
                    have dqn : (q != -1) = true := by simp; exact fun h => epq h.symm
                    have dq0 : 0 ≤ q := by omega
                    by_cases hx : x ≤ y + 1
                    · skip
                      have HN := HN0
                      clear epq
                      have k1 := HK1.out wr hbel
                      have k2 := HK2.out wr hbel
                      have k3 := HK3.out wr hbel
                      have k4 := HK4.out wr hbel
                      go_wp2_with fail
                      refine region_later (by kernel_rfl) (by kernel_rfl) ?_
                      repeat (go_big_quiet_step (fail))
                      refine wpQuiet_nil ?_
                      intro w1 hb1
                      have hbel1 := hbel.trans (hb1.mono hbel.size)
                      clear hb1 k1 k2 k3 k4
                      have k1 := HK1.out w1 hbel1
                      have k2 := HK2.out w1 hbel1
                      have k3 := HK3.out w1 hbel1
                      have k4 := HK4.out w1 hbel1
                      go_wp2_with fail
                      refine region_later (by kernel_rfl) (by kernel_rfl) ?_
                      repeat (go_big_quiet_step (fail))
                      refine wpQuiet_nil ?_
                      intro w2 hb2
                      have HB := Lib.hid (hbel1.trans (hb2.mono hbel1.size))
                      clear hb2 k1 k2 k3 k4
                      go_wp2
                      go_roundw
                      case rel => exact ⟨j + 1, by omega, by go_num, by rw [HN.out], HB.out⟩
                      case measure => simp [intOf]; omega
                    · have dx : decide (x ≤ y + 1) = false := by simp; omega
                      have HN := HN0
                      clear hx epq
                      have k1 := HK1.out wr hbel
                      have k2 := HK2.out wr hbel
                      have k3 := HK3.out wr hbel
                      have k4 := HK4.out wr hbel
                      go_wp2_with fail
                      refine region_later (by kernel_rfl) (by kernel_rfl) ?_
                      repeat (go_big_quiet_step (fail))
                      refine wpQuiet_nil ?_
                      intro w1 hb1
                      have hbel1 := hbel.trans (hb1.mono hbel.size)
                      clear hb1 k1 k2 k3 k4
                      have k1 := HK1.out w1 hbel1
                      have k2 := HK2.out w1 hbel1
                      have k3 := HK3.out w1 hbel1
                      have k4 := HK4.out w1 hbel1
                      go_wp2_with fail
                      refine region_later (by kernel_rfl) (by kernel_rfl) ?_
                      repeat (go_big_quiet_step (fail))
                      refine wpQuiet_nil ?_
                      intro w2 hb2
                      have HB := Lib.hid (hbel1.trans (hb2.mono hbel1.size))
                      clear hb2 k1 k2 k3 k4
                      go_wp2
                      go_roundw
                      case rel => exact ⟨j + 1, by omega, by go_num, by rw [HN.out], HB.out⟩
                      case measure => simp [intOf]; omega
                  · have dp : (p == -1) = false := by simpa using ep
                    have HN := HN0
                    clear epq ep
                    have k1 := HK1.out wr hbel
                    have k2 := HK2.out wr hbel
                    have k3 := HK3.out wr hbel
                    have k4 := HK4.out wr hbel
                    go_wp2_with fail
                    refine region_later (by kernel_rfl) (by kernel_rfl) ?_
                    repeat (go_big_quiet_step (fail))
                    refine wpQuiet_nil ?_
                    intro w1 hb1
                    have hbel1 := hbel.trans (hb1.mono hbel.size)
                    clear hb1 k1 k2 k3 k4
                    have k1 := HK1.out w1 hbel1
                    have k2 := HK2.out w1 hbel1
                    have k3 := HK3.out w1 hbel1
                    have k4 := HK4.out w1 hbel1
                    go_wp2_with fail
                    refine region_later (by kernel_rfl) (by kernel_rfl) ?_
                    repeat (go_big_quiet_step (fail))
                    refine wpQuiet_nil ?_
                    intro w2 hb2
                    have HB := Lib.hid (hbel1.trans (hb2.mono hbel1.size))
                    clear hb2 k1 k2 k3 k4
                    go_wp2
                    go_roundw
                    case rel => exact ⟨j + 1, by omega, by go_num, by rw [HN.out], HB.out⟩
                    case measure => simp [intOf]; omega
              | false =>
                have no_of : ¬ Nm.RFits (p, x) (q, y) → Hid (rheldB (p, x) m (j + 1) = false) := fun h => rheldB_no hh (by rw [HU.out]; exact h)
                have yes_of : Nm.RFits (p, x) (q, y) → Hid (rheldB (p, x) m (j + 1) = true) := fun h => rheldB_yes (by rw [HU.out]; exact h)
                clear hh
                by_cases epq : p = q
                · subst epq
                  by_cases hx : x ≤ y
                  · skip
                    have HN := yes_of (.inl ⟨rfl, hx⟩)
                    clear yes_of no_of 
                    have k1 := HK1.out wr hbel
                    have k2 := HK2.out wr hbel
                    have k3 := HK3.out wr hbel
                    have k4 := HK4.out wr hbel
                    go_wp2_with fail
                    refine region_later (by kernel_rfl) (by kernel_rfl) ?_
                    repeat (go_big_quiet_step (fail))
                    refine wpQuiet_nil ?_
                    intro w1 hb1
                    have hbel1 := hbel.trans (hb1.mono hbel.size)
                    clear hb1 k1 k2 k3 k4
                    have k1 := HK1.out w1 hbel1
                    have k2 := HK2.out w1 hbel1
                    have k3 := HK3.out w1 hbel1
                    have k4 := HK4.out w1 hbel1
                    go_wp2_with fail
                    refine region_later (by kernel_rfl) (by kernel_rfl) ?_
                    repeat (go_big_quiet_step (fail))
                    refine wpQuiet_nil ?_
                    intro w2 hb2
                    have HB := Lib.hid (hbel1.trans (hb2.mono hbel1.size))
                    clear hb2 k1 k2 k3 k4
                    go_wp2
                    go_roundw
                    case rel => exact ⟨j + 1, by omega, by go_num, by rw [HN.out], HB.out⟩
                    case measure => simp [intOf]; omega
                  · have dx : decide (x ≤ y) = false := by simp; omega
                    by_cases ep : p = -1
                    · subst ep
                      have HN := no_of (fun h => by
                        rcases h with h | h
                        · exact hx h.2
                        · exact absurd h.2.1 (by simp))
                      clear yes_of no_of hx
                      have k1 := HK1.out wr hbel
                      have k2 := HK2.out wr hbel
                      have k3 := HK3.out wr hbel
                      have k4 := HK4.out wr hbel
                      go_wp2_with fail
                      refine region_later (by kernel_rfl) (by kernel_rfl) ?_
                      repeat (go_big_quiet_step (fail))
                      refine wpQuiet_nil ?_
                      intro w1 hb1
                      have hbel1 := hbel.trans (hb1.mono hbel.size)
                      clear hb1 k1 k2 k3 k4
                      have k1 := HK1.out w1 hbel1
                      have k2 := HK2.out w1 hbel1
                      have k3 := HK3.out w1 hbel1
                      have k4 := HK4.out w1 hbel1
                      go_wp2_with fail
                      refine region_later (by kernel_rfl) (by kernel_rfl) ?_
                      repeat (go_big_quiet_step (fail))
                      refine wpQuiet_nil ?_
                      intro w2 hb2
                      have HB := Lib.hid (hbel1.trans (hb2.mono hbel1.size))
                      clear hb2 k1 k2 k3 k4
                      go_wp2
                      go_roundw
                      case rel => exact ⟨j + 1, by omega, by go_num, by rw [HN.out], HB.out⟩
                      case measure => simp [intOf]; omega
                    · have dp : (p == -1) = false := by simpa using ep
                      have HN := no_of (fun h => by
                        rcases h with h | h
                        · exact hx h.2
                        · exact ep h.1)
                      clear yes_of no_of hx ep
                      have k1 := HK1.out wr hbel
                      have k2 := HK2.out wr hbel
                      have k3 := HK3.out wr hbel
                      have k4 := HK4.out wr hbel
                      go_wp2_with fail
                      refine region_later (by kernel_rfl) (by kernel_rfl) ?_
                      repeat (go_big_quiet_step (fail))
                      refine wpQuiet_nil ?_
                      intro w1 hb1
                      have hbel1 := hbel.trans (hb1.mono hbel.size)
                      clear hb1 k1 k2 k3 k4
                      have k1 := HK1.out w1 hbel1
                      have k2 := HK2.out w1 hbel1
                      have k3 := HK3.out w1 hbel1
                      have k4 := HK4.out w1 hbel1
                      go_wp2_with fail
                      refine region_later (by kernel_rfl) (by kernel_rfl) ?_
                      repeat (go_big_quiet_step (fail))
                      refine wpQuiet_nil ?_
                      intro w2 hb2
                      have HB := Lib.hid (hbel1.trans (hb2.mono hbel1.size))
                      clear hb2 k1 k2 k3 k4
                      go_wp2
                      go_roundw
                      case rel => exact ⟨j + 1, by omega, by go_num, by rw [HN.out], HB.out⟩
                      case measure => simp [intOf]; omega
                · have dq : (p == q) = false := by simpa using epq
                  by_cases ep : p = -1
                  · subst ep
                    have dqn : (q != -1) = true := by simp; exact fun h => epq h.symm
                    have dq0 : 0 ≤ q := by omega
                    by_cases hx : x ≤ y + 1
                    · skip
                      have HN := yes_of (.inr ⟨rfl, dq0, hx⟩)
                      clear yes_of no_of epq
                      have k1 := HK1.out wr hbel
                      have k2 := HK2.out wr hbel
                      have k3 := HK3.out wr hbel
                      have k4 := HK4.out wr hbel
                      go_wp2_with fail
                      refine region_later (by kernel_rfl) (by kernel_rfl) ?_
                      repeat (go_big_quiet_step (fail))
                      refine wpQuiet_nil ?_
                      intro w1 hb1
                      have hbel1 := hbel.trans (hb1.mono hbel.size)
                      clear hb1 k1 k2 k3 k4
                      have k1 := HK1.out w1 hbel1
                      have k2 := HK2.out w1 hbel1
                      have k3 := HK3.out w1 hbel1
                      have k4 := HK4.out w1 hbel1
                      go_wp2_with fail
                      refine region_later (by kernel_rfl) (by kernel_rfl) ?_
                      repeat (go_big_quiet_step (fail))
                      refine wpQuiet_nil ?_
                      intro w2 hb2
                      have HB := Lib.hid (hbel1.trans (hb2.mono hbel1.size))
                      clear hb2 k1 k2 k3 k4
                      go_wp2
                      go_roundw
                      case rel => exact ⟨j + 1, by omega, by go_num, by rw [HN.out], HB.out⟩
                      case measure => simp [intOf]; omega
                    · have dx : decide (x ≤ y + 1) = false := by simp; omega
                      have HN := no_of (fun h => by
                        rcases h with h | h
                        · exact epq h.1
                        · exact hx h.2.2)
                      clear yes_of no_of hx epq
                      have k1 := HK1.out wr hbel
                      have k2 := HK2.out wr hbel
                      have k3 := HK3.out wr hbel
                      have k4 := HK4.out wr hbel
                      go_wp2_with fail
                      refine region_later (by kernel_rfl) (by kernel_rfl) ?_
                      repeat (go_big_quiet_step (fail))
                      refine wpQuiet_nil ?_
                      intro w1 hb1
                      have hbel1 := hbel.trans (hb1.mono hbel.size)
                      clear hb1 k1 k2 k3 k4
                      have k1 := HK1.out w1 hbel1
                      have k2 := HK2.out w1 hbel1
                      have k3 := HK3.out w1 hbel1
                      have k4 := HK4.out w1 hbel1
                      go_wp2_with fail
                      refine region_later (by kernel_rfl) (by kernel_rfl) ?_
                      repeat (go_big_quiet_step (fail))
                      refine wpQuiet_nil ?_
                      intro w2 hb2
                      have HB := Lib.hid (hbel1.trans (hb2.mono hbel1.size))
                      clear hb2 k1 k2 k3 k4
                      go_wp2
                      go_roundw
                      case rel => exact ⟨j + 1, by omega, by go_num, by rw [HN.out], HB.out⟩
                      case measure => simp [intOf]; omega
                  · have dp : (p == -1) = false := by simpa using ep
                    have HN := no_of (fun h => by
                        rcases h with h | h
                        · exact epq h.1
                        · exact ep h.1)
                    clear yes_of no_of epq ep
                    have k1 := HK1.out wr hbel
                    have k2 := HK2.out wr hbel
                    have k3 := HK3.out wr hbel
                    have k4 := HK4.out wr hbel
                    go_wp2_with fail
                    refine region_later (by kernel_rfl) (by kernel_rfl) ?_
                    repeat (go_big_quiet_step (fail))
                    refine wpQuiet_nil ?_
                    intro w1 hb1
                    have hbel1 := hbel.trans (hb1.mono hbel.size)
                    clear hb1 k1 k2 k3 k4
                    have k1 := HK1.out w1 hbel1
                    have k2 := HK2.out w1 hbel1
                    have k3 := HK3.out w1 hbel1
                    have k4 := HK4.out w1 hbel1
                    go_wp2_with fail
                    refine region_later (by kernel_rfl) (by kernel_rfl) ?_
                    repeat (go_big_quiet_step (fail))
                    refine wpQuiet_nil ?_
                    intro w2 hb2
                    have HB := Lib.hid (hbel1.trans (hb2.mono hbel1.size))
                    clear hb2 k1 k2 k3 k4
                    go_wp2
                    go_roundw
                    case rel => exact ⟨j + 1, by omega, by go_num, by rw [HN.out], HB.out⟩
                    case measure => simp [intOf]; omega
            · obtain rfl : j = n2 := by omega
              have hmj : m.length = j := hm.1
              clear hm
              cases hh : rheldB (p, x) m j with
              | true =>
                have HA2 : Hid (∀ i, i < k + 1 → Nm.ratomLe (l.getD i (0, 0)) m) := by
                  intro i hi
                  by_cases e : i = k
                  · subst e; rw [HT.out, ← rheldB_all, hmj]; exact hh
                  · exact HA.out i (by omega)
                clear hh hmj
                go_wp2
                go_roundw
                case rel => exact ⟨k + 1, by omega, by go_num, HA2.out, hbel⟩
                case measure => simp [intOf]; omega
              | false =>
                have HF : Hid (Nm.residLe s l m = false) := Nm.residLe_no (fun h => by
                  have h' := h.2.2 k (by rw [HL.out]; exact hlt)
                  rw [HT.out, ← rheldB_all, hmj, hh] at h'
                  cases h')
                clear hh hmj
                go_wp2
                go_ret
                exact ⟨by rw [HF.out]; rfl, hbel⟩
        · have HF : Hid (Nm.residLe s l m = true) := (Nm.residLe_iff s l m).2 ⟨(Nm.residOk_iff s l).1 HO.out, (Nm.residOk_iff s m).1 HO2.out, fun j hj => HA.out j (by have := hl.1; omega)⟩
          clear hl hm
          go_wp2
          go_ret
          exact ⟨by rw [HF.out]; rfl, hbel⟩
end Go.Proofs.YtmbcjddahncocaaDoor
