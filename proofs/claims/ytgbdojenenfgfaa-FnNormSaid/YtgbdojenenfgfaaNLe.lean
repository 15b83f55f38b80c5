/- NormLe of the program and of the reference model. -/
import Derived.Test.YtgbdojenenfgfaaNOk2
import Derived.Test.YtgbdojenenfgfaaNOk3
namespace Go.Proofs.Ytgbdojenenfgfaa
open Go.RowKit

/-- the atom y serves for x -/
def Fits (x y : Int × Int) : Prop := (x.1 = -1 ∨ x.1 = y.1) ∧ x.2 ≤ y.2

set_option maxHeartbeats 800000 in
theorem atomLe_any (w : World) (B : Nat) (p x : Int) (A : Option Addr) (n c : Nat) (l : List (Int × Int)) (hB : B ≤ w.heap.size) (hl : TokR w B A n l) (hn : (n : Int) ≤ 140737488355328) :
    Calls Try.prog 52 #[.agg #[.int .i64 p, .int .i64 x], .slice A n c] w fun e w' => e = .returned (.bool (Nm.atomLeB (p, x) l)) ∧ Below w.heap.size w w' := by
  have HB0 : Hid (Below w.heap.size w (w.alloc (.cells #[.int .i64 p, .int .i64 x] 32))) := (Below.refl _ _).alloc (Nat.le_refl _) _
  have HK0 : Hid (Blk (w.alloc (.cells #[.int .i64 p, .int .i64 x] 32)) w.heap.size 32 #[.int .i64 p, .int .i64 x]) := Blk.made _ _ _
  go_enter Try.func52, Try.ntmps52
  go_wp2
  go_loopw [9] (fun i wr => ∃ k : Nat, k ≤ n ∧ i = .int .i64 k ∧ Hid (∀ j, j < k → ¬ Fits (p, x) (l.getD j (0, 0))) ∧ Below w.heap.size w wr ∧ Blk wr w.heap.size 32 #[.int .i64 p, .int .i64 x]) (fun i _ => n - (intOf i).toNat)
  case atStart => exact ⟨0, Nat.zero_le _, rfl, (fun j hj => absurd hj (by omega)), HB0.out, HK0.out⟩
  case round =>
    obtain ⟨k, hk, rfl, HA, hbel, hblk⟩ := hrel
    by_cases hlt : k < n
    · obtain ⟨b, off, rfl, hb, hc⟩ := hl.2 (by omega)
      obtain ⟨c1, c2⟩ := hc k hlt
      have HL := Lib.hid hl.1
      obtain ⟨t, ht⟩ : ∃ t, l.getD k (0, 0) = t := ⟨_, rfl⟩
      rw [ht] at c1 c2
      obtain ⟨q, y⟩ := t
      have HT := Lib.hid ht
      have k1 := (hbel.cell (p := ⟨b, off + k * 2, none⟩) (by show b < _; omega)).trans c1
      have k2 := (hbel.cell (p := ⟨b, off + k * 2 + 1, none⟩) (by show b < _; omega)).trans c2
      have hlt2 := hblk.lt
      have k3 : (wr.alloc (.cells #[.int .i64 q, .int .i64 y] 32)).cell? ⟨w.heap.size, 0, none⟩ = some (.int .i64 p) := (hblk.alloc _).cell 0
      have k4 : (wr.alloc (.cells #[.int .i64 q, .int .i64 y] 32)).cell? ⟨w.heap.size, 1, none⟩ = some (.int .i64 x) := (hblk.alloc _).cell 1
      have HBA := Lib.hid (hbel.alloc hbel.size (.cells #[.int .i64 q, .int .i64 y] 32))
      have HKA := Lib.hid (hblk.alloc (.cells #[.int .i64 q, .int .i64 y] 32))
      clear c1 c2 hc hl ht hblk
      have yes_of : Fits (p, x) (q, y) → Hid (Nm.atomLeB (p, x) l = true) := fun h => (Nm.atomLeB_iff _ _).2 ⟨k, by rw [HL.out]; exact hlt, by rw [HT.out]; exact h.1, by rw [HT.out]; exact h.2⟩
      have no_of : ¬ Fits (p, x) (q, y) → Hid (∀ j, j < k + 1 → ¬ Fits (p, x) (l.getD j (0, 0))) := by
        intro h j hj
        by_cases e : j = k
        · subst e; rw [HT.out]; exact h
        · exact HA.out j (by omega)
      by_cases ep : p = -1
      · subst ep
        by_cases hx : x ≤ y
        · have HF := yes_of ⟨.inl rfl, hx⟩
          clear yes_of no_of
          go_wp2
          go_ret
          exact ⟨by rw [HF.out]; rfl, HBA.out⟩
        · have HA2 := no_of (fun h => hx h.2)
          have dx : decide (x ≤ y) = false := by simp; omega
          clear yes_of no_of hx
          go_wp2
          go_roundw
          case rel => exact ⟨k + 1, by omega, by go_num, HA2.out, HBA.out, HKA.out⟩
          case measure => simp [intOf]; omega
      · have dp : (p == -1) = false := by simpa using ep
        by_cases epq : p = q
        · subst epq
          by_cases hx : x ≤ y
          · have HF := yes_of ⟨.inr rfl, hx⟩
            clear yes_of no_of
            go_wp2
            go_ret
            exact ⟨by rw [HF.out]; rfl, HBA.out⟩
          · have HA2 := no_of (fun h => hx h.2)
            have dx : decide (x ≤ y) = false := by simp; omega
            clear yes_of no_of hx
            go_wp2
            go_roundw
            case rel => exact ⟨k + 1, by omega, by go_num, HA2.out, HBA.out, HKA.out⟩
            case measure => simp [intOf]; omega
        · have HA2 := no_of (fun h => by rcases h.1 with h | h; exact ep h; exact epq h)
          have dq : (p == q) = false := by simpa using epq
          clear yes_of no_of ep epq
          go_wp2
          go_roundw
          case rel => exact ⟨k + 1, by omega, by go_num, HA2.out, HBA.out, HKA.out⟩
          case measure => simp [intOf]; omega
    · have HF : Hid (Nm.atomLeB (p, x) l = false) := Nm.atomLeB_no (fun ⟨j, hj, h1, h2⟩ => HA.out j (by have := hl.1; omega) ⟨h1, h2⟩)
      clear hl
      go_wp2
      go_ret
      exact ⟨by rw [HF.out]; rfl, hbel⟩

theorem normLe_notA {a b : List (Int × Int)} (h : Nm.normOk a = false) : Nm.normLe a b = false :=
  Nm.normLe_no (fun hh => by rw [(Nm.normOk_iff a).2 hh.1] at h; cases h)
theorem normLe_notB {a b : List (Int × Int)} (h : Nm.normOk b = false) : Nm.normLe a b = false :=
  Nm.normLe_no (fun hh => by rw [(Nm.normOk_iff b).2 hh.2.1] at h; cases h)

set_option maxHeartbeats 1600000 in
theorem implNormLe_any (w : World) (B : Nat) (A1 : Option Addr) (n1 c1 : Nat) (l : List (Int × Int)) (A2 : Option Addr) (n2 c2 : Nat) (m : List (Int × Int)) (hB : B ≤ w.heap.size) (hl : TokR w B A1 n1 l) (hn1 : (n1 : Int) ≤ 140737488355328) (hc1 : n1 ≤ c1)
    (hm : TokR w B A2 n2 m) (hn2 : (n2 : Int) ≤ 140737488355328) (hc2 : n2 ≤ c2) :
    Calls Try.prog 21 #[.slice A1 n1 c1, .slice A2 n2 c2] w fun e w' => e = .returned (.bool (Nm.normLe l m)) ∧ Below w.heap.size w w' := by
  cases h1 : Nm.normOk l with
  | false =>
    have HF := Lib.hid (normLe_notA (b := m) h1)
    have HO := Lib.hid h1
    clear h1
    go_enter Try.func21, Try.ntmps21
    go_wp2_with fail
    refine (implNormOk_any w B A1 n1 c1 l hB hl hn1 hc1).mono ?_
    rintro e w1 ⟨rfl, hb1⟩
    rw [HO.out]
    go_wp2
    go_ret
    exact ⟨by rw [HF.out]; rfl, hb1⟩
  | true =>
    have HO := Lib.hid h1
    clear h1
    cases h2 : Nm.normOk m with
    | false =>
      have HF := Lib.hid (normLe_notB (a := l) h2)
      have HO2 := Lib.hid h2
      clear h2
      go_enter Try.func21, Try.ntmps21
      go_wp2_with fail
      refine (implNormOk_any w B A1 n1 c1 l hB hl hn1 hc1).mono ?_
      rintro e w1 ⟨rfl, hb1⟩
      rw [HO.out]
      go_wp2_with fail
      refine (implNormOk_any w1 B A2 n2 c2 m (Nat.le_trans hB hb1.size) (hm.below (hb1.mono hB)) hn2 hc2).mono ?_
      rintro e w2 ⟨rfl, hb2⟩
      rw [HO2.out]
      have HB := Lib.hid (hb1.trans (hb2.mono hb1.size))
      go_wp2
      go_ret
      exact ⟨by rw [HF.out]; rfl, HB.out⟩
    | true =>
      have HO2 := Lib.hid h2
      clear h2
      go_enter Try.func21, Try.ntmps21
      go_wp2_with fail
      refine (implNormOk_any w B A1 n1 c1 l hB hl hn1 hc1).mono ?_
      rintro e w1 ⟨rfl, hb1⟩
      rw [HO.out]
      go_wp2_with fail
      refine (implNormOk_any w1 B A2 n2 c2 m (Nat.le_trans hB hb1.size) (hm.below (hb1.mono hB)) hn2 hc2).mono ?_
      rintro e w2 ⟨rfl, hb2⟩
      rw [HO2.out]
      have HB := Lib.hid (hb1.trans (hb2.mono hb1.size))
      clear hb1 hb2
      go_wp2
      go_loopw [17] (fun i wr => ∃ k : Nat, k ≤ n1 ∧ i = .int .i64 k ∧ Hid (∀ j, j < k → Nm.atomLe (l.getD j (0, 0)) m) ∧ Below w.heap.size w wr) (fun i _ => n1 - (intOf i).toNat)
      case atStart => exact ⟨0, Nat.zero_le _, rfl, (fun j hj => absurd hj (by omega)), HB.out⟩
      case round =>
        obtain ⟨k, hk, rfl, HA, hbel⟩ := hrel
        by_cases hlt : k < n1
        · obtain ⟨b, off, rfl, hb, hc⟩ := hl.2 (by omega)
          obtain ⟨e1, e2⟩ := hc k hlt
          have HL := Lib.hid hl.1
          obtain ⟨t, ht⟩ : ∃ t, l.getD k (0, 0) = t := ⟨_, rfl⟩
          rw [ht] at e1 e2
          obtain ⟨p, x⟩ := t
          have HT := Lib.hid ht
          have k1 := (hbel.cell (p := ⟨b, off + k * 2, none⟩) (by show b < _; omega)).trans e1
          have k2 := (hbel.cell (p := ⟨b, off + k * 2 + 1, none⟩) (by show b < _; omega)).trans e2
          have hbA := hbel.alloc hbel.size (.cells #[.int .i64 p, .int .i64 x] 32)
          have HM := Lib.hid (hm.below (hbA.mono hB))
          have hszA : B ≤ (wr.alloc (.cells #[.int .i64 p, .int .i64 x] 32)).heap.size := Nat.le_trans hB hbA.size
          have HS := Lib.hid hszA
          have HBA := Lib.hid hbA
          clear e1 e2 hc hl ht hbA hszA hm
          go_wp2_with fail
          refine (atomLe_any _ B p x A2 n2 c2 m HS.out HM.out hn2).mono ?_
          rintro e w3 ⟨rfl, hb3⟩
          have HB3 := Lib.hid (HBA.out.trans (hb3.mono HBA.out.size))
          clear hb3
          cases hle : Nm.atomLeB (p, x) m with
          | true =>
            have HA2 : Hid (∀ j, j < k + 1 → Nm.atomLe (l.getD j (0, 0)) m) := by
              intro j hj
              by_cases e : j = k
              · subst e; rw [HT.out]; exact (Nm.atomLeB_iff _ _).1 hle
              · exact HA.out j (by omega)
            clear hle
            go_wp2
            go_roundw
            case rel => exact ⟨k + 1, by omega, by go_num, HA2.out, HB3.out⟩
            case measure => simp [intOf]; omega
          | false =>
            have HF : Hid (Nm.normLe l m = false) := Nm.normLe_no (fun h => by
              have h' := h.2.2 k (by rw [HL.out]; exact hlt)
              rw [HT.out] at h'
              rw [(Nm.atomLeB_iff _ _).2 h'] at hle
              cases hle)
            clear hle
            go_wp2
            go_ret
            exact ⟨by rw [HF.out]; rfl, HB3.out⟩
        · have HF : Hid (Nm.normLe l m = true) := (Nm.normLe_iff l m).2 ⟨(Nm.normOk_iff l).1 HO.out, (Nm.normOk_iff m).1 HO2.out, fun j hj => HA.out j (by have := hl.1; omega)⟩
          clear hl hm
          go_wp2
          go_ret
          exact ⟨by rw [HF.out]; rfl, hbel⟩
end Go.Proofs.Ytgbdojenenfgfaa
