/- ResidLe of the program (written by tools/mkrle.py). -/
import Derived.Test.YtijiohdddfdjfaaROk
namespace Go.Proofs.Ytijiohdddfdjfaa
open Go.RowKit

namespace Nm
/-- the atom y serves for x where positive parameters are at least 1 -/
def RFits (x y : At) : Prop := x.1 = y.1 ∧ x.2 ≤ y.2 ∨ x.1 = -1 ∧ 0 ≤ y.1 ∧ x.2 ≤ y.2 + 1
/-- some atom of b serves for x -/
def ratomLe (x : At) (b : List At) : Prop := ∃ k, k < b.length ∧ RFits x (b.getD k (0, 0))
open Classical in
noncomputable def ratomLeB (x : At) (b : List At) : Bool := decide (ratomLe x b)
theorem ratomLeB_iff (x : At) (b : List At) : ratomLeB x b = true ↔ ratomLe x b := by simp [ratomLeB]
theorem ratomLeB_no {x : At} {b : List At} (h : ¬ ratomLe x b) : ratomLeB x b = false := by simp [ratomLeB, h]
open Classical in
noncomputable def residLe (s : Int) (a b : List At) : Bool := decide (ROk s a ∧ ROk s b ∧ ∀ k, k < a.length → ratomLe (a.getD k (0, 0)) b)
theorem residLe_iff (s : Int) (a b : List At) : residLe s a b = true ↔ ROk s a ∧ ROk s b ∧ ∀ k, k < a.length → ratomLe (a.getD k (0, 0)) b := by simp [residLe]
theorem residLe_no {s : Int} {a b : List At} (h : ¬ (ROk s a ∧ ROk s b ∧ ∀ k, k < a.length → ratomLe (a.getD k (0, 0)) b)) : residLe s a b = false := by
  simp only [residLe, decide_eq_false_iff_not]; exact h
theorem residLe_notA {s : Int} {a b : List At} (h : residOk s a = false) : residLe s a b = false :=
  residLe_no (fun hh => by rw [(residOk_iff s a).2 hh.1] at h; cases h)
theorem residLe_notB {s : Int} {a b : List At} (h : residOk s b = false) : residLe s a b = false :=
  residLe_no (fun hh => by rw [(residOk_iff s b).2 hh.2.1] at h; cases h)
end Nm

set_option maxHeartbeats 1600000 in
theorem residAtomLe_any (w : World) (B : Nat) (p x : Int) (A : Option Addr) (n c : Nat) (l : List (Int × Int)) (hB : B ≤ w.heap.size) (hl : TokR w B A n l) (hn : (n : Int) ≤ 140737488355328) (hok : Nm.AllOk l) :
    Calls Try.prog 32 #[.agg #[.int .i64 p, .int .i64 x], .slice A n c] w fun e w' => e = .returned (.bool (Nm.ratomLeB (p, x) l)) ∧ Below w.heap.size w w' := by
  have HB0 : Hid (Below w.heap.size w (w.alloc (.cells #[.int .i64 p, .int .i64 x] 30))) := (Below.refl _ _).alloc (Nat.le_refl _) _
  have HK0 : Hid (Blk (w.alloc (.cells #[.int .i64 p, .int .i64 x] 30)) w.heap.size 30 #[.int .i64 p, .int .i64 x]) := Blk.made _ _ _
  have HOK := Lib.hid hok
  clear hok
  go_enter Try.func32, Try.ntmps32
  go_wp2
  go_loopw [9] (fun i wr => ∃ k : Nat, k ≤ n ∧ i = .int .i64 k ∧ Hid (∀ j, j < k → ¬ Nm.RFits (p, x) (l.getD j (0, 0))) ∧ Below w.heap.size w wr ∧ Blk wr w.heap.size 30 #[.int .i64 p, .int .i64 x]) (fun i _ => n - (intOf i).toNat)
  case atStart => exact ⟨0, Nat.zero_le _, rfl, (fun j hj => absurd hj (by omega)), HB0.out, HK0.out⟩
  case round =>
    obtain ⟨k, hk, rfl, HA, hbel, hblk⟩ := hrel
    by_cases hlt : k < n
    · obtain ⟨b, off, rfl, hb, hc⟩ := hl.2 (by omega)
      obtain ⟨c1, c2⟩ := hc k hlt
      have HL := Lib.hid hl.1
      have hat := (Nm.atOk_iff _).1 (HOK.out k (by rw [hl.1]; exact hlt))
      obtain ⟨t, ht⟩ : ∃ t, l.getD k (0, 0) = t := ⟨_, rfl⟩
      rw [ht] at c1 c2 hat
      obtain ⟨q, y⟩ := t
      simp only at hat
      obtain ⟨a1, a2, a3, a4⟩ := hat
      have HT := Lib.hid ht
      have k1 := (hbel.cell (p := ⟨b, off + k * 2, none⟩) (by show b < _; omega)).trans c1
      have k2 := (hbel.cell (p := ⟨b, off + k * 2 + 1, none⟩) (by show b < _; omega)).trans c2
      have hlt2 := hblk.lt
      have k3 : (wr.alloc (.cells #[.int .i64 q, .int .i64 y] 30)).cell? ⟨w.heap.size, 0, none⟩ = some (.int .i64 p) := (hblk.alloc _).cell 0
      have k4 : (wr.alloc (.cells #[.int .i64 q, .int .i64 y] 30)).cell? ⟨w.heap.size, 1, none⟩ = some (.int .i64 x) := (hblk.alloc _).cell 1
      have HBA := Lib.hid (hbel.alloc hbel.size (.cells #[.int .i64 q, .int .i64 y] 30))
      have HKA := Lib.hid (hblk.alloc (.cells #[.int .i64 q, .int .i64 y] 30))
      clear c1 c2 hc hl ht hblk
      have yes_of : Nm.RFits (p, x) (q, y) → Hid (Nm.ratomLeB (p, x) l = true) := fun h => (Nm.ratomLeB_iff _ _).2 ⟨k, by rw [HL.out]; exact hlt, by rw [HT.out]; exact h⟩
      have no_of : ¬ Nm.RFits (p, x) (q, y) → Hid (∀ j, j < k + 1 → ¬ Nm.RFits (p, x) (l.getD j (0, 0))) := by
        intro h j hj
        by_cases e : j = k
        · subst e; rw [HT.out]; exact h
        · exact HA.out j (by omega)
      by_cases epq : p = q
      · subst epq
        by_cases hx : x ≤ y
        · skip
          have HF := yes_of (.inl ⟨rfl, hx⟩)
          clear yes_of no_of 
          go_wp2
          go_ret
          exact ⟨by rw [HF.out]; rfl, HBA.out⟩
        · have dx : decide (x ≤ y) = false := by simp; omega
          by_cases ep : p = -1
          · subst ep
            have HA2 := no_of (fun h => by
              rcases h with h | h
              · exact hx h.2
              · exact absurd h.2.1 (by simp))
            clear yes_of no_of hx
            go_wp2
            go_roundw
            case rel => exact ⟨k + 1, by omega, by go_num, HA2.out, HBA.out, HKA.out⟩
            case measure => simp [intOf]; omega
          · have dp : (p == -1) = false := by simpa using ep
            have HA2 := no_of (fun h => by
              rcases h with h | h
              · exact hx h.2
              · exact ep h.1)
            clear yes_of no_of hx ep
            go_wp2
            go_roundw
            case rel => exact ⟨k + 1, by omega, by go_num, HA2.out, HBA.out, HKA.out⟩
            case measure => simp [intOf]; omega
      · have dq : (p == q) = false := by simpa using epq
        by_cases ep : p = -1
        · subst ep
          have dqn : (q != -1) = true := by simp; exact fun h => epq h.symm
          have dq0 : 0 ≤ q := by omega
          by_cases hx : x ≤ y + 1
          · skip
            have HF := yes_of (.inr ⟨rfl, dq0, hx⟩)
            clear yes_of no_of epq
            go_wp2
            go_ret
            exact ⟨by rw [HF.out]; rfl, HBA.out⟩
          · have dx : decide (x ≤ y + 1) = false := by simp; omega
            have HA2 := no_of (fun h => by
              rcases h with h | h
              · exact epq h.1
              · exact hx h.2.2)
            clear yes_of no_of hx epq
            go_wp2
            go_roundw
            case rel => exact ⟨k + 1, by omega, by go_num, HA2.out, HBA.out, HKA.out⟩
            case measure => simp [intOf]; omega
        · have dp : (p == -1) = false := by simpa using ep
          have HA2 := no_of (fun h => by
              rcases h with h | h
              · exact epq h.1
              · exact ep h.1)
          clear yes_of no_of epq ep
          go_wp2
          go_roundw
          case rel => exact ⟨k + 1, by omega, by go_num, HA2.out, HBA.out, HKA.out⟩
          case measure => simp [intOf]; omega
    · have HF : Hid (Nm.ratomLeB (p, x) l = false) := Nm.ratomLeB_no (fun ⟨j, hj, h1⟩ => HA.out j (by have := hl.1; omega) h1)
      clear hl
      go_wp2
      go_ret
      exact ⟨by rw [HF.out]; rfl, hbel⟩

set_option maxHeartbeats 1600000 in
theorem implResidLe_any (w : World) (B : Nat) (A1 : Option Addr) (n1 c1 : Nat) (l : List (Int × Int)) (A2 : Option Addr) (n2 c2 : Nat) (m : List (Int × Int)) (s : Int) (hB : B ≤ w.heap.size) (hl : TokR w B A1 n1 l) (hn1 : (n1 : Int) ≤ 140737488355328) (hc1 : n1 ≤ c1)
    (hm : TokR w B A2 n2 m) (hn2 : (n2 : Int) ≤ 140737488355328) (hc2 : n2 ≤ c2) :
    Calls Try.prog 11 #[.slice A1 n1 c1, .slice A2 n2 c2, .int .i64 s] w fun e w' => e = .returned (.bool (Nm.residLe s l m)) ∧ Below w.heap.size w w' := by
  cases h1 : Nm.residOk s l with
  | false =>
    have HF := Lib.hid (Nm.residLe_notA (b := m) h1)
    have HO := Lib.hid h1
    clear h1
    go_enter Try.func11, Try.ntmps11
    go_wp2_with fail
    refine (implResidOk_any w B A1 n1 c1 l s hB hl hn1 hc1).mono ?_
    rintro e w1 ⟨rfl, hb1⟩
    rw [HO.out]
    go_wp2
    go_ret
    exact ⟨by rw [HF.out]; rfl, hb1⟩
  | true =>
    have HO := Lib.hid h1
    clear h1
    cases h2 : Nm.residOk s m with
    | false =>
      have HF := Lib.hid (Nm.residLe_notB (a := l) h2)
      have HO2 := Lib.hid h2
      clear h2
      go_enter Try.func11, Try.ntmps11
      go_wp2_with fail
      refine (implResidOk_any w B A1 n1 c1 l s hB hl hn1 hc1).mono ?_
      rintro e w1 ⟨rfl, hb1⟩
      rw [HO.out]
      go_wp2_with fail
      refine (implResidOk_any w1 B A2 n2 c2 m s (Nat.le_trans hB hb1.size) (hm.below (hb1.mono hB)) hn2 hc2).mono ?_
      rintro e w2 ⟨rfl, hb2⟩
      rw [HO2.out]
      have HB := Lib.hid (hb1.trans (hb2.mono hb1.size))
      go_wp2
      go_ret
      exact ⟨by rw [HF.out]; rfl, HB.out⟩
    | true =>
      have HO2 := Lib.hid h2
      have HMO := Lib.hid ((Nm.residOk_iff s m).1 h2).2.2.1
      clear h2
      go_enter Try.func11, Try.ntmps11
      go_wp2_with fail
      refine (implResidOk_any w B A1 n1 c1 l s hB hl hn1 hc1).mono ?_
      rintro e w1 ⟨rfl, hb1⟩
      rw [HO.out]
      go_wp2_with fail
      refine (implResidOk_any w1 B A2 n2 c2 m s (Nat.le_trans hB hb1.size) (hm.below (hb1.mono hB)) hn2 hc2).mono ?_
      rintro e w2 ⟨rfl, hb2⟩
      rw [HO2.out]
      have HB := Lib.hid (hb1.trans (hb2.mono hb1.size))
      clear hb1 hb2
      go_wp2
      go_loopw [21] (fun i wr => ∃ k : Nat, k ≤ n1 ∧ i = .int .i64 k ∧ Hid (∀ j, j < k → Nm.ratomLe (l.getD j (0, 0)) m) ∧ Below w.heap.size w wr) (fun i _ => n1 - (intOf i).toNat)
      case atStart => exact ⟨0, Nat.zero_le _, rfl, (fun j hj => absurd hj (by omega)), HB.out⟩
      case round =>
        obtain ⟨k, hk, rfl, HA, hbel⟩ := hrel
        by_cases hlt : k < n1
        · obtain ⟨b, off, rfl, hb, hc⟩ := hl.2 (by omega)
          obtain ⟨e1, e2⟩ := hc k hlt
          have HL := Lib.hid hl.1
          obtain ⟨t, ht⟩ : ∃ t, l.getD k (0, 0) = t := ⟨_, rfl⟩
          rw [ht] at e1 e2
          obtain ⟨p, x⟩ := t
          have HT := Lib.hid ht
          have k1 := (hbel.cell (p := ⟨b, off + k * 2, none⟩) (by show b < _; omega)).trans e1
          have k2 := (hbel.cell (p := ⟨b, off + k * 2 + 1, none⟩) (by show b < _; omega)).trans e2
          have hbA := hbel.alloc hbel.size (.cells #[.int .i64 p, .int .i64 x] 30)
          have HM := Lib.hid (hm.below (hbA.mono hB))
          have hszA : B ≤ (wr.alloc (.cells #[.int .i64 p, .int .i64 x] 30)).heap.size := Nat.le_trans hB hbA.size
          have HS := Lib.hid hszA
          have HBA := Lib.hid hbA
          clear e1 e2 hc hl ht hbA hszA hm
          go_wp2_with fail
          refine (residAtomLe_any _ B p x A2 n2 c2 m HS.out HM.out hn2 HMO.out).mono ?_
          rintro e w3 ⟨rfl, hb3⟩
          have HB3 := Lib.hid (HBA.out.trans (hb3.mono HBA.out.size))
          clear hb3
          cases hle : Nm.ratomLeB (p, x) m with
          | true =>
            have HA2 : Hid (∀ j, j < k + 1 → Nm.ratomLe (l.getD j (0, 0)) m) := by
              intro j hj
              by_cases e : j = k
              · subst e; rw [HT.out]; exact (Nm.ratomLeB_iff _ _).1 hle
              · exact HA.out j (by omega)
            clear hle
            go_wp2
            go_roundw
            case rel => exact ⟨k + 1, by omega, by go_num, HA2.out, HB3.out⟩
            case measure => simp [intOf]; omega
          | false =>
            have HF : Hid (Nm.residLe s l m = false) := Nm.residLe_no (fun h => by
              have h' := h.2.2 k (by rw [HL.out]; exact hlt)
              rw [HT.out] at h'
              rw [(Nm.ratomLeB_iff _ _).2 h'] at hle
              cases hle)
            clear hle
            go_wp2
            go_ret
            exact ⟨by rw [HF.out]; rfl, HB3.out⟩
        · have HF : Hid (Nm.residLe s l m = true) := (Nm.residLe_iff s l m).2 ⟨(Nm.residOk_iff s l).1 HO.out, (Nm.residOk_iff s m).1 HO2.out, fun j hj => HA.out j (by have := hl.1; omega)⟩
          clear hl hm
          go_wp2
          go_ret
          exact ⟨by rw [HF.out]; rfl, hbel⟩
end Go.Proofs.Ytijiohdddfdjfaa
