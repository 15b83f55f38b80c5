/- ResidLe of the program (written by tools/mkrle.py). -/
import Derived.Test.YtghoofgfimeedaaDoorROk

namespace Go.Proofs.YtghoofgfimeedaaDoor
open Go.RowKit

namespace Nm
/-- the atom y serves for x where positive parameters are at least 1 -/
def RFits (x y : At) : Prop := x.1 = y.1 ∧ x.2 ≤ y.2 ∨ x.1 = -1 ∧ 0 ≤ y.1 ∧ x.2 ≤ y.2 + 1
/-- some atom of b serves for x -/
def ratomLe (x : At) (b : List At) : Prop := ∃ k, k < b.length ∧ RFits x (b.getD k (0, 0))
open Classical in
noncomputable def ratomLeB (x : At) (b : List At) : Bool := decide (ratomLe x b)
theorem ratomLeB_iff (x : At) (b : List At) : ratomLeB x b = true ↔ ratomLe x b := by simp [ratomLeB]
theorem ratomLeB_no {x : At} {b : List At} (h : ¬ ratomLe x b) : ratomLeB x b = false := by simp [ratomLeB, h]
open Classical in
noncomputable def residLe (s : Int) (a b : List At) : Bool := decide (ROk s a ∧ ROk s b ∧ ∀ k, k < a.length → ratomLe (a.getD k (0, 0)) b)
theorem residLe_iff (s : Int) (a b : List At) : residLe s a b = true ↔ ROk s a ∧ ROk s b ∧ ∀ k, k < a.length → ratomLe (a.getD k (0, 0)) b := by simp [residLe]
theorem residLe_no {s : Int} {a b : List At} (h : ¬ (ROk s a ∧ ROk s b ∧ ∀ k, k < a.length → ratomLe (a.getD k (0, 0)) b)) : residLe s a b = false := by
  simp only [residLe, decide_eq_false_iff_not]; exact h
theorem residLe_notA {s : Int} {a b : List At} (h : residOk s a = false) : residLe s a b = false :=
  residLe_no (fun hh => by rw [(residOk_iff s a).2 hh.1] at h; cases h)
theorem residLe_notB {s : Int} {a b : List At} (h : residOk s b = false) : residLe s a b = false :=
  residLe_no (fun hh => by rw [(residOk_iff s b).2 hh.2.1] at h; cases h)
end Nm

set_option maxHeartbeats 1600000 in
theorem residAtomLe_any (w : World) (B : Nat) (p x : Int) (A : Option Addr) (n c : Nat) (l : List (Int × Int)) (hB : B ≤ w.heap.size) (hl : TokR w B A n l) (hn : (n : Int) ≤ 140737488355328) (hok : Nm.AllOk l) :
    Calls Tryd.prog 113 #[.agg #[.int .i64 p, .int .i64 x], .slice A n c] w fun e w' => e = .returned (.bool (Nm.ratomLeB (p, x) l)) ∧ Below w.heap.size w w' := by
  have HB0 : Hid (Below w.heap.size w (w.alloc (.cells #[.int .i64 p, .int .i64 x] 67))) := (Below.refl _ _).alloc (Nat.le_refl _) _
  have HK0 : Hid (Blk (w.alloc (.cells #[.int .i64 p, .int .i64 x] 67)) w.heap.size 67 #[.int .i64 p, .int .i64 x]) := Blk.made _ _ _
  have HOK := Lib.hid hok
  clear hok
  go_enter Tryd.func113, Tryd.ntmps113
  go_wp2
  go_loopw [9] (fun i wr => ∃ k : Nat, k ≤ n ∧ i = .int .i64 k ∧ Hid (∀ j, j < k → ¬ Nm.RFits (p, x) (l.getD j (0, 0))) ∧ Below w.heap.size w wr ∧ Blk wr w.heap.size 67 #[.int .i64 p, .int .i64 x]) (fun i _ => n - (intOf i).toNat)
  case atStart => exact ⟨0, Nat.zero_le _, rfl, (fun j hj => absurd hj (by omega)), HB0.out, HK0.out⟩
  case round =>
    obtain ⟨k, hk, rfl, HA, hbel, hblk⟩ := hrel
    by_cases hlt : k < n
    · obtain ⟨b, off, rfl, hb, hc⟩ := hl.2 (by omega)
      obtain ⟨c1, c2⟩ := hc k hlt
      have HL := Lib.hid hl.1
      have hat := (Nm.atOk_iff _).1 (HOK.out k (by rw [hl.1]; exact hlt))
      obtain ⟨t, ht⟩ : ∃ t, l.getD k (0, 0) = t := ⟨_, rfl⟩
      rw [ht] at c1 c2 hat
      obtain ⟨q, y⟩ := t
      simp only at hat
      obtain ⟨a1, a2, a3, a4⟩ := hat
      have HT := Lib.hid ht
      have k1 := (hbel.cell (p := ⟨b, off + k * 2, none⟩) (by show b < _; omega)).trans c1
      have k2 := (hbel.cell (p := ⟨b, off + k * 2 + 1, none⟩) (by show b < _; omega)).trans c2
      have hlt2 := hblk.lt
      have k3 : (wr.alloc (.cells #[.int .i64 q, .int .i64 y] 67)).cell? ⟨w.heap.size, 0, none⟩ = some (.int .i64 p) := (hblk.alloc _).cell 0
      have k4 : (wr.alloc (.cells #[.int .i64 q, .int .i64 y] 67)).cell? ⟨w.heap.size, 1, none⟩ = some (.int .i64 x) := (hblk.alloc _).cell 1
      have HBA := Lib.hid (hbel.alloc hbel.size (.cells #[.int .i64 q, .int .i64 y] 67))
      have HKA := Lib.hid (hblk.alloc (.cells #[.int .i64 q, .int .i64 y] 67))
      clear c1 c2 hc hl ht hblk
      have yes_of : Nm.RFits (p, x) (q, y) → Hid (Nm.ratomLeB (p, x) l = true) := fun h => (Nm.ratomLeB_iff _ _).2 ⟨k, by rw [HL.out]; exact hlt, by rw [HT.out]; exact h⟩
      have no_of : ¬ Nm.RFits (p, x) (q, y) → Hid (∀ j, j < k + 1 → ¬ Nm.RFits (p, x) (l.getD j (0, 0))) := by
        intro h j hj
        by_cases e : j = k
        · subst e; rw [HT.out]; exact h
        · exact HA.out j (by omega)
      by_cases epq : p = q
      · subst epq
        by_cases hx : x ≤ y
        · skip
          have HF := yes_of (.inl ⟨rfl, hx⟩)
          clear yes_of no_of 
          go_wp2
          go_ret
          exact ⟨by rw [HF.out]; rfl, HBA.out⟩
        · have dx : decide (x ≤ y) = false := by simp; omega
          by_cases ep : p = -1
          · subst ep
            have HA2 := no_of (fun h => by
              rcases h with h | h
              · exact hx h.2
              · exact absurd h.2.1 (by simp))
            clear yes_of no_of hx
            go_wp2
            go_roundw
            case rel => exact ⟨k + 1, by omega, by go_num, HA2.out, HBA.out, HKA.out⟩
            case measure => simp [intOf]; omega
          · have dp : (p == -1) = false := by simpa using ep
            have HA2 := no_of (fun h => by
              rcases h with h | h
              · exact hx h.2
              · exact ep h.1)
            clear yes_of no_of hx ep
            go_wp2
            go_roundw
            case rel => exact ⟨k + 1, by omega, by go_num, HA2.out, HBA.out, HKA.out⟩
            case measure => simp [intOf]; omega
      · have dq : (p == q) = false := by simpa using epq
        by_cases ep : p = -1
        · subst ep
          have dqn : (q != -1) = true := by simp; exact fun h => epq h.symm
          have dq0 : 0 ≤ q := by omega
          by_cases hx : x ≤ y + 1
          · skip
            have HF := yes_of (.inr ⟨rfl, dq0, hx⟩)
            clear yes_of no_of epq
            go_wp2
            go_ret
            exact ⟨by rw [HF.out]; rfl, HBA.out⟩
          · have dx : decide (x ≤ y + 1) = false := by simp; omega
            have HA2 := no_of (fun h => by
              rcases h with h | h
              · exact epq h.1
              · exact hx h.2.2)
            clear yes_of no_of hx epq
            go_wp2
            go_roundw
            case rel => exact ⟨k + 1, by omega, by go_num, HA2.out, HBA.out, HKA.out⟩
            case measure => simp [intOf]; omega
        · have dp : (p == -1) = false := by simpa using ep
          have HA2 := no_of (fun h => by
              rcases h with h | h
              · exact epq h.1
              · exact ep h.1)
          clear yes_of no_of epq ep
          go_wp2
          go_roundw
          case rel => exact ⟨k + 1, by omega, by go_num, HA2.out, HBA.out, HKA.out⟩
          case measure => simp [intOf]; omega
    · have HF : Hid (Nm.ratomLeB (p, x) l = false) := Nm.ratomLeB_no (fun ⟨j, hj, h1⟩ => HA.out j (by have := hl.1; omega) h1)
      clear hl
      go_wp2
      go_ret
      exact ⟨by rw [HF.out]; rfl, hbel⟩

end Go.Proofs.YtghoofgfimeedaaDoor
