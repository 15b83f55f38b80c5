/- The program's looks at atoms: valid ones, increasing Params, a number that exceeds. -/
import Derived.Test.YtijiohdddfdjfaaDoorAtLaws
import Derived.Test.YtijiohdddfdjfaaDoorNMath3
import Derived.Deep.RegionHeld3
namespace Go.Proofs.YtijiohdddfdjfaaDoor
open Go.RowKit

set_option maxRecDepth 100000 in
set_option maxHeartbeats 800000 in
theorem atomsOk_any (w : World) (B : Nat) (A : Option Addr) (n c : Nat) (l : List (Int × Int)) (hB : B ≤ w.heap.size) (hl : TokR w B A n l) (hn : (n : Int) ≤ 140737488355328) :
    Calls Tryd.prog 54 #[.slice A n c] w fun e w' => e = .returned (.bool (Nm.allOk l)) ∧ Below w.heap.size w w' := by
  go_enter Tryd.func54, Tryd.ntmps54
  go_wp2
  go_loopw [7] (fun i wr => ∃ k : Nat, k ≤ n ∧ i = .int .i64 k ∧ Hid (∀ j, j < k → Nm.atOk (l.getD j (0, 0)) = true) ∧ Below w.heap.size w wr) (fun i _ => n - (intOf i).toNat)
  case atStart => exact ⟨0, Nat.zero_le _, rfl, (fun j hj => absurd hj (by omega)), Below.refl _ _⟩
  case round =>
    obtain ⟨k, hk, rfl, HA, hbel⟩ := hrel
    by_cases hlt : k < n
    · obtain ⟨b, off, rfl, hb, hc⟩ := hl.2 (by omega)
      obtain ⟨c1, c2⟩ := hc k hlt
      have HL := Lib.hid hl.1
      obtain ⟨t, ht⟩ : ∃ t, l.getD k (0, 0) = t := ⟨_, rfl⟩
      rw [ht] at c1 c2
      obtain ⟨p, x⟩ := t
      have HT := Lib.hid ht
      have k1 := (hbel.cell (p := ⟨b, off + k * 2, none⟩) (by show b < _; omega)).trans c1
      have k2 := (hbel.cell (p := ⟨b, off + k * 2 + 1, none⟩) (by show b < _; omega)).trans c2
      have HBA := Lib.hid (hbel.alloc hbel.size (.cells #[.int .i64 p, .int .i64 x] 68))
      clear c1 c2 hc hl ht
      by_cases hok : -1 ≤ p ∧ p < 5 ∧ 0 ≤ x ∧ x ≤ 1000
      · have HA2 : Hid (∀ j, j < k + 1 → Nm.atOk (l.getD j (0, 0)) = true) := by
          intro j hj
          by_cases e : j = k
          · subst e; rw [HT.out]; exact (Nm.atOk_iff _).2 hok
          · exact HA.out j (by omega)
        obtain ⟨h1, h2, h3, h4⟩ := hok
        have d1 : decide (p < -1) = false := by simp; omega
        have d2 : decide (5 ≤ p) = false := by simp; omega
        have d3 : decide (x < 0) = false := by simp; omega
        have d4 : decide (1000 < x) = false := by simp; omega
        go_wp2
        go_roundw
        case rel => exact ⟨k + 1, by omega, by go_num, HA2.out, HBA.out⟩
        case measure => simp [intOf]; omega
      · have HF : Hid (Nm.allOk l = false) := Nm.allOk_no (fun h => hok (by
          have := (Nm.atOk_iff _).1 (h k (by rw [HL.out]; exact hlt))
          rw [HT.out] at this; exact this))
        by_cases g1 : p < -1
        · clear hok
          go_wp2
          go_ret
          exact ⟨by rw [HF.out]; rfl, HBA.out⟩
        · have g1' : -1 ≤ p := by omega
          by_cases g2 : 5 ≤ p
          · clear hok
            go_wp2
            go_ret
            exact ⟨by rw [HF.out]; rfl, HBA.out⟩
          · have g2' : p < 5 := by omega
            by_cases g3 : x < 0
            · clear hok
              go_wp2
              go_ret
              exact ⟨by rw [HF.out]; rfl, HBA.out⟩
            · have g3' : 0 ≤ x := by omega
              have g4 : 1000 < x := by omega
              clear hok
              go_wp2
              go_ret
              exact ⟨by rw [HF.out]; rfl, HBA.out⟩
    · have HF : Hid (Nm.allOk l = true) := (Nm.allOk_iff l).2 (fun j hj => HA.out j (by have := hl.1; omega))
      clear hl
      go_wp2
      go_ret
      exact ⟨by rw [HF.out]; rfl, hbel⟩

set_option maxRecDepth 100000 in
set_option maxHeartbeats 800000 in
theorem numberExceeds_any (w : World) (B : Nat) (x : Int) (A : Option Addr) (n c : Nat) (l : List (Int × Int)) (hB : B ≤ w.heap.size) (hl : TokR w B A n l) (hn : (n : Int) ≤ 140737488355328) :
    Calls Tryd.prog 82 #[.int .i64 x, .slice A n c] w fun e w' => e = .returned (.bool (Nm.exceeds x l)) ∧ Below w.heap.size w w' := by
  go_enter Tryd.func82, Tryd.ntmps82
  go_wp2
  go_loopw [9] (fun i wr => ∃ k : Nat, k ≤ n ∧ i = .int .i64 k ∧ Hid (∀ j, j < k → (l.getD j (0, 0)).2 < x) ∧ Below w.heap.size w wr) (fun i _ => n - (intOf i).toNat)
  case atStart => exact ⟨0, Nat.zero_le _, rfl, (fun j hj => absurd hj (by omega)), Below.refl _ _⟩
  case round =>
    obtain ⟨k, hk, rfl, HA, hbel⟩ := hrel
    by_cases hlt : k < n
    · obtain ⟨b, off, rfl, hb, hc⟩ := hl.2 (by omega)
      obtain ⟨c1, c2⟩ := hc k hlt
      have HL := Lib.hid hl.1
      obtain ⟨t, ht⟩ : ∃ t, l.getD k (0, 0) = t := ⟨_, rfl⟩
      rw [ht] at c1 c2
      obtain ⟨p, y⟩ := t
      have HT := Lib.hid ht
      have k1 := (hbel.cell (p := ⟨b, off + k * 2, none⟩) (by show b < _; omega)).trans c1
      have k2 := (hbel.cell (p := ⟨b, off + k * 2 + 1, none⟩) (by show b < _; omega)).trans c2
      have HBA := Lib.hid (hbel.alloc hbel.size (.cells #[.int .i64 p, .int .i64 y] 68))
      clear c1 c2 hc hl ht
      by_cases hok : y < x
      · have HA2 : Hid (∀ j, j < k + 1 → (l.getD j (0, 0)).2 < x) := by
          intro j hj
          by_cases e : j = k
          · subst e; rw [HT.out]; exact hok
          · exact HA.out j (by omega)
        go_wp2
        go_roundw
        case rel => exact ⟨k + 1, by omega, by go_num, HA2.out, HBA.out⟩
        case measure => simp [intOf]; omega
      · have HF : Hid (Nm.exceeds x l = false) := Nm.exceeds_no (fun h => hok (by
          have := h k (by rw [HL.out]; exact hlt)
          rw [HT.out] at this; exact this))
        have g : x ≤ y := by omega
        clear hok
        go_wp2
        go_ret
        exact ⟨by rw [HF.out]; rfl, HBA.out⟩
    · have HF : Hid (Nm.exceeds x l = true) := (Nm.exceeds_iff x l).2 (fun j hj => HA.out j (by have := hl.1; omega))
      clear hl
      go_wp2
      go_ret
      exact ⟨by rw [HF.out]; rfl, hbel⟩

set_option maxRecDepth 100000 in
set_option maxHeartbeats 800000 in
theorem paramsIncrease_any (w : World) (B : Nat) (A : Option Addr) (n c : Nat) (l : List (Int × Int)) (hB : B ≤ w.heap.size) (hl : TokR w B A n l) (hn : (n : Int) ≤ 140737488355328) (h1 : 1 ≤ n) :
    Calls Tryd.prog 55 #[.slice A n c] w fun e w' => e = .returned (.bool (Nm.incr l)) ∧ Below w.heap.size w w' := by
  go_enter Tryd.func55, Tryd.ntmps55
  go_wp2
  go_loopw [3] (fun i wr => ∃ k : Nat, k + 1 ≤ n ∧ i = .int .i64 ((k : Int) + 1) ∧ Hid (∀ j, 0 < j → j < k + 1 → (l.getD (j - 1) (0, 0)).1 < (l.getD j (0, 0)).1) ∧ Below w.heap.size w wr) (fun i _ => n - (intOf i).toNat)
  case atStart => exact ⟨0, h1, rfl, (fun j h0 hj => absurd hj (by omega)), Below.refl _ _⟩
  case round =>
    obtain ⟨k, hk, rfl, HA, hbel⟩ := hrel
    by_cases hlt : k + 1 < n
    · obtain ⟨b, off, rfl, hb, hc⟩ := hl.2 (by omega)
      obtain ⟨c1, _⟩ := hc (k + 1) hlt
      obtain ⟨c2, _⟩ := hc k (by omega)
      have HL := Lib.hid hl.1
      obtain ⟨p, hp⟩ : ∃ p, (l.getD k (0, 0)).1 = p := ⟨_, rfl⟩
      obtain ⟨q, hq⟩ : ∃ q, (l.getD (k + 1) (0, 0)).1 = q := ⟨_, rfl⟩
      rw [hq] at c1
      rw [hp] at c2
      have HP := Lib.hid hp
      have HQ := Lib.hid hq
      have k1 := (hbel.cell (p := ⟨b, off + (k + 1) * 2, none⟩) (by show b < _; omega)).trans c1
      have k2 := (hbel.cell (p := ⟨b, off + k * 2, none⟩) (by show b < _; omega)).trans c2
      have HBD := Lib.hid hbel.drew
      have hw1 : IntKind.i64.wrap (k : Int) = (k : Int) := by rw [IntKind.wrap_i64]; omega
      have hi1 : ((k : Int) + 1) < (n : Int) := by omega
      have hi2 : (k : Int) < (n : Int) := by omega
      have hi3 : (0 : Int) ≤ (k : Int) + 1 := by omega
      have ht1 : ((k : Int) + 1).toNat = k + 1 := by omega
      clear c1 c2 hc hl hp hq
      go_wp2_with fail
      refine region_tail 11 (by kernel_rfl) (by kernel_rfl) ?_
      simp only [List.take_succ_cons, List.take_zero, List.drop_succ_cons, List.drop_zero]
      repeat still_step
      refine wpStill_nil ?_
      by_cases hok : p < q
      · have HA2 : Hid (∀ j, 0 < j → j < k + 1 + 1 → (l.getD (j - 1) (0, 0)).1 < (l.getD j (0, 0)).1) := by
          intro j h0 hj
          by_cases e : j = k + 1
          · subst e; rw [Nat.add_sub_cancel, HP.out, HQ.out]; exact hok
          · exact HA.out j h0 (by omega)
        go_wp2
        go_roundw
        case rel => exact ⟨k + 1, by omega, by go_num, HA2.out, HBD.out⟩
        case measure => simp [intOf]; omega
      · have HF : Hid (Nm.incr l = false) := Nm.incr_no (fun h => hok (by
          have := h (k + 1) (by omega) (by rw [HL.out]; exact hlt)
          rw [Nat.add_sub_cancel, HP.out, HQ.out] at this; exact this))
        have g : q ≤ p := by omega
        clear hok
        go_wp2
        go_ret
        exact ⟨by rw [HF.out]; rfl, HBD.out⟩
    · have HF : Hid (Nm.incr l = true) := (Nm.incr_iff l).2 (fun j h0 hj => HA.out j h0 (by have := hl.1; omega))
      clear hl
      go_wp2
      go_ret
      exact ⟨by rw [HF.out]; rfl, hbel⟩
end Go.Proofs.YtijiohdddfdjfaaDoor
