/- What the laws draw: a number, an environment, a copy; the draw of LevelParams. -/
import Derived.Test.YtijiohdddfdjfaaCur4
import Derived.Test.YtijiohdddfdjfaaEvalLaw
namespace Go.Proofs.Ytijiohdddfdjfaa
open Go.RowKit

set_option maxHeartbeats 800000 in
theorem big_any (w : World) (A : Option Addr) (n c : Nat) :
    Calls Try.prog 9 #[.slice A n c] w fun e w' => e = .returned (.bool (decide (1048576 < (n : Int)))) ∧ w = w' := by
  go_enter Try.func9, Try.ntmps9
  go_wp2
  go_ret
  exact ⟨ret_bool (by simp), rfl⟩

set_option maxRecDepth 100000 in
set_option maxHeartbeats 1600000 in
theorem lawPick_any (w : World) (B : Nat) (A : Option Addr) (n c s m : Nat) (hb : BytR w B A n) (hn : n ≤ 1048576) (hs : s ≤ 1000) (hm : m ≤ 1000) :
    Calls Try.prog 15 #[.slice A n c, .int .i64 s, .int .i64 m] w fun e w' => ∃ r : Nat, e = .returned (.int .i64 r) ∧ (r = 0 ∨ r < m) ∧ w = w' := by
  by_cases hz : n = 0
  · subst hz
    go_enter Try.func15, Try.ntmps15
    go_wp2
    go_ret
    exact ⟨0, rfl, .inl rfl, rfl⟩
  · have hz' : ¬ ((n : Int) = 0) := by omega
    by_cases hm2 : m < 2
    · go_enter Try.func15, Try.ntmps15
      go_wp2
      go_ret
      exact ⟨0, rfl, .inl rfl, rfl⟩
    · have hm2' : ¬ ((m : Int) < 2) := by omega
      obtain ⟨b, off, rfl, hbB, hcs⟩ := hb (by omega)
      go_enter Try.func15, Try.ntmps15
      go_wp2
      go_loop [7, 8] (fun x i => ∃ k y : Nat, i = .int .i64 k ∧ x = .int .i64 y ∧ ((k = 0 ∧ y = 0) ∨ (k = 1 ∧ y ≤ 255) ∨ (k = 2 ∧ y ≤ 8160) ∨ (k = 3 ∧ y ≤ 253215))) (fun _ i => 3 - (intOf i).toNat)
      case atStart => exact ⟨0, 0, rfl, rfl, .inl ⟨rfl, rfl⟩⟩
      case round =>
        obtain ⟨k, y, rfl, rfl, hky⟩ := hrel
        by_cases hk3 : k < 3
        · have hk3' : (k : Int) < 3 := by omega
          have hpm : (s + k) % n < n := Nat.mod_lt _ (by omega)
          obtain ⟨x, hx, y1⟩ := hcs ((s + k) % n) hpm
          have hcast : ((s : Int) + (k : Int)) % (n : Int) = (((s + k) % n : Nat) : Int) := by simp
          generalize (s + k) % n = q at hpm y1 hcast
          have hyb : y ≤ 8160 := by omega
          go_wp2
          go_round
          case rel => exact ⟨k + 1, 31 * y + x, by go_num, by go_num, by omega⟩
          case measure => simp [intOf]; omega
        · have hk3' : ¬ ((k : Int) < 3) := by omega
          have hyb : y ≤ 253215 := by omega
          go_wp2
          go_ret
          exact ⟨(y + s) % m, ret_int (by simp), .inr (Nat.mod_lt _ (by omega)), rfl⟩

/-- an environment of five numbers of its own, each at most m -/
def EnvOut (m : Nat) (w : World) (e : Ending) (w' : World) : Prop :=
  ∃ g cap env, e = .returned (.slice (some ⟨g, 0, none⟩) 5 cap) ∧ env.length = 5 ∧ (∀ x ∈ env, 0 ≤ x ∧ x ≤ (m : Int)) ∧ OwnI w' w.heap.size (some ⟨g, 0, none⟩) 5 cap env ∧ Below w.heap.size w w'

set_option maxHeartbeats 800000 in
theorem open_any (w : World) (B : Nat) (A : Option Addr) (n c : Nat) (hB : B ≤ w.heap.size) (hb : BytR w B A n) (hn : n ≤ 1048576) :
    Calls Try.prog 27 #[.slice A n c] w fun e w' => e = .returned (.pointer (some ⟨w.heap.size, 0, none⟩)) ∧ Below w.heap.size w w' ∧ Cur w' w.heap.size A n c 0 := by
  have hcast : (n : Int) % 1000 = ((n % 1000 : Nat) : Int) := by omega
  have hlt : n % 1000 < 1000 := Nat.mod_lt _ (by omega)
  generalize n % 1000 = q at hcast hlt
  have hb1 : Below w.heap.size w (w.alloc (.cells #[.slice A n c, .int .i64 0, .int .i64 (109 + (q : Int))] 61)) := (Below.refl _ _).alloc (Nat.le_refl _) _
  have HC : Hid (Cur (w.alloc (.cells #[.slice A n c, .int .i64 0, .int .i64 (109 + (q : Int))] 61)) w.heap.size A n c 0) := by
    refine ⟨fun h0 => ?_, 0, 109 + q, ?_, Nat.le_refl _, by omega⟩
    · obtain ⟨b, off, rfl, hbb, hcs⟩ := (hb.below (hb1.mono hB)) h0
      exact ⟨b, off, rfl, by omega, hcs⟩
    · have := Blk.made w 61 #[.slice A n c, .int .i64 0, .int .i64 (109 + (q : Int))]
      rw [show ((109 + q : Nat) : Int) = 109 + (q : Int) by omega]
      exact this
  have HB := Lib.hid hb1
  clear hb1
  go_enter Try.func27, Try.ntmps27
  go_wp2
  go_ret
  exact ⟨rfl, HB.out, HC.out⟩

end Go.Proofs.Ytijiohdddfdjfaa
