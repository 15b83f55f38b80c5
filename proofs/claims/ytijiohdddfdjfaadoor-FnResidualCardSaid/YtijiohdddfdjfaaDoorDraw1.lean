/- What the laws draw: a number, an environment, a copy; the draw of LevelParams. -/
import Derived.Test.YtijiohdddfdjfaaDoorCur4
import Derived.Test.YtijiohdddfdjfaaDoorEvalLaw
namespace Go.Proofs.YtijiohdddfdjfaaDoor
open Go.RowKit

set_option maxHeartbeats 800000 in
theorem big_any (w : World) (A : Option Addr) (n c : Nat) :
    Calls Tryd.prog 9 #[.slice A n c] w fun e w' => e = .returned (.bool (decide (1048576 < (n : Int)))) ∧ w = w' := by
  go_enter Tryd.func9, Tryd.ntmps9
  go_wp2
  go_ret
  exact ⟨ret_bool (by simp), rfl⟩

set_option maxRecDepth 100000 in
set_option maxHeartbeats 1600000 in
theorem lawPick_any (w : World) (B : Nat) (A : Option Addr) (n c s m : Nat) (hb : BytR w B A n) (hn : n ≤ 1048576) (hs : s ≤ 1000) (hm : m ≤ 1000) :
    Calls Tryd.prog 39 #[.slice A n c, .int .i64 s, .int .i64 m] w fun e w' => ∃ r : Nat, e = .returned (.int .i64 r) ∧ (r = 0 ∨ r < m) ∧ w = w' := by
  by_cases hz : n = 0
  · subst hz
    go_enter Tryd.func39, Tryd.ntmps39
    go_wp2
    go_ret
    exact ⟨0, rfl, .inl rfl, rfl⟩
  · have hz' : ¬ ((n : Int) = 0) := by omega
    by_cases hm2 : m < 2
    · go_enter Tryd.func39, Tryd.ntmps39
      go_wp2
      go_ret
      exact ⟨0, rfl, .inl rfl, rfl⟩
    · have hm2' : ¬ ((m : Int) < 2) := by omega
      obtain ⟨b, off, rfl, hbB, hcs⟩ := hb (by omega)
      go_enter Tryd.func39, Tryd.ntmps39
      go_wp2
      go_loop [7, 8] (fun x i => ∃ k y : Nat, i = .int .i64 k ∧ x = .int .i64 y ∧ ((k = 0 ∧ y = 0) ∨ (k = 1 ∧ y ≤ 255) ∨ (k = 2 ∧ y ≤ 8160) ∨ (k = 3 ∧ y ≤ 253215))) (fun _ i => 3 - (intOf i).toNat)
      case atStart => exact ⟨0, 0, rfl, rfl, .inl ⟨rfl, rfl⟩⟩
      case round =>
        obtain ⟨k, y, rfl, rfl, hky⟩ := hrel
        by_cases hk3 : k < 3
        · have hk3' : (k : Int) < 3 := by omega
          have hpm : (s + k) % n < n := Nat.mod_lt _ (by omega)
          obtain ⟨x, hx, y1⟩ := hcs ((s + k) % n) hpm
          have hcast : ((s : Int) + (k : Int)) % (n : Int) = (((s + k) % n : Nat) : Int) := by simp
          generalize (s + k) % n = q at hpm y1 hcast
          have hyb : y ≤ 8160 := by omega
          go_wp2
          go_round
          case rel => exact ⟨k + 1, 31 * y + x, by go_num, by go_num, by omega⟩
          case measure => simp [intOf]; omega
        · have hk3' : ¬ ((k : Int) < 3) := by omega
          have hyb : y ≤ 253215 := by omega
          go_wp2
          go_ret
          exact ⟨(y + s) % m, ret_int (by simp), .inr (Nat.mod_lt _ (by omega)), rfl⟩

/-- an environment of five numbers of its own, each at most m -/
def EnvOut (m : Nat) (w : World) (e : Ending) (w' : World) : Prop :=
  ∃ g cap env, e = .returned (.slice (some ⟨g, 0, none⟩) 5 cap) ∧ env.length = 5 ∧ (∀ x ∈ env, 0 ≤ x ∧ x ≤ (m : Int)) ∧ OwnI w' w.heap.size (some ⟨g, 0, none⟩) 5 cap env ∧ Below w.heap.size w w'

set_option maxRecDepth 100000 in
set_option maxHeartbeats 1600000 in
theorem envs_any (w : World) (B : Nat) (A : Option Addr) (n c s m : Nat) (hB : B ≤ w.heap.size) (hb : BytR w B A n) (hn : n ≤ 1048576) (hs : s ≤ 900) (hm : m ≤ 900) :
    Calls Tryd.prog 11 #[.slice A n c, .int .i64 s, .int .i64 m] w (EnvOut m w) := by
  obtain ⟨i0, hi, hz0, hz1, hz2⟩ := info_parts info_int
  have ho0 : OwnI (w.alloc (.cells #[] 3)) w.heap.size (some ⟨w.heap.size, 0, none⟩) 0 0 [] := World.ownsRow_made w #[] 0 (Nat.le_refl _) (by simp [maxLen]) (by simp)
  have HO0 := Lib.hid ho0
  have HB0 := Lib.hid ((Below.refl w.heap.size w).alloc (Nat.le_refl _) (.cells #[] 3))
  clear ho0
  go_enter Tryd.func11, Tryd.ntmps11
  go_wp2
  go_loopw [7, 8] (fun v i wr => ∃ (k g cap : Nat) (env : List Int), k ≤ 5 ∧ i = .int .i64 k ∧ v = .slice (some ⟨g, 0, none⟩) k cap ∧ env.length = k ∧ (∀ x ∈ env, 0 ≤ x ∧ x ≤ (m : Int)) ∧ OwnI wr w.heap.size (some ⟨g, 0, none⟩) k cap env ∧ Below w.heap.size w wr) (fun _ i _ => 5 - (intOf i).toNat)
  case atStart => exact ⟨0, _, 0, [], by omega, rfl, rfl, rfl, (fun x hx => by cases hx), HO0.out, HB0.out⟩
  case round =>
    obtain ⟨k, g, cap, env, hk, rfl, rfl, hel, henv, hown, hbel⟩ := hrel
    have hszr := hbel.size
    have HE := Lib.hid henv
    clear henv
    by_cases hk5 : k < 5
    · have hk5' : (k : Int) < 5 := by omega
      have hcast : (s : Int) + 7 * (k : Int) = ((s + 7 * k : Nat) : Int) := by omega
      have hp := lawPick_any wr B A n c (s + 7 * k) (m + 1) (hb.below (hbel.mono hB)) hn (by omega) (by omega)
      have e1 : ((s + 7 * k : Nat) : Int) = (s : Int) + 7 * (k : Int) := by omega
      have e2 : ((m + 1 : Nat) : Int) = (m : Int) + 1 := by omega
      rw [e1, e2] at hp
      have HP := Lib.hid hp
      clear hcast e1 e2 hp
      go_wp2_with fail
      refine HP.out.mono ?_
      rintro e w1 ⟨r, rfl, hr, rfl⟩
      have hrm : r ≤ m := by omega
      go_wp2_with (at_builtin; refine wpList_append_own _ rfl (.tmp 14) (.tmp 23) 27 rfl w.heap.size 3 i0 (.int .i64 0) 1 8 Tryd.underlying27 hi hz0 hz1 hz2 rfl (by decide) (.slice (some ⟨g, 0, none⟩) k cap) k (env.map (Value.int .i64)) rfl (hown.alloc _) ⟨wr.heap.size, 0, none⟩ 1 1 [.int .i64 r] rfl rfl (cell_one_new _ _ _) (fun u hu => by simp at hu; subst hu; rfl) (by unfold maxLen; omega) (by omega) (by simp; omega) ?_; intro v' w3 hown' hgrow hnil)
      obtain ⟨g2, cap2, rfl⟩ : ∃ g' cap', v' = .slice (some ⟨g', 0, none⟩) (k + 1) cap' := by
        rcases hown'.2 with ⟨h0, _⟩ | ⟨g', cap', _, h0, _⟩
        · have := (hnil.1 h0).1
          cases this
        · exact ⟨g', cap', h0⟩
      have HB1 : Hid (Below w.heap.size w w3) := (hbel.alloc hszr _).grown hgrow (by simp; omega) (fun k h => (hown.lt k h).1)
      have HW : Hid (OwnI w3 w.heap.size (some ⟨g2, 0, none⟩) (k + 1) cap2 (env ++ [(r : Int)])) := by
        show OwnI _ _ _ _ _ _
        simpa [OwnI] using hown'
      clear hown hown' hgrow hbel hnil HP
      go_wp2
      go_roundw
      case rel =>
        refine ⟨k + 1, g2, cap2, env ++ [(r : Int)], by omega, by go_num, rfl, by simp [hel], fun x hx => ?_, HW.out, HB1.out⟩
        rcases List.mem_append.1 hx with h | h
        · exact HE.out x h
        · obtain rfl : x = (r : Int) := by simpa using h
          omega
      case measure => simp [intOf]; omega
    · obtain rfl : k = 5 := by omega
      go_wp2
      go_ret
      exact ⟨g, cap, env, rfl, hel, HE.out, hown, hbel⟩

set_option maxHeartbeats 800000 in
theorem open_any (w : World) (B : Nat) (A : Option Addr) (n c : Nat) (hB : B ≤ w.heap.size) (hb : BytR w B A n) (hn : n ≤ 1048576) :
    Calls Tryd.prog 36 #[.slice A n c] w fun e w' => e = .returned (.pointer (some ⟨w.heap.size, 0, none⟩)) ∧ Below w.heap.size w w' ∧ Cur w' w.heap.size A n c 0 := by
  have hcast : (n : Int) % 1000 = ((n % 1000 : Nat) : Int) := by omega
  have hlt : n % 1000 < 1000 := Nat.mod_lt _ (by omega)
  generalize n % 1000 = q at hcast hlt
  have hb1 : Below w.heap.size w (w.alloc (.cells #[.slice A n c, .int .i64 0, .int .i64 (109 + (q : Int))] 102)) := (Below.refl _ _).alloc (Nat.le_refl _) _
  have HC : Hid (Cur (w.alloc (.cells #[.slice A n c, .int .i64 0, .int .i64 (109 + (q : Int))] 102)) w.heap.size A n c 0) := by
    refine ⟨fun h0 => ?_, 0, 109 + q, ?_, Nat.le_refl _, by omega⟩
    · obtain ⟨b, off, rfl, hbb, hcs⟩ := (hb.below (hb1.mono hB)) h0
      exact ⟨b, off, rfl, by omega, hcs⟩
    · have := Blk.made w 102 #[.slice A n c, .int .i64 0, .int .i64 (109 + (q : Int))]
      rw [show ((109 + q : Nat) : Int) = 109 + (q : Int) by omega]
      exact this
  have HB := Lib.hid hb1
  clear hb1
  go_enter Tryd.func36, Tryd.ntmps36
  go_wp2
  go_ret
  exact ⟨rfl, HB.out, HC.out⟩

/-- a draw leaves a row of tokens of its own, and what was there -/
def DrawOut (w : World) (e : Ending) (w' : World) : Prop :=
  ∃ g cap l, e = .returned (.slice (some ⟨g, 0, none⟩) l.length cap) ∧ 1 ≤ l.length ∧ l.length ≤ 25 ∧ OwnT w' w.heap.size (some ⟨g, 0, none⟩) l.length cap l ∧ Below w.heap.size w w'

end Go.Proofs.YtijiohdddfdjfaaDoor
