/- The model's cursor: levels. -/
/- The model's cursor: levels that may be bad. -/
/- What the laws draw: a number, an environment, a copy; the draw of LevelParams. -/
import Derived.Test.YtmmhcpigcdlnmaaCur2
import Derived.Test.YtmmhcpigcdlnmaaEvalLaw

namespace Go.Proofs.Ytmmhcpigcdlnmaa
open Go.RowKit

def cost : Nat → Nat
  | 0 => 4
  | d + 1 => 8 + 2 * cost d

theorem joinR_some {op : Int} {a b l : List (Int × Int)} (h : joinR op a b = some l) : 1 ≤ l.length ∧ l.length ≤ 24 ∧ Lv.levelOk l = true := by
  unfold joinR at h
  split at h
  · unfold ifR at h
    split at h
    · rename_i hk
      injection h with h
      rw [← h]
      exact ⟨(ok_len hk rfl).1, (ok_len hk rfl).2, hk⟩
    · cases h
  · cases h
theorem succR_some {a l : List (Int × Int)} {k : Int} (h : succR a k = some l) (ha : 1 ≤ a.length) : 1 ≤ l.length ∧ l.length ≤ 24 := by
  unfold succR at h
  split at h
  · rename_i hk
    injection h with h
    rw [← h]
    simp [sxs]
    omega
  · cases h

end Go.Proofs.Ytmmhcpigcdlnmaa

namespace Go.Proofs.Ytmmhcpigcdlnmaa
open Go.RowKit

theorem tokCells_setC (l : List (Int × Int)) : ∀ (i : Nat) (v : Int), i < l.length →
    tokCells (l.set i (v, (l.getD i (0, 0)).2)) = (tokCells l).set (i * 2) (.int .i64 v) ∧ tokCells (l.set i ((l.getD i (0, 0)).1, v)) = (tokCells l).set (i * 2 + 1) (.int .i64 v) := by
  induction l with
  | nil => intro i v h; simp at h
  | cons t r ih =>
    intro i v h
    cases i with
    | zero => simp [tokCells_cons]
    | succ i =>
      have := ih i v (by simpa using h)
      rw [show (i + 1) * 2 = i * 2 + 1 + 1 by omega]
      simp only [List.set_cons_succ, tokCells_cons, List.getD_cons_succ, this.1, this.2]
      exact ⟨trivial, trivial⟩

def lenOf : Value → Nat
  | .slice _ n _ => n
  | _ => 0
end Go.Proofs.Ytmmhcpigcdlnmaa

namespace Go.Proofs.Ytmmhcpigcdlnmaa
open Go.RowKit

set_option maxRecDepth 100000 in
set_option maxHeartbeats 1000000 in
theorem same_any (w : World) (B : Nat) (A1 A2 : Option Addr) (n1 n2 c1 c2 : Nat) (l m : List Int) (hB : B ≤ w.heap.size) (hl : IntR w B A1 n1 l) (hm : IntR w B A2 n2 m)
    (hn1 : (n1 : Int) ≤ 140737488355328) (hn2 : (n2 : Int) ≤ 140737488355328) :
    Calls Try.prog 14 #[.slice A1 n1 c1, .slice A2 n2 c2] w fun e w' => e = .returned (.bool (decide (l = m))) ∧ Below w.heap.size w w' := by
  by_cases hne : n1 = n2
  · subst hne
    have en : ((n1 : Int) != (n1 : Int)) = false := by simp
    go_enter Try.func14, Try.ntmps14
    go_wp2
    go_loopw [5] (fun i wr => ∃ k : Nat, k ≤ n1 ∧ i = .int .i64 k ∧ Agree 0 k l m ∧ Below w.heap.size w wr) (fun i _ => n1 - (intOf i).toNat)
    case atStart => exact ⟨0, Nat.zero_le _, rfl, (fun j hj => absurd hj (by omega)), Below.refl _ _⟩
    case round =>
      obtain ⟨k, hk, rfl, hag, hbel⟩ := hrel
      have HG := Lib.hid hag
      clear hag
      by_cases hlt : k < n1
      · obtain ⟨b, off, rfl, hb, hc⟩ := hl.2 (by omega)
        have x1 := hc k hlt
        obtain ⟨b', off', rfl, hb', hc'⟩ := hm.2 (by omega)
        have y1 := hc' k hlt
        obtain ⟨t, ht⟩ : ∃ t, l.getD k 0 = t := ⟨_, rfl⟩
        obtain ⟨u, hu⟩ : ∃ u, m.getD k 0 = u := ⟨_, rfl⟩
        rw [ht] at x1
        rw [hu] at y1
        have HT := Lib.hid ht
        have HU := Lib.hid hu
        have k1 := (hbel.cell (p := ⟨b, off + k, none⟩) (by show b < _; omega)).trans x1
        have k3 := (hbel.cell (p := ⟨b', off' + k, none⟩) (by show b' < _; omega)).trans y1
        have HB := Lib.hid hbel.drew
        clear x1 y1 hc hc' ht hu hl hm
        by_cases heq : t = u
        · subst heq
          have HA : Hid (Agree 0 (k + 1) l m) := agree_step HG.out (by rw [HT.out, HU.out])
          go_wp2_with fail
          refine region_tail 8 (by kernel_rfl) (by kernel_rfl) ?_
          simp only [List.take_succ_cons, List.take_zero, List.drop_succ_cons, List.drop_zero]
          repeat still_step
          refine wpStill_nil ?_
          go_wp2
          go_roundw
          case rel => exact ⟨k + 1, by omega, by go_num, HA.out, HB.out⟩
          case measure => simp [intOf]; omega
        · have dne : (t != u) = true := by simpa using heq
          have HF : Hid (decide (l = m) = false) := by
            show _ = _
            rw [decide_eq_false_iff_not]
            intro h
            apply heq
            rw [← HT.out, ← HU.out, h]
          clear heq
          go_wp2_with fail
          refine region_tail 8 (by kernel_rfl) (by kernel_rfl) ?_
          simp only [List.take_succ_cons, List.take_zero, List.drop_succ_cons, List.drop_zero]
          repeat still_step
          refine wpStill_nil ?_
          go_wp2
          go_ret
          exact ⟨by rw [HF.out]; rfl, HB.out⟩
      · obtain rfl : k = n1 := by omega
        have HF : Hid (decide (l = m) = true) := by
          show _ = _
          rw [decide_eq_true_eq]
          exact agree_all hl.1 hm.1 HG.out
        clear hl hm
        go_wp2
        go_ret
        exact ⟨by rw [HF.out]; rfl, hbel⟩
  · have HF : Hid (decide (l = m) = false) := by
      show _ = _
      rw [decide_eq_false_iff_not]
      intro h
      apply hne
      rw [← hl.1, ← hm.1, h]
    have en : ((n1 : Int) != (n2 : Int)) = true := by simp; omega
    clear hl hm hne
    go_enter Try.func14, Try.ntmps14
    go_wp2
    go_ret
    exact ⟨by rw [HF.out]; rfl, Below.refl _ _⟩

set_option maxHeartbeats 800000 in
theorem big_any (w : World) (A : Option Addr) (n c : Nat) :
    Calls Try.prog 9 #[.slice A n c] w fun e w' => e = .returned (.bool (decide (1048576 < (n : Int)))) ∧ w = w' := by
  go_enter Try.func9, Try.ntmps9
  go_wp2
  go_ret
  exact ⟨ret_bool (by simp), rfl⟩

set_option maxRecDepth 100000 in
set_option maxHeartbeats 1600000 in
theorem lawPick_any (w : World) (B : Nat) (A : Option Addr) (n c s m : Nat) (hb : BytR w B A n) (hn : n ≤ 1048576) (hs : s ≤ 1000) (hm : m ≤ 1000) :
    Calls Try.prog 24 #[.slice A n c, .int .i64 s, .int .i64 m] w fun e w' => ∃ r : Nat, e = .returned (.int .i64 r) ∧ (r = 0 ∨ r < m) ∧ w = w' := by
  by_cases hz : n = 0
  · subst hz
    go_enter Try.func24, Try.ntmps24
    go_wp2
    go_ret
    exact ⟨0, rfl, .inl rfl, rfl⟩
  · have hz' : ¬ ((n : Int) = 0) := by omega
    by_cases hm2 : m < 2
    · go_enter Try.func24, Try.ntmps24
      go_wp2
      go_ret
      exact ⟨0, rfl, .inl rfl, rfl⟩
    · have hm2' : ¬ ((m : Int) < 2) := by omega
      obtain ⟨b, off, rfl, hbB, hcs⟩ := hb (by omega)
      go_enter Try.func24, Try.ntmps24
      go_wp2
      go_loop [7, 8] (fun x i => ∃ k y : Nat, i = .int .i64 k ∧ x = .int .i64 y ∧ ((k = 0 ∧ y = 0) ∨ (k = 1 ∧ y ≤ 255) ∨ (k = 2 ∧ y ≤ 8160) ∨ (k = 3 ∧ y ≤ 253215))) (fun _ i => 3 - (intOf i).toNat)
      case atStart => exact ⟨0, 0, rfl, rfl, .inl ⟨rfl, rfl⟩⟩
      case round =>
        obtain ⟨k, y, rfl, rfl, hky⟩ := hrel
        by_cases hk3 : k < 3
        · have hk3' : (k : Int) < 3 := by omega
          have hpm : (s + k) % n < n := Nat.mod_lt _ (by omega)
          obtain ⟨x, hx, y1⟩ := hcs ((s + k) % n) hpm
          have hcast : ((s : Int) + (k : Int)) % (n : Int) = (((s + k) % n : Nat) : Int) := by simp
          generalize (s + k) % n = q at hpm y1 hcast
          have hyb : y ≤ 8160 := by omega
          go_wp2
          go_round
          case rel => exact ⟨k + 1, 31 * y + x, by go_num, by go_num, by omega⟩
          case measure => simp [intOf]; omega
        · have hk3' : ¬ ((k : Int) < 3) := by omega
          have hyb : y ≤ 253215 := by omega
          go_wp2
          go_ret
          exact ⟨(y + s) % m, ret_int (by simp), .inr (Nat.mod_lt _ (by omega)), rfl⟩

/-- an environment of five numbers of its own, each at most m -/
def EnvOut (m : Nat) (w : World) (e : Ending) (w' : World) : Prop :=
  ∃ g cap env, e = .returned (.slice (some ⟨g, 0, none⟩) 5 cap) ∧ env.length = 5 ∧ (∀ x ∈ env, 0 ≤ x ∧ x ≤ (m : Int)) ∧ OwnI w' w.heap.size (some ⟨g, 0, none⟩) 5 cap env ∧ Below w.heap.size w w'

set_option maxRecDepth 100000 in
set_option maxHeartbeats 1600000 in
theorem envs_any (w : World) (B : Nat) (A : Option Addr) (n c s m : Nat) (hB : B ≤ w.heap.size) (hb : BytR w B A n) (hn : n ≤ 1048576) (hs : s ≤ 900) (hm : m ≤ 900) :
    Calls Try.prog 18 #[.slice A n c, .int .i64 s, .int .i64 m] w (EnvOut m w) := by
  obtain ⟨i0, hi, hz0, hz1, hz2⟩ := info_parts info_int
  have ho0 : OwnI (w.alloc (.cells #[] 3)) w.heap.size (some ⟨w.heap.size, 0, none⟩) 0 0 [] := World.ownsRow_made w #[] 0 (Nat.le_refl _) (by simp [maxLen]) (by simp)
  have HO0 := Lib.hid ho0
  have HB0 := Lib.hid ((Below.refl w.heap.size w).alloc (Nat.le_refl _) (.cells #[] 3))
  clear ho0
  go_enter Try.func18, Try.ntmps18
  go_wp2
  go_loopw [7, 8] (fun v i wr => ∃ (k g cap : Nat) (env : List Int), k ≤ 5 ∧ i = .int .i64 k ∧ v = .slice (some ⟨g, 0, none⟩) k cap ∧ env.length = k ∧ (∀ x ∈ env, 0 ≤ x ∧ x ≤ (m : Int)) ∧ OwnI wr w.heap.size (some ⟨g, 0, none⟩) k cap env ∧ Below w.heap.size w wr) (fun _ i _ => 5 - (intOf i).toNat)
  case atStart => exact ⟨0, _, 0, [], by omega, rfl, rfl, rfl, (fun x hx => by cases hx), HO0.out, HB0.out⟩
  case round =>
    obtain ⟨k, g, cap, env, hk, rfl, rfl, hel, henv, hown, hbel⟩ := hrel
    have hszr := hbel.size
    have HE := Lib.hid henv
    clear henv
    by_cases hk5 : k < 5
    · have hk5' : (k : Int) < 5 := by omega
      have hcast : (s : Int) + 7 * (k : Int) = ((s + 7 * k : Nat) : Int) := by omega
      have hp := lawPick_any wr B A n c (s + 7 * k) (m + 1) (hb.below (hbel.mono hB)) hn (by omega) (by omega)
      have e1 : ((s + 7 * k : Nat) : Int) = (s : Int) + 7 * (k : Int) := by omega
      have e2 : ((m + 1 : Nat) : Int) = (m : Int) + 1 := by omega
      rw [e1, e2] at hp
      have HP := Lib.hid hp
      clear hcast e1 e2 hp
      go_wp2_with fail
      refine HP.out.mono ?_
      rintro e w1 ⟨r, rfl, hr, rfl⟩
      have hrm : r ≤ m := by omega
      go_wp2_with (at_builtin; refine wpList_append_own _ rfl (.tmp 14) (.tmp 23) 26 rfl w.heap.size 3 i0 (.int .i64 0) 1 8 Try.underlying26 hi hz0 hz1 hz2 rfl (by decide) (.slice (some ⟨g, 0, none⟩) k cap) k (env.map (Value.int .i64)) rfl (hown.alloc _) ⟨wr.heap.size, 0, none⟩ 1 1 [.int .i64 r] rfl rfl (cell_one_new _ _ _) (fun u hu => by simp at hu; subst hu; rfl) (by unfold maxLen; omega) (by omega) (by simp; omega) ?_; intro v' w3 hown' hgrow hnil)
      obtain ⟨g2, cap2, rfl⟩ : ∃ g' cap', v' = .slice (some ⟨g', 0, none⟩) (k + 1) cap' := by
        rcases hown'.2 with ⟨h0, _⟩ | ⟨g', cap', _, h0, _⟩
        · have := (hnil.1 h0).1
          cases this
        · exact ⟨g', cap', h0⟩
      have HB1 : Hid (Below w.heap.size w w3) := (hbel.alloc hszr _).grown hgrow (by simp; omega) (fun k h => (hown.lt k h).1)
      have HW : Hid (OwnI w3 w.heap.size (some ⟨g2, 0, none⟩) (k + 1) cap2 (env ++ [(r : Int)])) := by
        show OwnI _ _ _ _ _ _
        simpa [OwnI] using hown'
      clear hown hown' hgrow hbel hnil HP
      go_wp2
      go_roundw
      case rel =>
        refine ⟨k + 1, g2, cap2, env ++ [(r : Int)], by omega, by go_num, rfl, by simp [hel], fun x hx => ?_, HW.out, HB1.out⟩
        rcases List.mem_append.1 hx with h | h
        · exact HE.out x h
        · obtain rfl : x = (r : Int) := by simpa using h
          omega
      case measure => simp [intOf]; omega
    · obtain rfl : k = 5 := by omega
      go_wp2
      go_ret
      exact ⟨g, cap, env, rfl, hel, HE.out, hown, hbel⟩

set_option maxHeartbeats 800000 in
theorem open_any (w : World) (B : Nat) (A : Option Addr) (n c : Nat) (hB : B ≤ w.heap.size) (hb : BytR w B A n) (hn : n ≤ 1048576) :
    Calls Try.prog 49 #[.slice A n c] w fun e w' => e = .returned (.pointer (some ⟨w.heap.size, 0, none⟩)) ∧ Below w.heap.size w w' ∧ Cur w' w.heap.size A n c 0 := by
  have hcast : (n : Int) % 1000 = ((n % 1000 : Nat) : Int) := by omega
  have hlt : n % 1000 < 1000 := Nat.mod_lt _ (by omega)
  generalize n % 1000 = q at hcast hlt
  have hb1 : Below w.heap.size w (w.alloc (.cells #[.slice A n c, .int .i64 0, .int .i64 (109 + (q : Int))] 98)) := (Below.refl _ _).alloc (Nat.le_refl _) _
  have HC : Hid (Cur (w.alloc (.cells #[.slice A n c, .int .i64 0, .int .i64 (109 + (q : Int))] 98)) w.heap.size A n c 0) := by
    refine ⟨fun h0 => ?_, 0, 109 + q, ?_, Nat.le_refl _, by omega⟩
    · obtain ⟨b, off, rfl, hbb, hcs⟩ := (hb.below (hb1.mono hB)) h0
      exact ⟨b, off, rfl, by omega, hcs⟩
    · have := Blk.made w 98 #[.slice A n c, .int .i64 0, .int .i64 (109 + (q : Int))]
      rw [show ((109 + q : Nat) : Int) = 109 + (q : Int) by omega]
      exact this
  have HB := Lib.hid hb1
  clear hb1
  go_enter Try.func49, Try.ntmps49
  go_wp2
  go_ret
  exact ⟨rfl, HB.out, HC.out⟩

end Go.Proofs.Ytmmhcpigcdlnmaa
