/- What the laws draw: a number, an environment, a copy; the draw of LevelParams. -/
/- Plain facts on norms: what a norm holds, that it is the only one with its values, and how values, joins and successors go. -/
/- Plain facts on norms: values, comparison, joins and successors of norms. -/
/- NormUp of the program and of the reference model. -/
/- The program's norm, read out of its map. -/
import Derived.Test.YtfmhmnpmdjpmeaaDoorCur3
import Derived.Test.YtfmhmnpmdjpmeaaDoorNdMem
import Derived.Deep.RegionHeld3
import Derived.Test.YtfmhmnpmdjpmeaaDoorPtOk
import Derived.Test.YtfmhmnpmdjpmeaaDoorJoin
import Derived.Deep.AppendLies
import Derived.Maps.RangeWalk
import Derived.Maps.OwnSet

namespace Go.Proofs.YtfmhmnpmdjpmeaaDoor
open Go.RowKit

set_option maxRecDepth 100000 in
set_option maxHeartbeats 1000000 in
theorem same_any (w : World) (B : Nat) (A1 A2 : Option Addr) (n1 n2 c1 c2 : Nat) (l m : List Int) (hB : B ≤ w.heap.size) (hl : IntR w B A1 n1 l) (hm : IntR w B A2 n2 m)
    (hn1 : (n1 : Int) ≤ 140737488355328) (hn2 : (n2 : Int) ≤ 140737488355328) :
    Calls Tryd.prog 38 #[.slice A1 n1 c1, .slice A2 n2 c2] w fun e w' => e = .returned (.bool (decide (l = m))) ∧ Below w.heap.size w w' := by
  by_cases hne : n1 = n2
  · subst hne
    have en : ((n1 : Int) != (n1 : Int)) = false := by simp
    go_enter Tryd.func38, Tryd.ntmps38
    go_wp2
    go_loopw [5] (fun i wr => ∃ k : Nat, k ≤ n1 ∧ i = .int .i64 k ∧ Agree 0 k l m ∧ Below w.heap.size w wr) (fun i _ => n1 - (intOf i).toNat)
    case atStart => exact ⟨0, Nat.zero_le _, rfl, (fun j hj => absurd hj (by omega)), Below.refl _ _⟩
    case round =>
      obtain ⟨k, hk, rfl, hag, hbel⟩ := hrel
      have HG := Lib.hid hag
      clear hag
      by_cases hlt : k < n1
      · obtain ⟨b, off, rfl, hb, hc⟩ := hl.2 (by omega)
        have x1 := hc k hlt
        obtain ⟨b', off', rfl, hb', hc'⟩ := hm.2 (by omega)
        have y1 := hc' k hlt
        obtain ⟨t, ht⟩ : ∃ t, l.getD k 0 = t := ⟨_, rfl⟩
        obtain ⟨u, hu⟩ : ∃ u, m.getD k 0 = u := ⟨_, rfl⟩
        rw [ht] at x1
        rw [hu] at y1
        have HT := Lib.hid ht
        have HU := Lib.hid hu
        have k1 := (hbel.cell (p := ⟨b, off + k, none⟩) (by show b < _; omega)).trans x1
        have k3 := (hbel.cell (p := ⟨b', off' + k, none⟩) (by show b' < _; omega)).trans y1
        have HB := Lib.hid hbel.drew
        clear x1 y1 hc hc' ht hu hl hm
        by_cases heq : t = u
        · subst heq
          have HA : Hid (Agree 0 (k + 1) l m) := agree_step HG.out (by rw [HT.out, HU.out])
          go_wp2_with fail
          refine region_tail 8 (by kernel_rfl) (by kernel_rfl) ?_
          simp only [List.take_succ_cons, List.take_zero, List.drop_succ_cons, List.drop_zero]
          repeat still_step
          refine wpStill_nil ?_
          go_wp2
          go_roundw
          case rel => exact ⟨k + 1, by omega, by go_num, HA.out, HB.out⟩
          case measure => simp [intOf]; omega
        · have dne : (t != u) = true := by simpa using heq
          have HF : Hid (decide (l = m) = false) := by
            show _ = _
            rw [decide_eq_false_iff_not]
            intro h
            apply heq
            rw [← HT.out, ← HU.out, h]
          clear heq
          go_wp2_with fail
          refine region_tail 8 (by kernel_rfl) (by kernel_rfl) ?_
          simp only [List.take_succ_cons, List.take_zero, List.drop_succ_cons, List.drop_zero]
          repeat still_step
          refine wpStill_nil ?_
          go_wp2
          go_ret
          exact ⟨by rw [HF.out]; rfl, HB.out⟩
      · obtain rfl : k = n1 := by omega
        have HF : Hid (decide (l = m) = true) := by
          show _ = _
          rw [decide_eq_true_eq]
          exact agree_all hl.1 hm.1 HG.out
        clear hl hm
        go_wp2
        go_ret
        exact ⟨by rw [HF.out]; rfl, hbel⟩
  · have HF : Hid (decide (l = m) = false) := by
      show _ = _
      rw [decide_eq_false_iff_not]
      intro h
      apply hne
      rw [← hl.1, ← hm.1, h]
    have en : ((n1 : Int) != (n2 : Int)) = true := by simp; omega
    clear hl hm hne
    go_enter Tryd.func38, Tryd.ntmps38
    go_wp2
    go_ret
    exact ⟨by rw [HF.out]; rfl, Below.refl _ _⟩

set_option maxHeartbeats 800000 in
theorem big_any (w : World) (A : Option Addr) (n c : Nat) :
    Calls Tryd.prog 29 #[.slice A n c] w fun e w' => e = .returned (.bool (decide (1048576 < (n : Int)))) ∧ w = w' := by
  go_enter Tryd.func29, Tryd.ntmps29
  go_wp2
  go_ret
  exact ⟨ret_bool (by simp), rfl⟩

set_option maxRecDepth 100000 in
set_option maxHeartbeats 1600000 in
theorem lawPick_any (w : World) (B : Nat) (A : Option Addr) (n c s m : Nat) (hb : BytR w B A n) (hn : n ≤ 1048576) (hs : s ≤ 1000) (hm : m ≤ 1000) :
    Calls Tryd.prog 76 #[.slice A n c, .int .i64 s, .int .i64 m] w fun e w' => ∃ r : Nat, e = .returned (.int .i64 r) ∧ (r = 0 ∨ r < m) ∧ w = w' := by
  by_cases hz : n = 0
  · subst hz
    go_enter Tryd.func76, Tryd.ntmps76
    go_wp2
    go_ret
    exact ⟨0, rfl, .inl rfl, rfl⟩
  · have hz' : ¬ ((n : Int) = 0) := by omega
    by_cases hm2 : m < 2
    · go_enter Tryd.func76, Tryd.ntmps76
      go_wp2
      go_ret
      exact ⟨0, rfl, .inl rfl, rfl⟩
    · have hm2' : ¬ ((m : Int) < 2) := by omega
      obtain ⟨b, off, rfl, hbB, hcs⟩ := hb (by omega)
      go_enter Tryd.func76, Tryd.ntmps76
      go_wp2
      go_loop [7, 8] (fun x i => ∃ k y : Nat, i = .int .i64 k ∧ x = .int .i64 y ∧ ((k = 0 ∧ y = 0) ∨ (k = 1 ∧ y ≤ 255) ∨ (k = 2 ∧ y ≤ 8160) ∨ (k = 3 ∧ y ≤ 253215))) (fun _ i => 3 - (intOf i).toNat)
      case atStart => exact ⟨0, 0, rfl, rfl, .inl ⟨rfl, rfl⟩⟩
      case round =>
        obtain ⟨k, y, rfl, rfl, hky⟩ := hrel
        by_cases hk3 : k < 3
        · have hk3' : (k : Int) < 3 := by omega
          have hpm : (s + k) % n < n := Nat.mod_lt _ (by omega)
          obtain ⟨x, hx, y1⟩ := hcs ((s + k) % n) hpm
          have hcast : ((s : Int) + (k : Int)) % (n : Int) = (((s + k) % n : Nat) : Int) := by simp
          generalize (s + k) % n = q at hpm y1 hcast
          have hyb : y ≤ 8160 := by omega
          go_wp2
          go_round
          case rel => exact ⟨k + 1, 31 * y + x, by go_num, by go_num, by omega⟩
          case measure => simp [intOf]; omega
        · have hk3' : ¬ ((k : Int) < 3) := by omega
          have hyb : y ≤ 253215 := by omega
          go_wp2
          go_ret
          exact ⟨(y + s) % m, ret_int (by simp), .inr (Nat.mod_lt _ (by omega)), rfl⟩

/-- an environment of five numbers of its own, each at most m -/
def EnvOut (m : Nat) (w : World) (e : Ending) (w' : World) : Prop :=
  ∃ g cap env, e = .returned (.slice (some ⟨g, 0, none⟩) 5 cap) ∧ env.length = 5 ∧ (∀ x ∈ env, 0 ≤ x ∧ x ≤ (m : Int)) ∧ OwnI w' w.heap.size (some ⟨g, 0, none⟩) 5 cap env ∧ Below w.heap.size w w'

set_option maxRecDepth 100000 in
set_option maxHeartbeats 1600000 in
theorem envs_any (w : World) (B : Nat) (A : Option Addr) (n c s m : Nat) (hB : B ≤ w.heap.size) (hb : BytR w B A n) (hn : n ≤ 1048576) (hs : s ≤ 900) (hm : m ≤ 900) :
    Calls Tryd.prog 32 #[.slice A n c, .int .i64 s, .int .i64 m] w (EnvOut m w) := by
  obtain ⟨i0, hi, hz0, hz1, hz2⟩ := info_parts info_int
  have ho0 : OwnI (w.alloc (.cells #[] 3)) w.heap.size (some ⟨w.heap.size, 0, none⟩) 0 0 [] := World.ownsRow_made w #[] 0 (Nat.le_refl _) (by simp [maxLen]) (by simp)
  have HO0 := Lib.hid ho0
  have HB0 := Lib.hid ((Below.refl w.heap.size w).alloc (Nat.le_refl _) (.cells #[] 3))
  clear ho0
  go_enter Tryd.func32, Tryd.ntmps32
  go_wp2
  go_loopw [7, 8] (fun v i wr => ∃ (k g cap : Nat) (env : List Int), k ≤ 5 ∧ i = .int .i64 k ∧ v = .slice (some ⟨g, 0, none⟩) k cap ∧ env.length = k ∧ (∀ x ∈ env, 0 ≤ x ∧ x ≤ (m : Int)) ∧ OwnI wr w.heap.size (some ⟨g, 0, none⟩) k cap env ∧ Below w.heap.size w wr) (fun _ i _ => 5 - (intOf i).toNat)
  case atStart => exact ⟨0, _, 0, [], by omega, rfl, rfl, rfl, (fun x hx => by cases hx), HO0.out, HB0.out⟩
  case round =>
    obtain ⟨k, g, cap, env, hk, rfl, rfl, hel, henv, hown, hbel⟩ := hrel
    have hszr := hbel.size
    have HE := Lib.hid henv
    clear henv
    by_cases hk5 : k < 5
    · have hk5' : (k : Int) < 5 := by omega
      have hcast : (s : Int) + 7 * (k : Int) = ((s + 7 * k : Nat) : Int) := by omega
      have hp := lawPick_any wr B A n c (s + 7 * k) (m + 1) (hb.below (hbel.mono hB)) hn (by omega) (by omega)
      have e1 : ((s + 7 * k : Nat) : Int) = (s : Int) + 7 * (k : Int) := by omega
      have e2 : ((m + 1 : Nat) : Int) = (m : Int) + 1 := by omega
      rw [e1, e2] at hp
      have HP := Lib.hid hp
      clear hcast e1 e2 hp
      go_wp2_with fail
      refine HP.out.mono ?_
      rintro e w1 ⟨r, rfl, hr, rfl⟩
      have hrm : r ≤ m := by omega
      go_wp2_with (at_builtin; refine wpList_append_own _ rfl (.tmp 14) (.tmp 23) 40 rfl w.heap.size 3 i0 (.int .i64 0) 1 8 Tryd.underlying40 hi hz0 hz1 hz2 rfl (by decide) (.slice (some ⟨g, 0, none⟩) k cap) k (env.map (Value.int .i64)) rfl (hown.alloc _) ⟨wr.heap.size, 0, none⟩ 1 1 [.int .i64 r] rfl rfl (cell_one_new _ _ _) (fun u hu => by simp at hu; subst hu; rfl) (by unfold maxLen; omega) (by omega) (by simp; omega) ?_; intro v' w3 hown' hgrow hnil)
      obtain ⟨g2, cap2, rfl⟩ : ∃ g' cap', v' = .slice (some ⟨g', 0, none⟩) (k + 1) cap' := by
        rcases hown'.2 with ⟨h0, _⟩ | ⟨g', cap', _, h0, _⟩
        · have := (hnil.1 h0).1
          cases this
        · exact ⟨g', cap', h0⟩
      have HB1 : Hid (Below w.heap.size w w3) := (hbel.alloc hszr _).grown hgrow (by simp; omega) (fun k h => (hown.lt k h).1)
      have HW : Hid (OwnI w3 w.heap.size (some ⟨g2, 0, none⟩) (k + 1) cap2 (env ++ [(r : Int)])) := by
        show OwnI _ _ _ _ _ _
        simpa [OwnI] using hown'
      clear hown hown' hgrow hbel hnil HP
      go_wp2
      go_roundw
      case rel =>
        refine ⟨k + 1, g2, cap2, env ++ [(r : Int)], by omega, by go_num, rfl, by simp [hel], fun x hx => ?_, HW.out, HB1.out⟩
        rcases List.mem_append.1 hx with h | h
        · exact HE.out x h
        · obtain rfl : x = (r : Int) := by simpa using h
          omega
      case measure => simp [intOf]; omega
    · obtain rfl : k = 5 := by omega
      go_wp2
      go_ret
      exact ⟨g, cap, env, rfl, hel, HE.out, hown, hbel⟩

set_option maxHeartbeats 800000 in
theorem open_any (w : World) (B : Nat) (A : Option Addr) (n c : Nat) (hB : B ≤ w.heap.size) (hb : BytR w B A n) (hn : n ≤ 1048576) :
    Calls Tryd.prog 73 #[.slice A n c] w fun e w' => e = .returned (.pointer (some ⟨w.heap.size, 0, none⟩)) ∧ Below w.heap.size w w' ∧ Cur w' w.heap.size A n c 0 := by
  have hcast : (n : Int) % 1000 = ((n % 1000 : Nat) : Int) := by omega
  have hlt : n % 1000 < 1000 := Nat.mod_lt _ (by omega)
  generalize n % 1000 = q at hcast hlt
  have hb1 : Below w.heap.size w (w.alloc (.cells #[.slice A n c, .int .i64 0, .int .i64 (109 + (q : Int))] 139)) := (Below.refl _ _).alloc (Nat.le_refl _) _
  have HC : Hid (Cur (w.alloc (.cells #[.slice A n c, .int .i64 0, .int .i64 (109 + (q : Int))] 139)) w.heap.size A n c 0) := by
    refine ⟨fun h0 => ?_, 0, 109 + q, ?_, Nat.le_refl _, by omega⟩
    · obtain ⟨b, off, rfl, hbb, hcs⟩ := (hb.below (hb1.mono hB)) h0
      exact ⟨b, off, rfl, by omega, hcs⟩
    · have := Blk.made w 139 #[.slice A n c, .int .i64 0, .int .i64 (109 + (q : Int))]
      rw [show ((109 + q : Nat) : Int) = 109 + (q : Int) by omega]
      exact this
  have HB := Lib.hid hb1
  clear hb1
  go_enter Tryd.func73, Tryd.ntmps73
  go_wp2
  go_ret
  exact ⟨rfl, HB.out, HC.out⟩

end Go.Proofs.YtfmhmnpmdjpmeaaDoor

/- Plain functions on norms as lists of pairs of numbers (Param, Off): validity index by index, the norm of a list of atoms, values. Nothing of the program is imported. -/
namespace Go.Proofs.YtfmhmnpmdjpmeaaDoor.Nm

abbrev At := Int × Int

def atOk (a : At) : Bool := decide (-1 ≤ a.1) && decide (a.1 < 5) && decide (0 ≤ a.2) && decide (a.2 ≤ 1000)
theorem atOk_iff (a : At) : atOk a = true ↔ -1 ≤ a.1 ∧ a.1 < 5 ∧ 0 ≤ a.2 ∧ a.2 ≤ 1000 := by simp [atOk, and_assoc]

def AllOk (l : List At) : Prop := ∀ k, k < l.length → atOk (l.getD k (0, 0)) = true
def Incr (l : List At) : Prop := ∀ k, 0 < k → k < l.length → (l.getD (k - 1) (0, 0)).1 < (l.getD k (0, 0)).1
def Exceeds (x : Int) (l : List At) : Prop := ∀ k, k < l.length → (l.getD k (0, 0)).2 < x
def Ok (l : List At) : Prop := 1 ≤ l.length ∧ AllOk l ∧ Incr l ∧ ((l.getD 0 (0, 0)).1 = -1 → Exceeds (l.getD 0 (0, 0)).2 (l.drop 1))

theorem getD_drop1 (l : List At) (k : Nat) : (l.drop 1).getD k (0, 0) = l.getD (k + 1) (0, 0) := by
  simp [List.getD_eq_getElem?_getD]

/-- strictly increasing params: of any two the later one is greater -/
theorem Incr.lt {l : List At} (h : Incr l) {i j : Nat} (hij : i < j) (hj : j < l.length) : (l.getD i (0, 0)).1 < (l.getD j (0, 0)).1 := by
  induction j with
  | zero => omega
  | succ j ih =>
    have h1 := h (j + 1) (by omega) hj
    simp only [Nat.add_sub_cancel] at h1
    by_cases e : i = j
    · subst e; exact h1
    · have := ih (by omega) (by omega); omega
theorem Ok.len {l : List At} (h : Ok l) : l.length ≤ 6 := by
  have H : ∀ k, k < l.length → (k : Int) - 1 ≤ (l.getD k (0, 0)).1 := by
    intro k
    induction k with
    | zero => intro hk; have := (atOk_iff _).1 (h.2.1 0 hk); omega
    | succ k ih =>
      intro hk
      have h1 := ih (by omega)
      have h2 := h.2.2.1 (k + 1) (by omega) hk
      simp only [Nat.add_sub_cancel] at h2
      omega
  by_cases hl : l.length ≤ 6
  · exact hl
  · have h1 := H 6 (by omega)
    have h2 := (atOk_iff _).1 (h.2.1 6 (by omega))
    omega

/-- the greatest Off of the atoms with that Param; -1 if there is none -/
def best (p : Int) : List At → Int
  | [] => -1
  | a :: r => if a.1 = p then max a.2 (best p r) else best p r
/-- the atoms with params 0 .. n - 1 of the norm -/
def pars (l : List At) : Nat → List At
  | 0 => []
  | n + 1 => pars l n ++ if 0 ≤ best n l then [((n : Int), best n l)] else []
/-- the greatest Off among params 0 .. n - 1; -1 if there is none -/
def most (l : List At) : Nat → Int
  | 0 => -1
  | n + 1 => max (most l n) (best n l)
/-- the norm -/
def norm (l : List At) : List At := (if most l 5 < best (-1) l then [((-1 : Int), best (-1) l)] else []) ++ pars l 5
end Go.Proofs.YtfmhmnpmdjpmeaaDoor.Nm

namespace Go.Proofs.YtfmhmnpmdjpmeaaDoor.Nm

theorem getD_of_mem {l : List At} {a : At} (h : a ∈ l) : ∃ k, k < l.length ∧ l.getD k (0, 0) = a := by
  obtain ⟨k, hk, e⟩ := List.mem_iff_getElem.1 h
  exact ⟨k, hk, by rw [List.getD_eq_getElem?_getD, List.getElem?_eq_getElem hk]; exact e⟩
/-- the norm's rule on its number, atom by atom -/
def NumOk (l : List At) : Prop := ∀ x y p, (-1, x) ∈ l → (p, y) ∈ l → p ≠ -1 → y < x
theorem Ok.num {l : List At} (h : Ok l) : NumOk l := by
  intro x y p hx hy hp
  obtain ⟨i, hi, ei⟩ := getD_of_mem hx
  obtain ⟨j, hj, ej⟩ := getD_of_mem hy
  have hi0 : i = 0 := by
    rcases Nat.eq_zero_or_pos i with e | e
    · exact e
    · have h1 := h.2.2.1.lt e hi
      have h2 := (atOk_iff _).1 (h.2.1 0 (by omega))
      rw [ei] at h1; simp only at h1; omega
  subst hi0
  have hj0 : j ≠ 0 := by
    intro e; subst e
    have e := ei.symm.trans ej
    injection e with e1 e2
    exact hp e1.symm
  have h1 := h.2.2.2 (by rw [ei]) (j - 1) (by simp; omega)
  rw [getD_drop1, ei, show j - 1 + 1 = j by omega, ej] at h1
  exact h1
end Go.Proofs.YtfmhmnpmdjpmeaaDoor.Nm

namespace Go.Proofs.YtfmhmnpmdjpmeaaDoor.Nm

/-- comparison, atom by atom -/
def Le (a b : List At) : Prop := ∀ x ∈ a, ∃ y ∈ b, (x.1 = -1 ∨ x.1 = y.1) ∧ x.2 ≤ y.2
theorem le_refl (a : List At) : Le a a := fun x hx => ⟨x, hx, .inr rfl, by omega⟩
end Go.Proofs.YtfmhmnpmdjpmeaaDoor.Nm

namespace Go.Proofs.YtfmhmnpmdjpmeaaDoor
open Go.RowKit

theorem own_put {w : World} {base g n c size : Nat} {e : TypeId} {xs : List Value} (h : w.ownsRow base e size (.slice (some ⟨g, 0, none⟩) n c) n xs) (i : Nat) (u : Value) :
    (w.setCell ⟨g, i, none⟩ u).ownsRow base e size (.slice (some ⟨g, 0, none⟩) n c) n (xs.set i u) := by
  refine ⟨by rw [List.length_set]; exact h.1, ?_⟩
  rcases h.2 with ⟨h0, _⟩ | ⟨g', cap, cur, hv, hb, hgg, h1, h2, h3, h4⟩
  · cases h0
  · injection hv with e1 e2 e3
    injection e1 with e1
    injection e1 with e1
    subst e1; subst e3
    refine .inr ⟨g, c, _, rfl, hb, Blk.put (w := w) (t := e) hgg i u, h1, h2, by simp [h3], ?_⟩
    rw [Array.toList_setIfInBounds, List.take_set, h4]
end Go.Proofs.YtfmhmnpmdjpmeaaDoor

namespace Go.Proofs.YtfmhmnpmdjpmeaaDoor
open Go.RowKit Go.Maps

theorem six {k : Nat} (h : k < 6) : k = 0 ∨ k = 1 ∨ k = 2 ∨ k = 3 ∨ k = 4 ∨ k = 5 := by omega
end Go.Proofs.YtfmhmnpmdjpmeaaDoor
