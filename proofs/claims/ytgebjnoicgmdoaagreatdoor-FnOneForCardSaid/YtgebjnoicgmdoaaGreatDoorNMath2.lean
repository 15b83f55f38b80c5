/- What the laws draw: a number, an environment, a copy; the draw of LevelParams. -/
/- The laws' own helpers on slices of atoms: sizes, copies, comparison, marks (the tokens' texts at the atoms' type). -/
/- Plain facts on norms: what a norm holds, that it is the only one with its values, and how values, joins and successors go. -/
import Derived.Test.YtgebjnoicgmdoaaGreatDoorCur4
import Derived.Test.YtgebjnoicgmdoaaGreatDoorSlc

namespace Go.Proofs.YtgebjnoicgmdoaaGreatDoor
open Go.RowKit

set_option maxRecDepth 100000 in
set_option maxHeartbeats 1000000 in
theorem same_any (w : World) (B : Nat) (A1 A2 : Option Addr) (n1 n2 c1 c2 : Nat) (l m : List Int) (hB : B ≤ w.heap.size) (hl : IntR w B A1 n1 l) (hm : IntR w B A2 n2 m)
    (hn1 : (n1 : Int) ≤ 140737488355328) (hn2 : (n2 : Int) ≤ 140737488355328) :
    Calls Tryz.prog 15 #[.slice A1 n1 c1, .slice A2 n2 c2] w fun e w' => e = .returned (.bool (decide (l = m))) ∧ Below w.heap.size w w' := by
  by_cases hne : n1 = n2
  · subst hne
    have en : ((n1 : Int) != (n1 : Int)) = false := by simp
    go_enter Tryz.func15, Tryz.ntmps15
    go_wp2
    go_loopw [5] (fun i wr => ∃ k : Nat, k ≤ n1 ∧ i = .int .i64 k ∧ Agree 0 k l m ∧ Below w.heap.size w wr) (fun i _ => n1 - (intOf i).toNat)
    case atStart => exact ⟨0, Nat.zero_le _, rfl, (fun j hj => absurd hj (by omega)), Below.refl _ _⟩
    case round =>
      obtain ⟨k, hk, rfl, hag, hbel⟩ := hrel
      have HG := Lib.hid hag
      clear hag
      by_cases hlt : k < n1
      · obtain ⟨b, off, rfl, hb, hc⟩ := hl.2 (by omega)
        have x1 := hc k hlt
        obtain ⟨b', off', rfl, hb', hc'⟩ := hm.2 (by omega)
        have y1 := hc' k hlt
        obtain ⟨t, ht⟩ : ∃ t, l.getD k 0 = t := ⟨_, rfl⟩
        obtain ⟨u, hu⟩ : ∃ u, m.getD k 0 = u := ⟨_, rfl⟩
        rw [ht] at x1
        rw [hu] at y1
        have HT := Lib.hid ht
        have HU := Lib.hid hu
        have k1 := (hbel.cell (p := ⟨b, off + k, none⟩) (by show b < _; omega)).trans x1
        have k3 := (hbel.cell (p := ⟨b', off' + k, none⟩) (by show b' < _; omega)).trans y1
        have HB := Lib.hid hbel.drew
        clear x1 y1 hc hc' ht hu hl hm
        by_cases heq : t = u
        · subst heq
          have HA : Hid (Agree 0 (k + 1) l m) := agree_step HG.out (by rw [HT.out, HU.out])
          go_wp2_with fail
          refine region_tail 8 (by kernel_rfl) (by kernel_rfl) ?_
          simp only [List.take_succ_cons, List.take_zero, List.drop_succ_cons, List.drop_zero]
          repeat still_step
          refine wpStill_nil ?_
          go_wp2
          go_roundw
          case rel => exact ⟨k + 1, by omega, by go_num, HA.out, HB.out⟩
          case measure => simp [intOf]; omega
        · have dne : (t != u) = true := by simpa using heq
          have HF : Hid (decide (l = m) = false) := by
            show _ = _
            rw [decide_eq_false_iff_not]
            intro h
            apply heq
            rw [← HT.out, ← HU.out, h]
          clear heq
          go_wp2_with fail
          refine region_tail 8 (by kernel_rfl) (by kernel_rfl) ?_
          simp only [List.take_succ_cons, List.take_zero, List.drop_succ_cons, List.drop_zero]
          repeat still_step
          refine wpStill_nil ?_
          go_wp2
          go_ret
          exact ⟨by rw [HF.out]; rfl, HB.out⟩
      · obtain rfl : k = n1 := by omega
        have HF : Hid (decide (l = m) = true) := by
          show _ = _
          rw [decide_eq_true_eq]
          exact agree_all hl.1 hm.1 HG.out
        clear hl hm
        go_wp2
        go_ret
        exact ⟨by rw [HF.out]; rfl, hbel⟩
  · have HF : Hid (decide (l = m) = false) := by
      show _ = _
      rw [decide_eq_false_iff_not]
      intro h
      apply hne
      rw [← hl.1, ← hm.1, h]
    have en : ((n1 : Int) != (n2 : Int)) = true := by simp; omega
    clear hl hm hne
    go_enter Tryz.func15, Tryz.ntmps15
    go_wp2
    go_ret
    exact ⟨by rw [HF.out]; rfl, Below.refl _ _⟩

set_option maxHeartbeats 800000 in
theorem big_any (w : World) (A : Option Addr) (n c : Nat) :
    Calls Tryz.prog 9 #[.slice A n c] w fun e w' => e = .returned (.bool (decide (1048576 < (n : Int)))) ∧ w = w' := by
  go_enter Tryz.func9, Tryz.ntmps9
  go_wp2
  go_ret
  exact ⟨ret_bool (by simp), rfl⟩

set_option maxRecDepth 100000 in
set_option maxHeartbeats 1600000 in
theorem lawPick_any (w : World) (B : Nat) (A : Option Addr) (n c s m : Nat) (hb : BytR w B A n) (hn : n ≤ 1048576) (hs : s ≤ 1000) (hm : m ≤ 1000) :
    Calls Tryz.prog 29 #[.slice A n c, .int .i64 s, .int .i64 m] w fun e w' => ∃ r : Nat, e = .returned (.int .i64 r) ∧ (r = 0 ∨ r < m) ∧ w = w' := by
  by_cases hz : n = 0
  · subst hz
    go_enter Tryz.func29, Tryz.ntmps29
    go_wp2
    go_ret
    exact ⟨0, rfl, .inl rfl, rfl⟩
  · have hz' : ¬ ((n : Int) = 0) := by omega
    by_cases hm2 : m < 2
    · go_enter Tryz.func29, Tryz.ntmps29
      go_wp2
      go_ret
      exact ⟨0, rfl, .inl rfl, rfl⟩
    · have hm2' : ¬ ((m : Int) < 2) := by omega
      obtain ⟨b, off, rfl, hbB, hcs⟩ := hb (by omega)
      go_enter Tryz.func29, Tryz.ntmps29
      go_wp2
      go_loop [7, 8] (fun x i => ∃ k y : Nat, i = .int .i64 k ∧ x = .int .i64 y ∧ ((k = 0 ∧ y = 0) ∨ (k = 1 ∧ y ≤ 255) ∨ (k = 2 ∧ y ≤ 8160) ∨ (k = 3 ∧ y ≤ 253215))) (fun _ i => 3 - (intOf i).toNat)
      case atStart => exact ⟨0, 0, rfl, rfl, .inl ⟨rfl, rfl⟩⟩
      case round =>
        obtain ⟨k, y, rfl, rfl, hky⟩ := hrel
        by_cases hk3 : k < 3
        · have hk3' : (k : Int) < 3 := by omega
          have hpm : (s + k) % n < n := Nat.mod_lt _ (by omega)
          obtain ⟨x, hx, y1⟩ := hcs ((s + k) % n) hpm
          have hcast : ((s : Int) + (k : Int)) % (n : Int) = (((s + k) % n : Nat) : Int) := by simp
          generalize (s + k) % n = q at hpm y1 hcast
          have hyb : y ≤ 8160 := by omega
          go_wp2
          go_round
          case rel => exact ⟨k + 1, 31 * y + x, by go_num, by go_num, by omega⟩
          case measure => simp [intOf]; omega
        · have hk3' : ¬ ((k : Int) < 3) := by omega
          have hyb : y ≤ 253215 := by omega
          go_wp2
          go_ret
          exact ⟨(y + s) % m, ret_int (by simp), .inr (Nat.mod_lt _ (by omega)), rfl⟩

/-- an environment of five numbers of its own, each at most m -/
def EnvOut (m : Nat) (w : World) (e : Ending) (w' : World) : Prop :=
  ∃ g cap env, e = .returned (.slice (some ⟨g, 0, none⟩) 5 cap) ∧ env.length = 5 ∧ (∀ x ∈ env, 0 ≤ x ∧ x ≤ (m : Int)) ∧ OwnI w' w.heap.size (some ⟨g, 0, none⟩) 5 cap env ∧ Below w.heap.size w w'

set_option maxRecDepth 100000 in
set_option maxHeartbeats 1600000 in
theorem envs_any (w : World) (B : Nat) (A : Option Addr) (n c s m : Nat) (hB : B ≤ w.heap.size) (hb : BytR w B A n) (hn : n ≤ 1048576) (hs : s ≤ 900) (hm : m ≤ 900) :
    Calls Tryz.prog 20 #[.slice A n c, .int .i64 s, .int .i64 m] w (EnvOut m w) := by
  obtain ⟨i0, hi, hz0, hz1, hz2⟩ := info_parts info_int
  have ho0 : OwnI (w.alloc (.cells #[] 3)) w.heap.size (some ⟨w.heap.size, 0, none⟩) 0 0 [] := World.ownsRow_made w #[] 0 (Nat.le_refl _) (by simp [maxLen]) (by simp)
  have HO0 := Lib.hid ho0
  have HB0 := Lib.hid ((Below.refl w.heap.size w).alloc (Nat.le_refl _) (.cells #[] 3))
  clear ho0
  go_enter Tryz.func20, Tryz.ntmps20
  go_wp2
  go_loopw [7, 8] (fun v i wr => ∃ (k g cap : Nat) (env : List Int), k ≤ 5 ∧ i = .int .i64 k ∧ v = .slice (some ⟨g, 0, none⟩) k cap ∧ env.length = k ∧ (∀ x ∈ env, 0 ≤ x ∧ x ≤ (m : Int)) ∧ OwnI wr w.heap.size (some ⟨g, 0, none⟩) k cap env ∧ Below w.heap.size w wr) (fun _ i _ => 5 - (intOf i).toNat)
  case atStart => exact ⟨0, _, 0, [], by omega, rfl, rfl, rfl, (fun x hx => by cases hx), HO0.out, HB0.out⟩
  case round =>
    obtain ⟨k, g, cap, env, hk, rfl, rfl, hel, henv, hown, hbel⟩ := hrel
    have hszr := hbel.size
    have HE := Lib.hid henv
    clear henv
    by_cases hk5 : k < 5
    · have hk5' : (k : Int) < 5 := by omega
      have hcast : (s : Int) + 7 * (k : Int) = ((s + 7 * k : Nat) : Int) := by omega
      have hp := lawPick_any wr B A n c (s + 7 * k) (m + 1) (hb.below (hbel.mono hB)) hn (by omega) (by omega)
      have e1 : ((s + 7 * k : Nat) : Int) = (s : Int) + 7 * (k : Int) := by omega
      have e2 : ((m + 1 : Nat) : Int) = (m : Int) + 1 := by omega
      rw [e1, e2] at hp
      have HP := Lib.hid hp
      clear hcast e1 e2 hp
      go_wp2_with fail
      refine HP.out.mono ?_
      rintro e w1 ⟨r, rfl, hr, rfl⟩
      have hrm : r ≤ m := by omega
      go_wp2_with (at_builtin; refine wpList_append_own _ rfl (.tmp 14) (.tmp 23) 29 rfl w.heap.size 3 i0 (.int .i64 0) 1 8 Tryz.underlying29 hi hz0 hz1 hz2 rfl (by decide) (.slice (some ⟨g, 0, none⟩) k cap) k (env.map (Value.int .i64)) rfl (hown.alloc _) ⟨wr.heap.size, 0, none⟩ 1 1 [.int .i64 r] rfl rfl (cell_one_new _ _ _) (fun u hu => by simp at hu; subst hu; rfl) (by unfold maxLen; omega) (by omega) (by simp; omega) ?_; intro v' w3 hown' hgrow hnil)
      obtain ⟨g2, cap2, rfl⟩ : ∃ g' cap', v' = .slice (some ⟨g', 0, none⟩) (k + 1) cap' := by
        rcases hown'.2 with ⟨h0, _⟩ | ⟨g', cap', _, h0, _⟩
        · have := (hnil.1 h0).1
          cases this
        · exact ⟨g', cap', h0⟩
      have HB1 : Hid (Below w.heap.size w w3) := (hbel.alloc hszr _).grown hgrow (by simp; omega) (fun k h => (hown.lt k h).1)
      have HW : Hid (OwnI w3 w.heap.size (some ⟨g2, 0, none⟩) (k + 1) cap2 (env ++ [(r : Int)])) := by
        show OwnI _ _ _ _ _ _
        simpa [OwnI] using hown'
      clear hown hown' hgrow hbel hnil HP
      go_wp2
      go_roundw
      case rel =>
        refine ⟨k + 1, g2, cap2, env ++ [(r : Int)], by omega, by go_num, rfl, by simp [hel], fun x hx => ?_, HW.out, HB1.out⟩
        rcases List.mem_append.1 hx with h | h
        · exact HE.out x h
        · obtain rfl : x = (r : Int) := by simpa using h
          omega
      case measure => simp [intOf]; omega
    · obtain rfl : k = 5 := by omega
      go_wp2
      go_ret
      exact ⟨g, cap, env, rfl, hel, HE.out, hown, hbel⟩

set_option maxHeartbeats 800000 in
theorem open_any (w : World) (B : Nat) (A : Option Addr) (n c : Nat) (hB : B ≤ w.heap.size) (hb : BytR w B A n) (hn : n ≤ 1048576) :
    Calls Tryz.prog 48 #[.slice A n c] w fun e w' => e = .returned (.pointer (some ⟨w.heap.size, 0, none⟩)) ∧ Below w.heap.size w w' ∧ Cur w' w.heap.size A n c 0 := by
  have hcast : (n : Int) % 1000 = ((n % 1000 : Nat) : Int) := by omega
  have hlt : n % 1000 < 1000 := Nat.mod_lt _ (by omega)
  generalize n % 1000 = q at hcast hlt
  have hb1 : Below w.heap.size w (w.alloc (.cells #[.slice A n c, .int .i64 0, .int .i64 (109 + (q : Int))] 130)) := (Below.refl _ _).alloc (Nat.le_refl _) _
  have HC : Hid (Cur (w.alloc (.cells #[.slice A n c, .int .i64 0, .int .i64 (109 + (q : Int))] 130)) w.heap.size A n c 0) := by
    refine ⟨fun h0 => ?_, 0, 109 + q, ?_, Nat.le_refl _, by omega⟩
    · obtain ⟨b, off, rfl, hbb, hcs⟩ := (hb.below (hb1.mono hB)) h0
      exact ⟨b, off, rfl, by omega, hcs⟩
    · have := Blk.made w 130 #[.slice A n c, .int .i64 0, .int .i64 (109 + (q : Int))]
      rw [show ((109 + q : Nat) : Int) = 109 + (q : Int) by omega]
      exact this
  have HB := Lib.hid hb1
  clear hb1
  go_enter Tryz.func48, Tryz.ntmps48
  go_wp2
  go_ret
  exact ⟨rfl, HB.out, HC.out⟩

end Go.Proofs.YtgebjnoicgmdoaaGreatDoor

namespace Go.Proofs.YtgebjnoicgmdoaaGreatDoor
open Go.RowKit

/-- block g is a row of just n tokens, those of l -/
def AtomOwn (w : World) (g n : Nat) (l : List (Int × Int)) : Prop :=
  l.length = n ∧ ∃ cs, Blk w g 92 cs ∧ cs.size = n * 2 ∧ ∀ k, k < n → cs[k * 2]? = some (.int .i64 (l.getD k (0, 0)).1) ∧ cs[k * 2 + 1]? = some (.int .i64 (l.getD k (0, 0)).2)

theorem AtomOwn.reads {w : World} {g n : Nat} {l : List (Int × Int)} (h : AtomOwn w g n l) : TokR w (g + 1) (some ⟨g, 0, none⟩) n l := by
  obtain ⟨hl, cs, hb, hs, hc⟩ := h
  refine ⟨hl, fun _ => ⟨g, 0, rfl, by omega, fun k hk => ?_⟩⟩
  rw [hb.cell, hb.cell, Nat.zero_add]
  exact hc k hk
theorem AtomOwn.below {w w' : World} {g n B : Nat} {l : List (Int × Int)} (h : AtomOwn w g n l) (hb : Below B w w') (hg : g < B) : AtomOwn w' g n l := by
  obtain ⟨hl, cs, hblk, rest⟩ := h
  exact ⟨hl, cs, hblk.below hb hg, rest⟩

theorem info_atom : (Tryz.prog.info? 92).map (fun i => (i.zero, i.size, i.bytes)) = some (some (.agg #[.int .i64 0, .int .i64 0]), 2, 16) := by kernel_rfl

/-- a row of the call's own, of tokens -/
abbrev OwnA (w : World) (base : Nat) (A : Option Addr) (n c : Nat) (l : List (Int × Int)) : Prop := w.ownsRow base 92 2 (.slice A n c) n (tokCells l)

theorem OwnA.reads {w : World} {base : Nat} {A : Option Addr} {n c : Nat} {l : List (Int × Int)} (h : OwnA w base A n c l) : TokR w w.heap.size A n l := by
  have hl : l.length = n := by have := h.1; rw [tokCells_len] at this; omega
  refine ⟨hl, fun hn => ?_⟩
  rcases h.2 with ⟨_, h0⟩ | ⟨g, cap, cur, hv, hb, hgg, h1, h2, h3, h4⟩
  · omega
  · injection hv with e1 e2 e3
    subst e1
    refine ⟨g, 0, rfl, (Array.getElem?_eq_some_iff.1 hgg).1, fun k hk => ?_⟩
    have ht := tokCells_at l k (by omega)
    have h5 := h.cells (g := g) rfl (k * 2) _ ht.1
    have h6 := h.cells (g := g) rfl (k * 2 + 1) _ ht.2
    rw [own_adds] at h5 h6
    rw [Nat.zero_add]
    exact ⟨h5, h6⟩

theorem AtomOwn.lt {w : World} {g n : Nat} {l : List (Int × Int)} (h : AtomOwn w g n l) : g + 1 ≤ w.heap.size := by obtain ⟨_, cs, hblk, _⟩ := h; exact hblk.lt
theorem AtomOwn.mark {w w' : World} {g n base m k size : Nat} {e : TypeId} {v : Value} {l : List (Int × Int)} {lo hi : Nat} (h : AtomOwn w g n l) (hm : MarkOut w base e size v m k w') (hv : InR v lo hi) (hd : g < lo ∨ hi ≤ g) : AtomOwn w' g n l := by
  have hlt := h.lt
  obtain ⟨hl, cs, hblk, rest⟩ := h
  refine ⟨hl, cs, ?_, rest⟩
  exact (hm.1.block g (by omega) (fun he => by have := hv g he.symm; omega)).trans hblk
end Go.Proofs.YtgebjnoicgmdoaaGreatDoor

/- Plain functions on norms as lists of pairs of numbers (Param, Off): validity index by index, the norm of a list of atoms, values. Nothing of the program is imported. -/
namespace Go.Proofs.YtgebjnoicgmdoaaGreatDoor.Nm

abbrev At := Int × Int

def atOk (a : At) : Bool := decide (-1 ≤ a.1) && decide (a.1 < 5) && decide (0 ≤ a.2) && decide (a.2 ≤ 1000)
theorem atOk_iff (a : At) : atOk a = true ↔ -1 ≤ a.1 ∧ a.1 < 5 ∧ 0 ≤ a.2 ∧ a.2 ≤ 1000 := by simp [atOk, and_assoc]

def AllOk (l : List At) : Prop := ∀ k, k < l.length → atOk (l.getD k (0, 0)) = true
def Incr (l : List At) : Prop := ∀ k, 0 < k → k < l.length → (l.getD (k - 1) (0, 0)).1 < (l.getD k (0, 0)).1
def Exceeds (x : Int) (l : List At) : Prop := ∀ k, k < l.length → (l.getD k (0, 0)).2 < x
def Ok (l : List At) : Prop := 1 ≤ l.length ∧ AllOk l ∧ Incr l ∧ ((l.getD 0 (0, 0)).1 = -1 → Exceeds (l.getD 0 (0, 0)).2 (l.drop 1))

open Classical in
noncomputable def allOk (l : List At) : Bool := decide (AllOk l)
open Classical in
noncomputable def exceeds (x : Int) (l : List At) : Bool := decide (Exceeds x l)
theorem allOk_iff (l : List At) : allOk l = true ↔ AllOk l := by simp [allOk]
theorem exceeds_iff (x : Int) (l : List At) : exceeds x l = true ↔ Exceeds x l := by simp [exceeds]
theorem allOk_no {l : List At} (h : ¬ AllOk l) : allOk l = false := by simp [allOk, h]
theorem exceeds_no {x : Int} {l : List At} (h : ¬ Exceeds x l) : exceeds x l = false := by simp [exceeds, h]
theorem getD_drop1 (l : List At) (k : Nat) : (l.drop 1).getD k (0, 0) = l.getD (k + 1) (0, 0) := by
  simp [List.getD_eq_getElem?_getD]

/-- strictly increasing params: of any two the later one is greater -/
theorem Incr.lt {l : List At} (h : Incr l) {i j : Nat} (hij : i < j) (hj : j < l.length) : (l.getD i (0, 0)).1 < (l.getD j (0, 0)).1 := by
  induction j with
  | zero => omega
  | succ j ih =>
    have h1 := h (j + 1) (by omega) hj
    simp only [Nat.add_sub_cancel] at h1
    by_cases e : i = j
    · subst e; exact h1
    · have := ih (by omega) (by omega); omega
theorem Ok.len {l : List At} (h : Ok l) : l.length ≤ 6 := by
  have H : ∀ k, k < l.length → (k : Int) - 1 ≤ (l.getD k (0, 0)).1 := by
    intro k
    induction k with
    | zero => intro hk; have := (atOk_iff _).1 (h.2.1 0 hk); omega
    | succ k ih =>
      intro hk
      have h1 := ih (by omega)
      have h2 := h.2.2.1 (k + 1) (by omega) hk
      simp only [Nat.add_sub_cancel] at h2
      omega
  by_cases hl : l.length ≤ 6
  · exact hl
  · have h1 := H 6 (by omega)
    have h2 := (atOk_iff _).1 (h.2.1 6 (by omega))
    omega

/-- the greatest Off of the atoms with that Param; -1 if there is none -/
def best (p : Int) : List At → Int
  | [] => -1
  | a :: r => if a.1 = p then max a.2 (best p r) else best p r
theorem best_ge (p : Int) (l : List At) : -1 ≤ best p l := by
  induction l with
  | nil => simp [best]
  | cons a r ih => simp only [best]; split <;> omega
theorem best_append (p : Int) (a b : List At) : best p (a ++ b) = max (best p a) (best p b) := by
  induction a with
  | nil => simp only [List.nil_append, best]; have := best_ge p b; omega
  | cons x r ih => simp only [List.cons_append, best, ih]; split <;> omega
theorem best_one (p : Int) (a : At) : best p [a] = if a.1 = p then max a.2 (-1) else -1 := by simp [best]
theorem best_take (p : Int) (l : List At) (k : Nat) (hk : k < l.length) : best p (l.take (k + 1)) = if (l.getD k (0, 0)).1 = p then max (best p (l.take k)) (l.getD k (0, 0)).2 else best p (l.take k) := by
  have e : l.getD k (0, 0) = l[k] := by simp [List.getD_eq_getElem?_getD, List.getElem?_eq_getElem hk]
  rw [List.take_succ_eq_append_getElem hk, best_append, best_one, e]
  have := best_ge p (l.take k)
  split <;> omega
theorem best_le (p : Int) {l : List At} (h : AllOk l) : best p l ≤ 1000 := by
  induction l with
  | nil => simp [best]
  | cons a r ih =>
    have h0 := (atOk_iff _).1 (h 0 (by simp))
    have h1 := ih (fun k hk => by have := h (k + 1) (by simpa using hk); simpa using this)
    simp only [best]
    simp at h0
    split <;> omega
/-- an atom's Off is at most the best one of its Param -/
theorem best_mem {p x : Int} {l : List At} (h : (p, x) ∈ l) : x ≤ best p l := by
  induction l with
  | nil => simp at h
  | cons a r ih =>
    simp only [best]
    rcases List.mem_cons.1 h with rfl | h
    · simp; omega
    · have := ih h; split <;> omega
theorem best_at {p : Int} {l : List At} (h : best p l ≠ -1) : (p, best p l) ∈ l := by
  induction l with
  | nil => simp [best] at h
  | cons a r ih =>
    simp only [best] at h ⊢
    obtain ⟨a1, a2⟩ := a
    by_cases e : a1 = p
    · subst e
      simp only [if_true] at h ⊢
      by_cases hm : best a1 r ≤ a2
      · rw [show max a2 (best a1 r) = a2 by omega]; simp
      · rw [show max a2 (best a1 r) = best a1 r by omega] at h ⊢
        exact List.mem_cons_of_mem _ (ih h)
    · simp only [e, if_false] at h ⊢
      exact List.mem_cons_of_mem _ (ih h)

/-- the atoms with params 0 .. n - 1 of the norm -/
def pars (l : List At) : Nat → List At
  | 0 => []
  | n + 1 => pars l n ++ if 0 ≤ best n l then [((n : Int), best n l)] else []
theorem pars_succ (l : List At) (n : Nat) : pars l (n + 1) = pars l n ++ if 0 ≤ best n l then [((n : Int), best n l)] else [] := rfl
theorem pars_len (l : List At) (n : Nat) : (pars l n).length ≤ n := by
  induction n with
  | zero => simp [pars]
  | succ n ih => rw [pars_succ, List.length_append]; split <;> simp <;> omega
/-- the greatest Off among params 0 .. n - 1; -1 if there is none -/
def most (l : List At) : Nat → Int
  | 0 => -1
  | n + 1 => max (most l n) (best n l)
theorem most_ge (l : List At) (n : Nat) : -1 ≤ most l n := by
  induction n with
  | zero => simp [most]
  | succ n ih => simp only [most]; omega
/-- the norm -/
def norm (l : List At) : List At := (if most l 5 < best (-1) l then [((-1 : Int), best (-1) l)] else []) ++ pars l 5
theorem norm_len (l : List At) : (norm l).length ≤ 6 := by
  have := pars_len l 5
  unfold norm
  split <;> simp <;> omega
open Classical in
noncomputable def normOf (l : List At) : Option (List At) := if 1 ≤ l.length ∧ l.length ≤ 100 ∧ AllOk l then some (norm l) else none
def up (k : Int) (l : List At) : List At := l.map fun a => (a.1, a.2 + k)
/-- the value of an atom -/
def val (env : List Int) (a : At) : Int := if a.1 = -1 then a.2 else env.getD a.1.toNat 0 + a.2
def value (env : List Int) : List At → Int
  | [] => 0
  | a :: r => max (val env a) (value env r)
theorem value_ge (env : List Int) (l : List At) : 0 ≤ value env l := by
  induction l with
  | nil => simp [value]
  | cons a r ih => simp only [value]; omega
theorem value_append (env : List Int) (a b : List At) : value env (a ++ b) = max (value env a) (value env b) := by
  induction a with
  | nil => simp only [List.nil_append, value]; have := value_ge env b; omega
  | cons x r ih => simp only [List.cons_append, value, ih]; omega
end Go.Proofs.YtgebjnoicgmdoaaGreatDoor.Nm

namespace Go.Proofs.YtgebjnoicgmdoaaGreatDoor.Nm

/-- the atoms at the places 0 .. n - 1 (place i: param i - 1) -/
def readOut (u : Int → Bool) (o : Int → Int) : Nat → List At
  | 0 => []
  | n + 1 => readOut u o n ++ if u ((n : Int) - 1) = true then [((n : Int) - 1, o ((n : Int) - 1))] else []
theorem readOut_succ (u : Int → Bool) (o : Int → Int) (n : Nat) : readOut u o (n + 1) = readOut u o n ++ if u ((n : Int) - 1) = true then [((n : Int) - 1, o ((n : Int) - 1))] else [] := rfl
theorem readOut_len (u : Int → Bool) (o : Int → Int) (n : Nat) : (readOut u o n).length ≤ n := by
  induction n with
  | zero => simp [readOut]
  | succ n ih => rw [readOut_succ, List.length_append]; split <;> simp <;> omega
theorem readOut_congr {u u' : Int → Bool} {o o' : Int → Int} (n : Nat) (h : ∀ p : Int, -1 ≤ p → p < (n : Int) - 1 → u p = u' p ∧ (u p = true → o p = o' p)) : readOut u o n = readOut u' o' n := by
  induction n with
  | zero => rfl
  | succ n ih =>
    have h1 := h ((n : Int) - 1) (by omega) (by omega)
    rw [readOut_succ, readOut_succ, ih (fun p h1 h2 => h p h1 (by omega)), ← h1.1]
    by_cases hu : u ((n : Int) - 1) = true
    · rw [if_pos hu, if_pos hu, h1.2 hu]
    · rw [if_neg hu, if_neg hu]
def keepB (l : List At) (p : Int) : Bool := if p = -1 then decide (most l 5 < best (-1) l) else decide (0 ≤ best p l)
theorem readOut_norm (l : List At) : readOut (keepB l) (fun p => best p l) 6 = norm l := by
  simp [readOut, keepB, norm, pars, List.append_assoc]

theorem mem_readOut {u : Int → Bool} {o : Int → Int} {n : Nat} {a : At} : a ∈ readOut u o n ↔ -1 ≤ a.1 ∧ a.1 < (n : Int) - 1 ∧ u a.1 = true ∧ a.2 = o a.1 := by
  induction n with
  | zero => simp [readOut]; omega
  | succ n ih =>
    rw [readOut_succ, List.mem_append, ih]
    obtain ⟨p, x⟩ := a
    constructor
    · rintro (h | h)
      · exact ⟨h.1, by have := h.2.1; simp at this ⊢; omega, h.2.2⟩
      · split at h
        · rename_i hu
          simp only [List.mem_singleton, Prod.mk.injEq] at h
          obtain ⟨rfl, rfl⟩ := h
          exact ⟨by omega, by simp; omega, hu, rfl⟩
        · simp at h
    · rintro ⟨h1, h2, h3, h4⟩
      simp only at h1 h2 h3 h4
      by_cases e : p = (n : Int) - 1
      · subst e; subst h4
        right; rw [if_pos h3]; simp
      · left; exact ⟨h1, by simp only; omega, h3, h4⟩
theorem readOut_sorted (u : Int → Bool) (o : Int → Int) (n : Nat) : (readOut u o n).Pairwise (fun a b => a.1 < b.1) := by
  induction n with
  | zero => simp [readOut]
  | succ n ih =>
    rw [readOut_succ, List.pairwise_append]
    refine ⟨ih, by split <;> simp, ?_⟩
    intro a ha b hb
    have h1 := (mem_readOut.1 ha).2.1
    split at hb
    · simp only [List.mem_singleton] at hb; subst hb; exact h1
    · simp at hb
theorem mem_norm {l : List At} {a : At} : a ∈ norm l ↔ -1 ≤ a.1 ∧ a.1 < 5 ∧ keepB l a.1 = true ∧ a.2 = best a.1 l := by
  rw [← readOut_norm, mem_readOut]
  constructor
  · rintro ⟨h1, h2, h3⟩; exact ⟨h1, by simp at h2; omega, h3⟩
  · rintro ⟨h1, h2, h3⟩; exact ⟨h1, by simp; omega, h3⟩
theorem norm_sorted (l : List At) : (norm l).Pairwise (fun a b => a.1 < b.1) := by rw [← readOut_norm]; exact readOut_sorted _ _ _

/-- two rows in strictly increasing order with the same atoms are one -/
theorem sorted_ext : ∀ {a b : List At}, a.Pairwise (fun x y => x.1 < y.1) → b.Pairwise (fun x y => x.1 < y.1) → (∀ x, x ∈ a ↔ x ∈ b) → a = b
  | [], [], _, _, _ => rfl
  | [], y :: t, _, _, h => absurd ((h y).2 (by simp)) (by simp)
  | x :: s, [], _, _, h => absurd ((h x).1 (by simp)) (by simp)
  | x :: s, y :: t, ha, hb, h => by
    rw [List.pairwise_cons] at ha hb
    have e : x = y := by
      rcases List.mem_cons.1 ((h x).1 (by simp)) with e | h1
      · exact e
      · rcases List.mem_cons.1 ((h y).2 (by simp)) with e | h2
        · exact e.symm
        · have := ha.1 y h2; have := hb.1 x h1; omega
    subst e
    congr 1
    refine sorted_ext ha.2 hb.2 fun z => ?_
    constructor
    · intro hz
      rcases List.mem_cons.1 ((h z).1 (List.mem_cons_of_mem _ hz)) with rfl | h1
      · have := ha.1 z hz; omega
      · exact h1
    · intro hz
      rcases List.mem_cons.1 ((h z).2 (List.mem_cons_of_mem _ hz)) with rfl | h1
      · have := hb.1 z hz; omega
      · exact h1

theorem mem_getD {l : List At} {k : Nat} (hk : k < l.length) : l.getD k (0, 0) ∈ l := by
  rw [List.getD_eq_getElem?_getD, List.getElem?_eq_getElem hk]; exact List.getElem_mem hk
theorem getD_of_mem {l : List At} {a : At} (h : a ∈ l) : ∃ k, k < l.length ∧ l.getD k (0, 0) = a := by
  obtain ⟨k, hk, e⟩ := List.mem_iff_getElem.1 h
  exact ⟨k, hk, by rw [List.getD_eq_getElem?_getD, List.getElem?_eq_getElem hk]; exact e⟩
theorem AllOk.mem {l : List At} (h : AllOk l) {a : At} (ha : a ∈ l) : -1 ≤ a.1 ∧ a.1 < 5 ∧ 0 ≤ a.2 ∧ a.2 ≤ 1000 := by
  obtain ⟨k, hk, rfl⟩ := getD_of_mem ha
  exact (atOk_iff _).1 (h k hk)
theorem allOk_of_mem {l : List At} (h : ∀ a ∈ l, atOk a = true) : AllOk l := fun _ hk => h _ (mem_getD hk)
theorem Incr.sorted {l : List At} (h : Incr l) : l.Pairwise (fun a b => a.1 < b.1) := by
  rw [List.pairwise_iff_getElem]
  intro i j hi hj hij
  have := h.lt hij hj
  simpa [List.getD_eq_getElem?_getD, List.getElem?_eq_getElem hi, List.getElem?_eq_getElem hj] using this
theorem incr_of_sorted {l : List At} (h : l.Pairwise (fun a b => a.1 < b.1)) : Incr l := by
  intro k h0 hk
  rw [List.pairwise_iff_getElem] at h
  have := h (k - 1) k (by omega) hk (by omega)
  simpa [List.getD_eq_getElem?_getD, List.getElem?_eq_getElem hk, List.getElem?_eq_getElem (show k - 1 < l.length by omega)] using this

/-- the norm's rule on its number, atom by atom -/
def NumOk (l : List At) : Prop := ∀ x y p, (-1, x) ∈ l → (p, y) ∈ l → p ≠ -1 → y < x
theorem Ok.num {l : List At} (h : Ok l) : NumOk l := by
  intro x y p hx hy hp
  obtain ⟨i, hi, ei⟩ := getD_of_mem hx
  obtain ⟨j, hj, ej⟩ := getD_of_mem hy
  have hi0 : i = 0 := by
    rcases Nat.eq_zero_or_pos i with e | e
    · exact e
    · have h1 := h.2.2.1.lt e hi
      have h2 := (atOk_iff _).1 (h.2.1 0 (by omega))
      rw [ei] at h1; simp only at h1; omega
  subst hi0
  have hj0 : j ≠ 0 := by
    intro e; subst e
    have e := ei.symm.trans ej
    injection e with e1 e2
    exact hp e1.symm
  have h1 := h.2.2.2 (by rw [ei]) (j - 1) (by simp; omega)
  rw [getD_drop1, ei, show j - 1 + 1 = j by omega, ej] at h1
  exact h1
theorem ok_of {l : List At} (h0 : l ≠ []) (h1 : AllOk l) (h2 : l.Pairwise (fun a b => a.1 < b.1)) (h3 : NumOk l) : Ok l := by
  have hl : 1 ≤ l.length := by
    rcases l with _ | ⟨a, r⟩
    · exact absurd rfl h0
    · simp
  refine ⟨hl, h1, incr_of_sorted h2, fun e k hk => ?_⟩
  rw [List.length_drop] at hk
  rw [getD_drop1]
  have hlt := (incr_of_sorted h2).lt (i := 0) (j := k + 1) (by omega) (by omega)
  have hm0 : ((-1 : Int), (l.getD 0 (0, 0)).2) ∈ l := by
    rw [← e]
    exact mem_getD (by omega)
  have hm1 : ((l.getD (k + 1) (0, 0)).1, (l.getD (k + 1) (0, 0)).2) ∈ l := mem_getD (l := l) (k := k + 1) (by omega)
  exact h3 _ _ _ hm0 hm1 (by omega)

theorem best_nonneg {l : List At} (h : AllOk l) {p : Int} (hb : best p l ≠ -1) : 0 ≤ best p l := (h.mem (best_at hb)).2.2.1
theorem most_at (l : List At) (n : Nat) (h : most l n ≠ -1) : ∃ q : Int, 0 ≤ q ∧ q < n ∧ most l n = best q l := by
  induction n with
  | zero => simp [most] at h
  | succ n ih =>
    simp only [most] at h ⊢
    by_cases hm : most l n ≤ best n l
    · exact ⟨n, by omega, by omega, by omega⟩
    · obtain ⟨q, h1, h2, h3⟩ := ih (by have := best_ge n l; omega)
      exact ⟨q, h1, by omega, by omega⟩
theorem most_le (l : List At) (n : Nat) (q : Int) (h0 : 0 ≤ q) (hq : q < n) : best q l ≤ most l n := by
  induction n with
  | zero => omega
  | succ n ih =>
    simp only [most]
    by_cases e : q = n
    · subst e; omega
    · have := ih (by omega); omega

/-- a norm is its own norm -/
theorem best_of_sorted {l : List At} (hs : l.Pairwise (fun a b => a.1 < b.1)) {p x : Int} (h : (p, x) ∈ l) (hx : -1 ≤ x) : best p l = x := by
  have h1 := best_mem h
  have h2 := best_at (p := p) (l := l)
  by_cases e : best p l = -1
  · omega
  · have h3 := h2 e
    rcases List.mem_iff_getElem.1 h with ⟨i, hi, ei⟩
    rcases List.mem_iff_getElem.1 h3 with ⟨j, hj, ej⟩
    rw [List.pairwise_iff_getElem] at hs
    rcases Nat.lt_trichotomy i j with hij | hij | hij
    · have := hs i j hi hj hij; rw [ei, ej] at this; simp at this
    · subst hij; rw [ei] at ej; injection ej with _ e2; exact e2.symm
    · have := hs j i hj hi hij; rw [ei, ej] at this; simp at this
theorem keepB_cases {l : List At} {p : Int} (h : keepB l p = true) : best p l ≠ -1 := by
  unfold keepB at h
  split at h
  · rename_i e; subst e; simp at h; have := most_ge l 5; omega
  · simp at h; omega
theorem norm_sub {l : List At} {a : At} (h : a ∈ norm l) : a ∈ l := by
  obtain ⟨_, _, h3, h4⟩ := mem_norm.1 h
  obtain ⟨p, x⟩ := a
  simp only at h3 h4
  rw [h4]
  exact best_at (keepB_cases h3)
theorem norm_ne {l : List At} (h0 : l ≠ []) (h : AllOk l) : norm l ≠ [] := by
  obtain ⟨a, ha⟩ := List.exists_mem_of_ne_nil l h0
  have hb := h.mem ha
  obtain ⟨p, x⟩ := a
  have hbm := best_mem ha
  simp only at hb
  intro e
  by_cases ep : p = -1
  · subst ep
    by_cases hm : most l 5 < best (-1) l
    · have : ((-1 : Int), best (-1) l) ∈ norm l := mem_norm.2 ⟨by simp, by simp, by simp [keepB, hm], rfl⟩
      rw [e] at this; simp at this
    · obtain ⟨q, q1, q2, q3⟩ := most_at l 5 (by omega)
      have : (q, best q l) ∈ norm l := mem_norm.2 ⟨by simp; omega, by simp; omega, by simp [keepB, show q ≠ -1 by omega]; omega, rfl⟩
      rw [e] at this; simp at this
  · have : (p, best p l) ∈ norm l := mem_norm.2 ⟨by simp; omega, by simp; omega, by simp [keepB, ep]; omega, rfl⟩
    rw [e] at this; simp at this
theorem norm_ok {l : List At} (h0 : l ≠ []) (h : AllOk l) : Ok (norm l) := by
  refine ok_of (norm_ne h0 h) (allOk_of_mem fun a ha => (atOk_iff a).2 (h.mem (norm_sub ha))) (norm_sorted l) ?_
  intro x y p hx hy hp
  obtain ⟨_, _, h3, h4⟩ := mem_norm.1 hx
  obtain ⟨g1, g2, g3, g4⟩ := mem_norm.1 hy
  simp only at h3 h4 g1 g2 g3 g4
  simp [keepB] at h3
  have := most_le l 5 p (by omega) (by omega)
  omega
end Go.Proofs.YtgebjnoicgmdoaaGreatDoor.Nm
