/- The laws' own helpers on nodes and slices of them: sizes, copies, comparison, marks. -/
/- The arena: its box, its row of nodes and its map. -/
/- A region that draws its order, by an invariant: each operation by itself, in whatever order they come up. -/
import Derived.Test.YtfmhmnpmdjpmeaaDoorNdKey
import Derived.RegionTactic

namespace Go.Proofs.YtfmhmnpmdjpmeaaDoor
open Go.RowKit

set_option maxHeartbeats 400000 in
theorem szNodeS_any (A : Option Addr) (n c : Nat) (left : Int) (w : World) (h0 : 0 ≤ left) (h1 : left ≤ 1048576) (hn : (n : Int) ≤ 9223372036854775807) :
    Calls Tryd.prog 11 #[.slice A n c, .int .i64 left] w fun e w' => e = .returned (.int .i64 (if left < n then -1 else left - n)) ∧ w = w' := by
  go_enter Tryd.func11, Tryd.ntmps11
  go_wp2
  all_goals go_ret
  · exact ⟨rfl, rfl⟩
  · exact ⟨rfl, rfl⟩

set_option maxHeartbeats 400000 in
theorem toNode_any (U R V X : Int) (w : World) :
    Calls Tryd.prog 54 #[.agg #[.int .i64 U, .int .i64 R, .int .i64 V, .int .i64 X]] w fun e w' => e = .returned (.agg #[.int .i64 U, .int .i64 R, .int .i64 V, .int .i64 X]) ∧ Below w.heap.size w w' := by
  go_enter Tryd.func54, Tryd.ntmps54
  go_wp2
  exact bodyPost_ret (v := .agg #[.int .i64 U, .int .i64 R, .int .i64 V, .int .i64 X]) (by simp [results, Tryd.results54, go_sem]) rfl ⟨rfl, ((((Below.refl _ _).alloc (Nat.le_refl _) _).alloc (by simp) _).alloc (by simp; omega) _)⟩

/-- block g is a row of just n constraints, those of l -/
def NodOwn (w : World) (g n : Nat) (l : List Nd) : Prop :=
  l.length = n ∧ ∃ cs, Blk w g 72 cs ∧ cs.size = n * 4 ∧ ∀ k, k < n → cs[k * 4]? = some (.int .i64 (l.getD k nd0).1) ∧ cs[k * 4 + 1]? = some (.int .i64 (l.getD k nd0).2.1) ∧ cs[k * 4 + 2]? = some (.int .i64 (l.getD k nd0).2.2.1) ∧ cs[k * 4 + 3]? = some (.int .i64 (l.getD k nd0).2.2.2)
theorem NodOwn.lt {w : World} {g n : Nat} {l : List Nd} (h : NodOwn w g n l) : g + 1 ≤ w.heap.size := by obtain ⟨_, cs, hblk, _⟩ := h; exact hblk.lt
theorem NodOwn.reads {w : World} {g n : Nat} {l : List Nd} (h : NodOwn w g n l) : NodR w (g + 1) (some ⟨g, 0, none⟩) n l := by
  obtain ⟨hl, cs, hb, hs, hc⟩ := h
  refine ⟨hl, fun _ => ⟨g, 0, rfl, by omega, fun k hk => ?_⟩⟩
  rw [hb.cell, hb.cell, hb.cell, hb.cell, Nat.zero_add]
  exact hc k hk
theorem NodOwn.below {w w' : World} {g n B : Nat} {l : List Nd} (h : NodOwn w g n l) (hb : Below B w w') (hg : g < B) : NodOwn w' g n l := by
  obtain ⟨hl, cs, hblk, rest⟩ := h
  exact ⟨hl, cs, hblk.below hb hg, rest⟩
theorem NodOwn.owns {w : World} {g n : Nat} {l : List Nd} (h : NodOwn w g n l) (hn : n ≤ 1048576) : OwnN w g (some ⟨g, 0, none⟩) n n l := by
  obtain ⟨hl, cs, hblk, hs, hc⟩ := h
  refine ⟨by rw [nodCells_len, hl], .inr ⟨g, n, cs, rfl, Nat.le_refl _, hblk, Nat.le_refl _, by unfold maxLen; omega, hs, ?_⟩⟩
  rw [← hs, List.take_of_length_le (by simp)]
  apply List.ext_getElem?
  intro i
  by_cases hi : i < n * 4
  · obtain ⟨k, hk⟩ : ∃ k, i = k * 4 ∨ i = k * 4 + 1 ∨ i = k * 4 + 2 ∨ i = k * 4 + 3 := ⟨i / 4, by omega⟩
    have h1 := nodCells_at l k (by omega)
    have h2 := hc k (by omega)
    rcases hk with rfl | rfl | rfl | rfl
    · rw [h1.1, Array.getElem?_toList]; exact h2.1
    · rw [h1.2.1, Array.getElem?_toList]; exact h2.2.1
    · rw [h1.2.2.1, Array.getElem?_toList]; exact h2.2.2.1
    · rw [h1.2.2.2, Array.getElem?_toList]; exact h2.2.2.2
  · rw [List.getElem?_eq_none (by simp; omega), List.getElem?_eq_none (by rw [nodCells_len]; omega)]

/-- the row of constraints that is being filled: the first k of them are there -/
def FillN (w : World) (g n k : Nat) (l : List Nd) (wr : World) : Prop :=
  Below w.heap.size w wr ∧ ∃ cs, Blk wr g 72 cs ∧ cs.size = n * 4 ∧ ∀ j, j < k → cs[j * 4]? = some (.int .i64 (l.getD j nd0).1) ∧ cs[j * 4 + 1]? = some (.int .i64 (l.getD j nd0).2.1) ∧ cs[j * 4 + 2]? = some (.int .i64 (l.getD j nd0).2.2.1) ∧ cs[j * 4 + 3]? = some (.int .i64 (l.getD j nd0).2.2.2)
theorem fillN_step {w wr w1 : World} {n k : Nat} {l : List Nd} {a b d x : Int} (h : FillN w w.heap.size n k l wr) (hb : Below wr.heap.size wr w1) (hk : k < n) (ht : l.getD k nd0 = (a, b, d, x)) :
    FillN w w.heap.size n (k + 1) l ((((w1.setCell ⟨w.heap.size, k * 4, none⟩ (.int .i64 a)).setCell ⟨w.heap.size, k * 4 + 1, none⟩ (.int .i64 b)).setCell ⟨w.heap.size, k * 4 + 2, none⟩ (.int .i64 d)).setCell ⟨w.heap.size, k * 4 + 3, none⟩ (.int .i64 x)) := by
  obtain ⟨hbel, cs, hblk, hs, hc⟩ := h
  have hblk1 := hblk.below hb hblk.lt
  refine ⟨((((hbel.trans (hb.mono hbel.size)).setCell (p := ⟨w.heap.size, k * 4, none⟩) (Nat.le_refl _) _).setCell (p := ⟨w.heap.size, k * 4 + 1, none⟩) (Nat.le_refl _) _).setCell (p := ⟨w.heap.size, k * 4 + 2, none⟩) (Nat.le_refl _) _).setCell (p := ⟨w.heap.size, k * 4 + 3, none⟩) (Nat.le_refl _) _, _, (((hblk1.put _ _).put _ _).put _ _).put _ _, by simp [hs], ?_⟩
  intro j hj
  by_cases e : j = k
  · subst e
    rw [ht]
    refine ⟨?_, ?_, ?_, ?_⟩
    · rw [Array.getElem?_setIfInBounds_ne (by omega), Array.getElem?_setIfInBounds_ne (by omega), Array.getElem?_setIfInBounds_ne (by omega), Array.getElem?_setIfInBounds_self_of_lt (by omega)]
    · rw [Array.getElem?_setIfInBounds_ne (by omega), Array.getElem?_setIfInBounds_ne (by omega), Array.getElem?_setIfInBounds_self_of_lt (by simp; omega)]
    · rw [Array.getElem?_setIfInBounds_ne (by omega), Array.getElem?_setIfInBounds_self_of_lt (by simp; omega)]
    · rw [Array.getElem?_setIfInBounds_self_of_lt (by simp; omega)]
  · obtain ⟨x, y, z, u⟩ := hc j (by omega)
    refine ⟨?_, ?_, ?_, ?_⟩
    · rw [Array.getElem?_setIfInBounds_ne (by omega), Array.getElem?_setIfInBounds_ne (by omega), Array.getElem?_setIfInBounds_ne (by omega), Array.getElem?_setIfInBounds_ne (by omega)]; exact x
    · rw [Array.getElem?_setIfInBounds_ne (by omega), Array.getElem?_setIfInBounds_ne (by omega), Array.getElem?_setIfInBounds_ne (by omega), Array.getElem?_setIfInBounds_ne (by omega)]; exact y
    · rw [Array.getElem?_setIfInBounds_ne (by omega), Array.getElem?_setIfInBounds_ne (by omega), Array.getElem?_setIfInBounds_ne (by omega), Array.getElem?_setIfInBounds_ne (by omega)]; exact z
    · rw [Array.getElem?_setIfInBounds_ne (by omega), Array.getElem?_setIfInBounds_ne (by omega), Array.getElem?_setIfInBounds_ne (by omega), Array.getElem?_setIfInBounds_ne (by omega)]; exact u

set_option maxHeartbeats 800000 in
theorem toNodeS_any (w : World) (B : Nat) (A : Option Addr) (n c : Nat) (l : List Nd) (hB : B ≤ w.heap.size) (hl : NodR w B A n l) (hn : n ≤ 1048576) :
    Calls Tryd.prog 14 #[.slice A n c] w fun e w' => e = .returned (.slice (some ⟨w.heap.size, 0, none⟩) n n) ∧ Below w.heap.size w w' ∧ NodOwn w' w.heap.size n l := by
  obtain ⟨i0, hi, hz0, hz1, hz2⟩ := info_parts info_nod
  have hmk : ∀ wx, (Instr.makeSlice 26 (.int .i64 (n : Int)) (.int .i64 (n : Int))).run Tryd.prog wx = .ok (.slice (some ⟨wx.heap.size, 0, none⟩) n n) (wx.alloc (.cells (madeCells (Value.agg #[.int .i64 0, .int .i64 0, .int .i64 0, .int .i64 0]).cells (n * 4)) 72)) := by
    intro wx
    have hr := run_make (P := Tryd.prog) wx 26 72 i0 _ Tryd.underlying26 hi hz0 .i64 .i64 n n (by omega) (by omega) (by rw [hz2]; omega) (by omega)
    simp only [Int.toNat_natCast, hz1] at hr
    exact hr
  have hstart : FillN w w.heap.size n 0 l (w.alloc (.cells (madeCells (Value.agg #[.int .i64 0, .int .i64 0, .int .i64 0, .int .i64 0]).cells (n * 4)) 72)) :=
    ⟨(Below.refl _ _).alloc (Nat.le_refl _) _, _, Blk.made _ _ _, by simp [madeCells], by intro j hj; omega⟩
  have HS := Lib.hid hstart
  clear hstart hi hz0 hz1 hz2
  go_enter Tryd.func14, Tryd.ntmps14
  go_wp2
  go_loopw [4] (fun i wr => ∃ k : Nat, k ≤ n ∧ i = .int .i64 k ∧ FillN w w.heap.size n k l wr) (fun i _ => n - (intOf i).toNat)
  case atStart => exact ⟨0, Nat.zero_le _, rfl, HS.out⟩
  case round =>
    obtain ⟨k, hk, rfl, hF⟩ := hrel
    by_cases hlt : k < n
    · obtain ⟨b, off, rfl, hb, hc⟩ := hl.2 (by omega)
      obtain ⟨c1, c2, c3, c4⟩ := hc k hlt
      obtain ⟨t, ht⟩ : ∃ t, l.getD k nd0 = t := ⟨_, rfl⟩
      rw [ht] at c1 c2 c3 c4
      obtain ⟨U, R, V, X⟩ := t
      have hbel := hF.1
      have k1 := (hbel.cell (p := ⟨b, off + k * 4, none⟩) (by show b < _; omega)).trans c1
      have k2 := (hbel.cell (p := ⟨b, off + k * 4 + 1, none⟩) (by show b < _; omega)).trans c2
      have k3 := (hbel.cell (p := ⟨b, off + k * 4 + 2, none⟩) (by show b < _; omega)).trans c3
      have k4 := (hbel.cell (p := ⟨b, off + k * 4 + 3, none⟩) (by show b < _; omega)).trans c4
      have HT := Lib.hid ht
      have HF := Lib.hid hF
      have hszr := hbel.size
      clear c1 c2 c3 c4 hc ht
      go_wp2_with fail
      refine (toNode_any _ _ _ _ _).mono ?_
      rintro e w1 ⟨rfl, hb1⟩
      obtain ⟨_, cs, hblk, hs, _⟩ := HF.out
      have hblk1 := hblk.below hb1 hblk.lt
      have hlt1 := hblk1.lt
      have f1 := hblk1.thawed (k * 4)
      have f2 := hblk1.thawed (k * 4 + 1)
      have f3 := hblk1.thawed (k * 4 + 2)
      have f4 := hblk1.thawed (k * 4 + 3)
      obtain ⟨v1, e1⟩ : ∃ v1, w1.cell? ⟨w.heap.size, k * 4, none⟩ = some v1 := ⟨_, (hblk1.cell _).trans (Array.getElem?_eq_getElem (by omega))⟩
      obtain ⟨v2, e2⟩ : ∃ v2, w1.cell? ⟨w.heap.size, k * 4 + 1, none⟩ = some v2 := ⟨_, (hblk1.cell _).trans (Array.getElem?_eq_getElem (by omega))⟩
      obtain ⟨v3, e3⟩ : ∃ v3, w1.cell? ⟨w.heap.size, k * 4 + 2, none⟩ = some v3 := ⟨_, (hblk1.cell _).trans (Array.getElem?_eq_getElem (by omega))⟩
      obtain ⟨v4, e4⟩ : ∃ v4, w1.cell? ⟨w.heap.size, k * 4 + 3, none⟩ = some v4 := ⟨_, (hblk1.cell _).trans (Array.getElem?_eq_getElem (by omega))⟩
      have HN := Lib.hid (fillN_step HF.out hb1 hlt HT.out)
      clear hblk hblk1 hs hF
      go_wp2
      go_roundw
      case rel => exact ⟨k + 1, by omega, by go_num, HN.out⟩
      case measure => simp [intOf]; omega
    · obtain rfl : k = n := by omega
      obtain ⟨hbel, hcs⟩ := hF
      have HC := Lib.hid hcs
      clear hcs
      go_wp2
      go_ret
      exact ⟨rfl, hbel, hl.1, HC.out⟩

set_option maxHeartbeats 800000 in
theorem eqNode_any (a b c d p q r s : Int) (w : World) :
    Calls Tryd.prog 59 #[.agg #[.int .i64 a, .int .i64 b, .int .i64 c, .int .i64 d], .agg #[.int .i64 p, .int .i64 q, .int .i64 r, .int .i64 s]] w fun e w' => e = .returned (.bool (decide ((a, b, c, d) = (p, q, r, s)))) ∧ Below w.heap.size w w' := by
  have hb : Below w.heap.size w ((w.alloc (.cells #[.int .i64 a, .int .i64 b, .int .i64 c, .int .i64 d] 72)).alloc (.cells #[.int .i64 p, .int .i64 q, .int .i64 r, .int .i64 s] 72)) := ((Below.refl _ _).alloc (Nat.le_refl _) _).alloc (by simp) _
  have HB := Lib.hid hb
  clear hb
  by_cases h1 : a = p
  · subst h1
    by_cases h2 : b = q
    · subst h2
      by_cases h3 : c = r
      · subst h3
        by_cases h4 : d = s
        · subst h4
          go_enter Tryd.func59, Tryd.ntmps59
          go_wp2
          go_ret
          exact ⟨ret_bool (by simp), HB.out⟩
        · have e4 : (d != s) = true := by simpa using h4
          have HD : Hid (decide ((a, b, c, d) = (a, b, c, s)) = false) := by show _ = _; simp [h4]
          clear h4
          go_enter Tryd.func59, Tryd.ntmps59
          go_wp2
          go_ret
          exact ⟨by rw [HD.out]; rfl, HB.out⟩
      · have e3 : (c != r) = true := by simpa using h3
        have HD : Hid (decide ((a, b, c, d) = (a, b, r, s)) = false) := by show _ = _; simp [h3]
        clear h3
        go_enter Tryd.func59, Tryd.ntmps59
        go_wp2
        go_ret
        exact ⟨by rw [HD.out]; rfl, HB.out⟩
    · have e2 : (b != q) = true := by simpa using h2
      have HD : Hid (decide ((a, b, c, d) = (a, q, r, s)) = false) := by show _ = _; simp [h2]
      clear h2
      go_enter Tryd.func59, Tryd.ntmps59
      go_wp2
      go_ret
      exact ⟨by rw [HD.out]; rfl, HB.out⟩
  · have e1 : (a != p) = true := by simpa using h1
    have HD : Hid (decide ((a, b, c, d) = (p, q, r, s)) = false) := by show _ = _; simp [h1]
    clear h1
    go_enter Tryd.func59, Tryd.ntmps59
    go_wp2
    go_ret
    exact ⟨by rw [HD.out]; rfl, HB.out⟩

set_option maxRecDepth 100000 in
set_option maxHeartbeats 1000000 in
theorem eqNodeS_any (w : World) (B : Nat) (A1 A2 : Option Addr) (n1 n2 c1 c2 : Nat) (l m : List Nd) (hB : B ≤ w.heap.size) (hl : NodR w B A1 n1 l) (hm : NodR w B A2 n2 m)
    (hn1 : (n1 : Int) ≤ 140737488355328) (hn2 : (n2 : Int) ≤ 140737488355328) :
    Calls Tryd.prog 17 #[.slice A1 n1 c1, .slice A2 n2 c2] w fun e w' => e = .returned (.bool (decide (l = m))) ∧ Below w.heap.size w w' := by
  by_cases hne : n1 = n2
  · subst hne
    have en : ((n1 : Int) != (n1 : Int)) = false := by simp
    go_enter Tryd.func17, Tryd.ntmps17
    go_wp2
    go_loopw [5] (fun i wr => ∃ k : Nat, k ≤ n1 ∧ i = .int .i64 k ∧ Agree nd0 k l m ∧ Below w.heap.size w wr) (fun i _ => n1 - (intOf i).toNat)
    case atStart => exact ⟨0, Nat.zero_le _, rfl, (fun j hj => absurd hj (by omega)), Below.refl _ _⟩
    case round =>
      obtain ⟨k, hk, rfl, hag, hbel⟩ := hrel
      have HG := Lib.hid hag
      clear hag
      by_cases hlt : k < n1
      · obtain ⟨b, off, rfl, hb, hc⟩ := hl.2 (by omega)
        obtain ⟨x1, x2, x3, x4⟩ := hc k hlt
        obtain ⟨b', off', rfl, hb', hc'⟩ := hm.2 (by omega)
        obtain ⟨y1, y2, y3, y4⟩ := hc' k hlt
        have HL := Lib.hid hl
        have HM := Lib.hid hm
        obtain ⟨t, ht⟩ : ∃ t, l.getD k nd0 = t := ⟨_, rfl⟩
        obtain ⟨u, hu⟩ : ∃ u, m.getD k nd0 = u := ⟨_, rfl⟩
        rw [ht] at x1 x2 x3 x4
        rw [hu] at y1 y2 y3 y4
        obtain ⟨p, q, r, s⟩ := t
        obtain ⟨p', q', r', s'⟩ := u
        have HT := Lib.hid ht
        have HU := Lib.hid hu
        have k1 := (hbel.cell (p := ⟨b, off + k * 4, none⟩) (by show b < _; omega)).trans x1
        have k2 := (hbel.cell (p := ⟨b, off + k * 4 + 1, none⟩) (by show b < _; omega)).trans x2
        have k3 := (hbel.cell (p := ⟨b, off + k * 4 + 2, none⟩) (by show b < _; omega)).trans x3
        have k4 := (hbel.cell (p := ⟨b', off' + k * 4, none⟩) (by show b' < _; omega)).trans y1
        have k5 := (hbel.cell (p := ⟨b', off' + k * 4 + 1, none⟩) (by show b' < _; omega)).trans y2
        have k6 := (hbel.cell (p := ⟨b', off' + k * 4 + 2, none⟩) (by show b' < _; omega)).trans y3
        have k7 := (hbel.cell (p := ⟨b, off + k * 4 + 3, none⟩) (by show b < _; omega)).trans x4
        have k8 := (hbel.cell (p := ⟨b', off' + k * 4 + 3, none⟩) (by show b' < _; omega)).trans y4
        clear x1 x2 x3 x4 y1 y2 y3 y4 hc hc' ht hu hl hm
        go_wp2_with fail
        refine region_tail 8 (by kernel_rfl) (by kernel_rfl) ?_
        simp only [List.take_succ_cons, List.take_zero, List.drop_succ_cons, List.drop_zero]
        repeat still_step
        refine wpStill_nil ?_
        go_wp2_with fail
        refine (eqNode_any p q r s p' q' r' s' _).mono ?_
        rintro e w1 ⟨rfl, hb1⟩
        have HB := Lib.hid (hbel.drew.trans (hb1.mono hbel.size))
        clear hb1
        by_cases heq : (p, q, r, s) = (p', q', r', s')
        · have HA : Hid (Agree nd0 (k + 1) l m) := agree_step HG.out (by rw [HT.out, HU.out, heq])
          rw [decide_eq_true heq]
          clear heq
          go_wp2
          go_roundw
          case rel => exact ⟨k + 1, by omega, by go_num, HA.out, HB.out⟩
          case measure => simp [intOf]; omega
        · have HF : Hid (decide (l = m) = false) := by
            show _ = _
            rw [decide_eq_false_iff_not]
            intro h
            apply heq
            rw [← HT.out, ← HU.out, h]
          rw [decide_eq_false heq]
          clear heq
          go_wp2
          go_ret
          exact ⟨by rw [HF.out]; rfl, HB.out⟩
      · obtain rfl : k = n1 := by omega
        have HF : Hid (decide (l = m) = true) := by
          show _ = _
          rw [decide_eq_true_eq]
          exact agree_all hl.1 hm.1 HG.out
        clear hl hm
        go_wp2
        go_ret
        exact ⟨by rw [HF.out]; rfl, hbel⟩
  · have HF : Hid (decide (l = m) = false) := by
      show _ = _
      rw [decide_eq_false_iff_not]
      intro h
      apply hne
      rw [← hl.1, ← hm.1, h]
    have en : ((n1 : Int) != (n2 : Int)) = true := by simp; omega
    clear hl hm hne
    go_enter Tryd.func17, Tryd.ntmps17
    go_wp2
    go_ret
    exact ⟨by rw [HF.out]; rfl, Below.refl _ _⟩
end Go.Proofs.YtfmhmnpmdjpmeaaDoor

namespace Go.Proofs.YtfmhmnpmdjpmeaaDoor
open Go.RowKit Go.Maps

/-- block g is the box of an arena with the nodes l (row A n c, map m); what belongs to it lies from base on -/
structure ArO (w : World) (base g m : Nat) (A : Option Addr) (n c : Nat) (D : DataW Unit) (l : List Nd) : Prop where
  bg : base ≤ g
  bm : base ≤ m
  box : Blk w g 85 #[.slice A n c, .map (some m)]
  row : OwnN w base A n c l
  map : w.ownsMap Tryd.prog 72 (plainElem Tryd.prog 3) m n D
  gn : GN D l
theorem ArO.len {w : World} {base g m n c : Nat} {A : Option Addr} {D : DataW Unit} {l : List Nd} (h : ArO w base g m A n c D l) : l.length = n := (OwnN.reads h.row).1
theorem map_below {w w' : World} {m n B : Nat} {D : DataW Unit} (h : w.ownsMap Tryd.prog 72 (plainElem Tryd.prog 3) m n D) (hb : Below B w w') (hm : m < B) : w'.ownsMap Tryd.prog 72 (plainElem Tryd.prog 3) m n D := by
  obtain ⟨es, clock, h1, h2, h3, h4⟩ := h
  exact ⟨es, clock, (hb.block m hm).trans h1, h2, h3, h4⟩
theorem map_apart {w : World} {m n g : Nat} {D : DataW Unit} {t : TypeId} {cs : Array Value} (h : w.ownsMap Tryd.prog 72 (plainElem Tryd.prog 3) m n D) (hb : Blk w g t cs) : g ≠ m := by
  rintro rfl
  obtain ⟨es, clock, h1, _⟩ := h
  have e := Eq.trans (Eq.symm h1) hb
  injection e with e
  cases e
theorem map_row {w : World} {m n base k : Nat} {D : DataW Unit} {v : Value} {xs : List Value} (h : w.ownsMap Tryd.prog 72 (plainElem Tryd.prog 3) m n D) (hb : w.ownsRow base 72 4 v k xs) : some m ≠ v.ownBlock := by
  rcases hb.2 with ⟨rfl, _⟩ | ⟨g', cap, cur, rfl, _, hh, _⟩
  · simp [Value.ownBlock]
  · intro he
    have hgg : m = g' := by simpa [Value.ownBlock] using he
    subst hgg
    obtain ⟨es, clock, h1, _⟩ := h
    have e := Eq.trans (Eq.symm h1) hh
    injection e with e
    cases e
theorem ArO.below {w w' : World} {base g m n c : Nat} {A : Option Addr} {D : DataW Unit} {l : List Nd} (h : ArO w base g m A n c D l) (hb : Below w.heap.size w w') : ArO w' base g m A n c D l :=
  ⟨h.bg, h.bm, h.box.below hb h.box.lt, own_below' h.row hb, map_below h.map hb h.map.lt, h.gn⟩

set_option maxRecDepth 100000 in
set_option maxHeartbeats 1600000 in
/-- a node that is there already -/
theorem index_in (w : World) (base g m : Nat) (A : Option Addr) (n c : Nat) (D : DataW Unit) (l : List Nd) (o u a b : Int) (h : ArO w base g m A n c D l) (hw : ndWf (o, u, a, b)) (hm : (o, u, a, b) ∈ l) :
    Calls Tryd.prog 83 #[.pointer (some ⟨g, 0, none⟩), .agg #[.int .i64 o, .int .i64 u, .int .i64 a, .int .i64 b]] w fun e w' => e = .returned (.int .i64 (l.idxOf (o, u, a, b) : Nat)) ∧ Below w.heap.size w w' := by
  obtain ⟨i, hi⟩ : ∃ i : Nat, l.idxOf (o, u, a, b) = i := ⟨_, rfl⟩
  rw [hi]
  have hB : Below w.heap.size w (w.alloc (.cells #[.int .i64 o, .int .i64 u, .int .i64 a, .int .i64 b] 72)) := (Below.refl _ _).alloc (Nat.le_refl _) _
  obtain ⟨v, ps, hrun, hv⟩ := (h.map.alloc (.cells #[.int .i64 o, .int .i64 u, .int .i64 a, .int .i64 b] 72)).drew.look_ok lawNd Tryd.underlying83 (zeroNd _) (plainElem_int Tryd.underlying3 (a := 0) (by decide)) (nk_key hw)
  obtain ⟨hhas, hat⟩ := h.gn _ hw
  rw [hhas, decide_eq_true hm] at hrun
  rw [hat hm, hi] at hv
  obtain ⟨z, rfl, hz, _⟩ := plainElem_int_inv Tryd.underlying3 hv
  simp at hz
  obtain ⟨hz, -⟩ := hz
  subst hz
  have k1 := (h.box.below hB h.box.lt).cell 1
  simp at k1
  have hgl := h.box.lt
  have HB := Lib.hid hB
  clear hv hhas hat hi hm h hB
  go_enter Tryd.func83, Tryd.ntmps83
  go_wp2_with fail
  go_region
  go_wp2
  go_ret
  exact ⟨rfl, HB.out.drew⟩
end Go.Proofs.YtfmhmnpmdjpmeaaDoor

namespace Go.Proofs.YtfmhmnpmdjpmeaaDoor
open Go

/-- the slots of a call as a function -/
def tm (N : Nat) (f : Nat → Value) : Act := { tmps := ((List.range N).map f).toArray, defers := [] }
def upd (f : Nat → Value) (d : Option Nat) (v : Value) : Nat → Value := fun t => if d = some t then v else f t
theorem tm_put (N : Nat) (f : Nat → Value) (d : Option Nat) (v : Value) : (tm N f).put d v = tm N (upd f d v) := by
  cases d with
  | none =>
    have : upd f none v = f := funext fun t => if_neg (by intro h; cases h)
    rw [this]; rfl
  | some d =>
    show ({ tmps := ((List.range N).map f).toArray.setIfInBounds d v, defers := [] } : Act) = { tmps := ((List.range N).map (upd f (some d) v)).toArray, defers := [] }
    congr 1
    rw [List.setIfInBounds_toArray]
    congr 1
    apply List.ext_getElem (by simp)
    intro i h1 h2
    rw [List.getElem_set]
    simp only [List.getElem_map, List.getElem_range, upd]
    by_cases e : d = i
    · subst e; rw [if_pos rfl, if_pos rfl]
    · rw [if_neg e, if_neg (fun h => e (by injection h))]
theorem tm_eval {N t : Nat} (h : t < N) (f : Nat → Value) : (tm N f).eval (.tmp t) = f t := by
  simp [tm, Act.eval, Array.getD, h]
theorem upd_same (f : Nat → Value) (t : Nat) (v : Value) : upd f (some t) v t = v := if_pos rfl
theorem upd_other (f : Nat → Value) {d : Option Nat} {t : Nat} (v : Value) (h : d ≠ some t) : upd f d v t = f t := if_neg h

section
variable {P : Program} {ops : Array Oper} {Q : Exit → Act → World → Prop} {md : Region.Mode}

theorem count_listed {listed : Array Bool} {i : Nat} (h : listed.getD i true = false) : (listed.setIfInBounds i true).toList.count false + 1 = listed.toList.count false := by
  obtain ⟨l⟩ := listed
  have hl : i < l.length := by
    rcases Nat.lt_or_ge i l.length with h' | h'
    · exact h'
    · simp [Array.getD, Nat.not_lt.2 h'] at h
  have hi : l[i] = false := by simpa [Array.getD, hl] using h
  simp only [List.setIfInBounds_toArray]
  clear h
  induction l generalizing i with
  | nil => simp at hl
  | cons x l ih =>
    cases i with
    | zero =>
      simp only [List.getElem_cons_zero] at hi
      subst hi
      simp
    | succ i =>
      simp only [List.length_cons] at hl
      simp only [List.getElem_cons_succ] at hi
      have := ih (by omega) hi
      simp only [List.set_cons_succ, List.count_cons]
      omega
theorem ready_pos {listed : Array Bool} {i : Nat} (h : i ∈ Region.ready md ops listed) : 0 < listed.toList.count false := by
  have := count_listed (mem_ready.1 h).1
  omega
/-- whatever order is picked, an invariant that each operation keeps holds at the end -/
theorem wpAny_inv (I : Nat → Array Bool → Act → World → Prop)
    (hstep : ∀ k listed a w, k < ops.size → I k listed a w → ∀ i ∈ Region.ready md ops listed, wpOp P ops Q i (I (k + 1) (listed.setIfInBounds i true)) a w)
    (hend : ∀ k listed a w, k ≤ ops.size → I k listed a w → Region.ready md ops listed = [] → Q .normal a w) :
    ∀ (fuel k : Nat) (listed : Array Bool) (a : Act) (w : World), fuel + k = ops.size → listed.toList.count false ≤ fuel → I k listed a w → wpAny P md ops Q fuel listed a w := by
  intro fuel
  induction fuel with
  | zero =>
    intro k listed a w hk hc hI
    have hr : Region.ready md ops listed = [] := by
      cases h : Region.ready md ops listed with
      | nil => rfl
      | cons x xs =>
        have := ready_pos (md := md) (ops := ops) (listed := listed) (i := x) (by rw [h]; simp)
        omega
    exact ⟨hr, hend k listed a w (by omega) hI hr⟩
  | succ fuel ih =>
    intro k listed a w hk hc hI
    refine ⟨hend k listed a w (by omega) hI, fun i hi => ?_⟩
    refine wpOp_mono (fun a' w' h => ih (k + 1) _ a' w' (by omega) ?_ h) (hstep k listed a w (by omega) hI i hi)
    have := count_listed (mem_ready.1 hi).1
    omega

/-- the slot of an operation, what lies in it, and that an operation waits for another one -/
def dstOf (ops : Array Oper) (j : Nat) : Option Nat := (ops[j]?).bind (·.dst)
def slotV (ops : Array Oper) (f : Nat → Value) (j : Nat) : Value := match dstOf ops j with | some t => f t | none => undef
def waitsFor (ops : Array Oper) (i j : Nat) : Bool := match ops[i]? with | some o => o.after.any (fun e => Region.binds .any e && e.on == j) | none => false
def slotsOk (ops : Array Oper) : Bool :=
  (List.range ops.size).all fun i => (match ops[i]? with | some o => o.after.all (fun e => !Region.binds .any e || decide (e.on < i)) | none => true) && (List.range ops.size).all fun j => i == j || dstOf ops i == none || dstOf ops i != dstOf ops j
def isDst (ops : Array Oper) (t : Nat) : Bool := (List.range ops.size).any fun i => dstOf ops i == some t

theorem slotsOk_before (h : slotsOk ops = true) {i : Nat} {o : Oper} (ho : ops[i]? = some o) : ∀ e ∈ o.after, Region.binds .any e = true → e.on < i := by
  have hi : i < ops.size := (Array.getElem?_eq_some_iff.1 ho).1
  unfold slotsOk at h
  have h1 := List.all_eq_true.1 h i (List.mem_range.2 hi)
  rw [Bool.and_eq_true, ho] at h1
  intro e he hb
  have := Array.all_eq_true_iff_forall_mem.1 h1.1 e he
  rw [hb] at this
  simpa using this
theorem slotsOk_apart (h : slotsOk ops = true) {i j : Nat} (hi : i < ops.size) (hj : j < ops.size) (hne : i ≠ j) {t : Nat} (hd : dstOf ops i = some t) : dstOf ops j ≠ some t := by
  unfold slotsOk at h
  have h1 := List.all_eq_true.1 h i (List.mem_range.2 hi)
  rw [Bool.and_eq_true] at h1
  have h2 := List.all_eq_true.1 h1.2 j (List.mem_range.2 hj)
  rw [hd] at h2
  simp [hne] at h2
  exact fun e => h2 e.symm
theorem ready_none (h : slotsOk ops = true) {listed : Array Bool} (hs : listed.size = ops.size) (hr : Region.ready .any ops listed = []) : ∀ i, i < ops.size → listed.getD i false = true := by
  intro i
  induction i using Nat.strongRecOn with
  | ind i ih =>
    intro hi
    obtain ⟨o, ho⟩ : ∃ o, ops[i]? = some o := ⟨ops[i], by simp [hi]⟩
    cases hl : listed.getD i true with
    | true => simpa [Array.getD, hs, hi] using hl
    | false =>
      have : i ∈ Region.ready .any ops listed := by
        rw [mem_ready]
        refine ⟨hl, o, ho, fun e he hb => ?_⟩
        have := slotsOk_before h ho e he hb
        exact ih e.on this (by omega)
      rw [hr] at this
      cases this

/-- A REGION BY ITS OPERATIONS: C says of each what lies in its slot once it has come up; each keeps what is said of the others (R, hkeep); G goes along, counted, with what has come up. -/
def mark (d : Nat → Bool) (i : Nat) : Nat → Bool := fun j => if j = i then true else d j
/-- a slot that no operation writes -/
theorem frame_of {d : Nat → Bool} {t : Nat} (h : isDst ops t = false) : ∀ j, dstOf ops j = some t → d j = false := fun j hj => by
  have hj' : j < ops.size := by
    rcases Nat.lt_or_ge j ops.size with q | q
    · exact q
    · simp [dstOf, Array.getElem?_eq_none q] at hj
  have : isDst ops t = true := by
    unfold isDst
    rw [List.any_eq_true]
    exact ⟨j, List.mem_range.2 hj', by simp [hj]⟩
  rw [h] at this
  cases this
/-- the operations one by one -/
def AllFrom (p : Nat → Oper → Prop) : Nat → List Oper → Prop
  | _, [] => True
  | i, o :: os => p i o ∧ AllFrom p (i + 1) os
theorem AllFrom.cons {p : Nat → Oper → Prop} {i : Nat} {o : Oper} {os : List Oper} (h : p i o) (hs : AllFrom p (i + 1) os) : AllFrom p i (o :: os) := ⟨h, hs⟩
theorem AllFrom.nil {p : Nat → Oper → Prop} {i : Nat} : AllFrom p i [] := trivial
theorem AllFrom.at {p : Nat → Oper → Prop} : ∀ {os : List Oper} {s : Nat}, AllFrom p s os → ∀ i o, os[i]? = some o → p (s + i) o
  | [], _, _, i, o, h => by simp at h
  | x :: os, s, h, i, o, ho => by
    cases i with
    | zero => simp at ho; subst ho; exact h.1
    | succ i =>
      have := AllFrom.at h.2 i o (by simpa using ho)
      rw [show s + (i + 1) = s + 1 + i by omega]
      exact this
theorem AllFrom.all {p : Nat → Oper → Prop} {os : List Oper} (h : AllFrom p 0 os) : ∀ i o, os.toArray[i]? = some o → p i o := fun i o ho => by
  have := AllFrom.at h i o (by simpa using ho)
  rwa [Nat.zero_add] at this

theorem op_wp {i : Nat} {o : Oper} {a : Act} {w : World} {K : Act → World → Prop} (hi : ops[i]? = some o) (hg : o.guard = none) (h : ∀ K' : Act → World → Prop, (∀ a w, K a w → K' a w) → o.wp P a w K' Q) : wpOp P ops Q i K a w := by
  refine wpOp_step hi fun K' hK => ?_
  rw [if_pos (by simp [Region.wanted, hg])]
  exact h K' hK
end
end Go.Proofs.YtfmhmnpmdjpmeaaDoor
