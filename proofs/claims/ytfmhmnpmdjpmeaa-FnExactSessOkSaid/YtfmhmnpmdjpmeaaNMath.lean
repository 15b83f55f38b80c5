/- The laws' own helpers on constraints and slices of them: sizes, copies, comparison, marks. -/
/- Words for memory: a slice that reads as frames; the laws' work on such slices and on a session: their size, a copy, equal. -/
import Derived.Test.YtfmhmnpmdjpmeaaCoMem
import Derived.Test.YtfmhmnpmdjpmeaaMarks

namespace Go.Proofs.Ytfmhmnpmdjpmeaa
open Go.RowKit
open Cs (Cn)

set_option maxHeartbeats 400000 in
theorem szConS_any (A : Option Addr) (n c : Nat) (left : Int) (w : World) (h0 : 0 ≤ left) (h1 : left ≤ 1048576) (hn : (n : Int) ≤ 9223372036854775807) :
    Calls Try.prog 75 #[.slice A n c, .int .i64 left] w fun e w' => e = .returned (.int .i64 (if left < n then -1 else left - n)) ∧ w = w' := by
  go_enter Try.func75, Try.ntmps75
  go_wp2
  all_goals go_ret
  · exact ⟨rfl, rfl⟩
  · exact ⟨rfl, rfl⟩

set_option maxHeartbeats 400000 in
theorem toCon_any (U R V : Int) (w : World) :
    Calls Try.prog 95 #[.agg #[.int .i64 U, .int .i64 R, .int .i64 V]] w fun e w' => e = .returned (.agg #[.int .i64 U, .int .i64 R, .int .i64 V]) ∧ Below w.heap.size w w' := by
  go_enter Try.func95, Try.ntmps95
  go_wp2
  exact bodyPost_ret (v := .agg #[.int .i64 U, .int .i64 R, .int .i64 V]) (by simp [results, Try.results95, go_sem]) rfl ⟨rfl, (((Below.refl _ _).alloc (Nat.le_refl _) _).alloc (by simp) _).alloc (by simp; omega) _⟩

/-- block g is a row of just n constraints, those of l -/
def ConOwn (w : World) (g n : Nat) (l : List Cn) : Prop :=
  l.length = n ∧ ∃ cs, Blk w g 78 cs ∧ cs.size = n * 3 ∧ ∀ k, k < n → cs[k * 3]? = some (.int .i64 (l.getD k (0, 0, 0)).1) ∧ cs[k * 3 + 1]? = some (.int .i64 (l.getD k (0, 0, 0)).2.1) ∧ cs[k * 3 + 2]? = some (.int .i64 (l.getD k (0, 0, 0)).2.2)
theorem ConOwn.lt {w : World} {g n : Nat} {l : List Cn} (h : ConOwn w g n l) : g + 1 ≤ w.heap.size := by obtain ⟨_, cs, hblk, _⟩ := h; exact hblk.lt
theorem ConOwn.reads {w : World} {g n : Nat} {l : List Cn} (h : ConOwn w g n l) : ConR w (g + 1) (some ⟨g, 0, none⟩) n l := by
  obtain ⟨hl, cs, hb, hs, hc⟩ := h
  refine ⟨hl, fun _ => ⟨g, 0, rfl, by omega, fun k hk => ?_⟩⟩
  rw [hb.cell, hb.cell, hb.cell, Nat.zero_add]
  exact hc k hk
theorem ConOwn.below {w w' : World} {g n B : Nat} {l : List Cn} (h : ConOwn w g n l) (hb : Below B w w') (hg : g < B) : ConOwn w' g n l := by
  obtain ⟨hl, cs, hblk, rest⟩ := h
  exact ⟨hl, cs, hblk.below hb hg, rest⟩
/-- the row of constraints that is being filled: the first k of them are there -/
def FillC (w : World) (g n k : Nat) (l : List Cn) (wr : World) : Prop :=
  Below w.heap.size w wr ∧ ∃ cs, Blk wr g 78 cs ∧ cs.size = n * 3 ∧ ∀ j, j < k → cs[j * 3]? = some (.int .i64 (l.getD j (0, 0, 0)).1) ∧ cs[j * 3 + 1]? = some (.int .i64 (l.getD j (0, 0, 0)).2.1) ∧ cs[j * 3 + 2]? = some (.int .i64 (l.getD j (0, 0, 0)).2.2)
theorem fillC_step {w wr w1 : World} {n k : Nat} {l : List Cn} {a b d : Int} (h : FillC w w.heap.size n k l wr) (hb : Below wr.heap.size wr w1) (hk : k < n) (ht : l.getD k (0, 0, 0) = (a, b, d)) :
    FillC w w.heap.size n (k + 1) l (((w1.setCell ⟨w.heap.size, k * 3, none⟩ (.int .i64 a)).setCell ⟨w.heap.size, k * 3 + 1, none⟩ (.int .i64 b)).setCell ⟨w.heap.size, k * 3 + 2, none⟩ (.int .i64 d)) := by
  obtain ⟨hbel, cs, hblk, hs, hc⟩ := h
  have hblk1 := hblk.below hb hblk.lt
  refine ⟨(((hbel.trans (hb.mono hbel.size)).setCell (p := ⟨w.heap.size, k * 3, none⟩) (Nat.le_refl _) _).setCell (p := ⟨w.heap.size, k * 3 + 1, none⟩) (Nat.le_refl _) _).setCell (p := ⟨w.heap.size, k * 3 + 2, none⟩) (Nat.le_refl _) _, _, ((hblk1.put _ _).put _ _).put _ _, by simp [hs], ?_⟩
  intro j hj
  by_cases e : j = k
  · subst e
    rw [ht]
    refine ⟨?_, ?_, ?_⟩
    · rw [Array.getElem?_setIfInBounds_ne (by omega), Array.getElem?_setIfInBounds_ne (by omega), Array.getElem?_setIfInBounds_self_of_lt (by omega)]
    · rw [Array.getElem?_setIfInBounds_ne (by omega), Array.getElem?_setIfInBounds_self_of_lt (by simp; omega)]
    · rw [Array.getElem?_setIfInBounds_self_of_lt (by simp; omega)]
  · obtain ⟨x, y, z⟩ := hc j (by omega)
    refine ⟨?_, ?_, ?_⟩
    · rw [Array.getElem?_setIfInBounds_ne (by omega), Array.getElem?_setIfInBounds_ne (by omega), Array.getElem?_setIfInBounds_ne (by omega)]; exact x
    · rw [Array.getElem?_setIfInBounds_ne (by omega), Array.getElem?_setIfInBounds_ne (by omega), Array.getElem?_setIfInBounds_ne (by omega)]; exact y
    · rw [Array.getElem?_setIfInBounds_ne (by omega), Array.getElem?_setIfInBounds_ne (by omega), Array.getElem?_setIfInBounds_ne (by omega)]; exact z

set_option maxHeartbeats 800000 in
theorem toConS_any (w : World) (B : Nat) (A : Option Addr) (n c : Nat) (l : List Cn) (hB : B ≤ w.heap.size) (hl : ConR w B A n l) (hn : n ≤ 1048576) :
    Calls Try.prog 77 #[.slice A n c] w fun e w' => e = .returned (.slice (some ⟨w.heap.size, 0, none⟩) n n) ∧ Below w.heap.size w w' ∧ ConOwn w' w.heap.size n l := by
  obtain ⟨i0, hi, hz0, hz1, hz2⟩ := info_parts info_con
  have hmk : ∀ wx, (Instr.makeSlice 48 (.int .i64 (n : Int)) (.int .i64 (n : Int))).run Try.prog wx = .ok (.slice (some ⟨wx.heap.size, 0, none⟩) n n) (wx.alloc (.cells (madeCells (Value.agg #[.int .i64 0, .int .i64 0, .int .i64 0]).cells (n * 3)) 78)) := by
    intro wx
    have hr := run_make (P := Try.prog) wx 48 78 i0 _ Try.underlying48 hi hz0 .i64 .i64 n n (by omega) (by omega) (by rw [hz2]; omega) (by omega)
    simp only [Int.toNat_natCast, hz1] at hr
    exact hr
  have hstart : FillC w w.heap.size n 0 l (w.alloc (.cells (madeCells (Value.agg #[.int .i64 0, .int .i64 0, .int .i64 0]).cells (n * 3)) 78)) :=
    ⟨(Below.refl _ _).alloc (Nat.le_refl _) _, _, Blk.made _ _ _, by simp [madeCells], by intro j hj; omega⟩
  have HS := Lib.hid hstart
  clear hstart hi hz0 hz1 hz2
  go_enter Try.func77, Try.ntmps77
  go_wp2
  go_loopw [4] (fun i wr => ∃ k : Nat, k ≤ n ∧ i = .int .i64 k ∧ FillC w w.heap.size n k l wr) (fun i _ => n - (intOf i).toNat)
  case atStart => exact ⟨0, Nat.zero_le _, rfl, HS.out⟩
  case round =>
    obtain ⟨k, hk, rfl, hF⟩ := hrel
    by_cases hlt : k < n
    · obtain ⟨b, off, rfl, hb, hc⟩ := hl.2 (by omega)
      obtain ⟨c1, c2, c3⟩ := hc k hlt
      obtain ⟨t, ht⟩ : ∃ t, l.getD k (0, 0, 0) = t := ⟨_, rfl⟩
      rw [ht] at c1 c2 c3
      obtain ⟨U, R, V⟩ := t
      have hbel := hF.1
      have k1 := (hbel.cell (p := ⟨b, off + k * 3, none⟩) (by show b < _; omega)).trans c1
      have k2 := (hbel.cell (p := ⟨b, off + k * 3 + 1, none⟩) (by show b < _; omega)).trans c2
      have k3 := (hbel.cell (p := ⟨b, off + k * 3 + 2, none⟩) (by show b < _; omega)).trans c3
      have HT := Lib.hid ht
      have HF := Lib.hid hF
      have hszr := hbel.size
      clear c1 c2 c3 hc ht
      go_wp2_with fail
      refine (toCon_any _ _ _ _).mono ?_
      rintro e w1 ⟨rfl, hb1⟩
      obtain ⟨_, cs, hblk, hs, _⟩ := HF.out
      have hblk1 := hblk.below hb1 hblk.lt
      have hlt1 := hblk1.lt
      have f1 := hblk1.thawed (k * 3)
      have f2 := hblk1.thawed (k * 3 + 1)
      have f3 := hblk1.thawed (k * 3 + 2)
      obtain ⟨v1, e1⟩ : ∃ v1, w1.cell? ⟨w.heap.size, k * 3, none⟩ = some v1 := ⟨_, (hblk1.cell _).trans (Array.getElem?_eq_getElem (by omega))⟩
      obtain ⟨v2, e2⟩ : ∃ v2, w1.cell? ⟨w.heap.size, k * 3 + 1, none⟩ = some v2 := ⟨_, (hblk1.cell _).trans (Array.getElem?_eq_getElem (by omega))⟩
      obtain ⟨v3, e3⟩ : ∃ v3, w1.cell? ⟨w.heap.size, k * 3 + 2, none⟩ = some v3 := ⟨_, (hblk1.cell _).trans (Array.getElem?_eq_getElem (by omega))⟩
      have HN := Lib.hid (fillC_step HF.out hb1 hlt HT.out)
      clear hblk hblk1 hs hF
      go_wp2
      go_roundw
      case rel => exact ⟨k + 1, by omega, by go_num, HN.out⟩
      case measure => simp [intOf]; omega
    · obtain rfl : k = n := by omega
      obtain ⟨hbel, hcs⟩ := hF
      have HC := Lib.hid hcs
      clear hcs
      go_wp2
      go_ret
      exact ⟨rfl, hbel, hl.1, HC.out⟩

set_option maxHeartbeats 800000 in
theorem eqCon_any (a b c p q r : Int) (w : World) :
    Calls Try.prog 55 #[.agg #[.int .i64 a, .int .i64 b, .int .i64 c], .agg #[.int .i64 p, .int .i64 q, .int .i64 r]] w fun e w' => e = .returned (.bool (decide ((a, b, c) = (p, q, r)))) ∧ Below w.heap.size w w' := by
  have hb : Below w.heap.size w ((w.alloc (.cells #[.int .i64 a, .int .i64 b, .int .i64 c] 78)).alloc (.cells #[.int .i64 p, .int .i64 q, .int .i64 r] 78)) := ((Below.refl _ _).alloc (Nat.le_refl _) _).alloc (by simp) _
  have HB := Lib.hid hb
  clear hb
  by_cases h1 : a = p
  · subst h1
    by_cases h2 : b = q
    · subst h2
      by_cases h3 : c = r
      · subst h3
        go_enter Try.func55, Try.ntmps55
        go_wp2
        go_ret
        exact ⟨ret_bool (by simp), HB.out⟩
      · have e3 : (c != r) = true := by simpa using h3
        have HD : Hid (decide ((a, b, c) = (a, b, r)) = false) := by show _ = _; simp [h3]
        clear h3
        go_enter Try.func55, Try.ntmps55
        go_wp2
        go_ret
        exact ⟨by rw [HD.out]; rfl, HB.out⟩
    · have e2 : (b != q) = true := by simpa using h2
      have HD : Hid (decide ((a, b, c) = (a, q, r)) = false) := by show _ = _; simp [h2]
      clear h2
      go_enter Try.func55, Try.ntmps55
      go_wp2
      go_ret
      exact ⟨by rw [HD.out]; rfl, HB.out⟩
  · have e1 : (a != p) = true := by simpa using h1
    have HD : Hid (decide ((a, b, c) = (p, q, r)) = false) := by show _ = _; simp [h1]
    clear h1
    go_enter Try.func55, Try.ntmps55
    go_wp2
    go_ret
    exact ⟨by rw [HD.out]; rfl, HB.out⟩

set_option maxRecDepth 100000 in
set_option maxHeartbeats 1000000 in
theorem eqConS_any (w : World) (B : Nat) (A1 A2 : Option Addr) (n1 n2 c1 c2 : Nat) (l m : List Cn) (hB : B ≤ w.heap.size) (hl : ConR w B A1 n1 l) (hm : ConR w B A2 n2 m)
    (hn1 : (n1 : Int) ≤ 140737488355328) (hn2 : (n2 : Int) ≤ 140737488355328) :
    Calls Try.prog 28 #[.slice A1 n1 c1, .slice A2 n2 c2] w fun e w' => e = .returned (.bool (decide (l = m))) ∧ Below w.heap.size w w' := by
  by_cases hne : n1 = n2
  · subst hne
    have en : ((n1 : Int) != (n1 : Int)) = false := by simp
    go_enter Try.func28, Try.ntmps28
    go_wp2
    go_loopw [5] (fun i wr => ∃ k : Nat, k ≤ n1 ∧ i = .int .i64 k ∧ Agree (0, 0, 0) k l m ∧ Below w.heap.size w wr) (fun i _ => n1 - (intOf i).toNat)
    case atStart => exact ⟨0, Nat.zero_le _, rfl, (fun j hj => absurd hj (by omega)), Below.refl _ _⟩
    case round =>
      obtain ⟨k, hk, rfl, hag, hbel⟩ := hrel
      have HG := Lib.hid hag
      clear hag
      by_cases hlt : k < n1
      · obtain ⟨b, off, rfl, hb, hc⟩ := hl.2 (by omega)
        obtain ⟨x1, x2, x3⟩ := hc k hlt
        obtain ⟨b', off', rfl, hb', hc'⟩ := hm.2 (by omega)
        obtain ⟨y1, y2, y3⟩ := hc' k hlt
        have HL := Lib.hid hl
        have HM := Lib.hid hm
        obtain ⟨t, ht⟩ : ∃ t, l.getD k (0, 0, 0) = t := ⟨_, rfl⟩
        obtain ⟨u, hu⟩ : ∃ u, m.getD k (0, 0, 0) = u := ⟨_, rfl⟩
        rw [ht] at x1 x2 x3
        rw [hu] at y1 y2 y3
        obtain ⟨p, q, r⟩ := t
        obtain ⟨p', q', r'⟩ := u
        have HT := Lib.hid ht
        have HU := Lib.hid hu
        have k1 := (hbel.cell (p := ⟨b, off + k * 3, none⟩) (by show b < _; omega)).trans x1
        have k2 := (hbel.cell (p := ⟨b, off + k * 3 + 1, none⟩) (by show b < _; omega)).trans x2
        have k3 := (hbel.cell (p := ⟨b, off + k * 3 + 2, none⟩) (by show b < _; omega)).trans x3
        have k4 := (hbel.cell (p := ⟨b', off' + k * 3, none⟩) (by show b' < _; omega)).trans y1
        have k5 := (hbel.cell (p := ⟨b', off' + k * 3 + 1, none⟩) (by show b' < _; omega)).trans y2
        have k6 := (hbel.cell (p := ⟨b', off' + k * 3 + 2, none⟩) (by show b' < _; omega)).trans y3
        clear x1 x2 x3 y1 y2 y3 hc hc' ht hu hl hm
        go_wp2_with fail
        refine region_tail 8 (by kernel_rfl) (by kernel_rfl) ?_
        simp only [List.take_succ_cons, List.take_zero, List.drop_succ_cons, List.drop_zero]
        repeat still_step
        refine wpStill_nil ?_
        go_wp2_with fail
        refine (eqCon_any p q r p' q' r' _).mono ?_
        rintro e w1 ⟨rfl, hb1⟩
        have HB := Lib.hid (hbel.drew.trans (hb1.mono hbel.size))
        clear hb1
        by_cases heq : (p, q, r) = (p', q', r')
        · have HA : Hid (Agree (0, 0, 0) (k + 1) l m) := agree_step HG.out (by rw [HT.out, HU.out, heq])
          rw [decide_eq_true heq]
          clear heq
          go_wp2
          go_roundw
          case rel => exact ⟨k + 1, by omega, by go_num, HA.out, HB.out⟩
          case measure => simp [intOf]; omega
        · have HF : Hid (decide (l = m) = false) := by
            show _ = _
            rw [decide_eq_false_iff_not]
            intro h
            apply heq
            rw [← HT.out, ← HU.out, h]
          rw [decide_eq_false heq]
          clear heq
          go_wp2
          go_ret
          exact ⟨by rw [HF.out]; rfl, HB.out⟩
      · obtain rfl : k = n1 := by omega
        have HF : Hid (decide (l = m) = true) := by
          show _ = _
          rw [decide_eq_true_eq]
          exact agree_all hl.1 hm.1 HG.out
        clear hl hm
        go_wp2
        go_ret
        exact ⟨by rw [HF.out]; rfl, hbel⟩
  · have HF : Hid (decide (l = m) = false) := by
      show _ = _
      rw [decide_eq_false_iff_not]
      intro h
      apply hne
      rw [← hl.1, ← hm.1, h]
    have en : ((n1 : Int) != (n2 : Int)) = true := by simp; omega
    clear hl hm hne
    go_enter Try.func28, Try.ntmps28
    go_wp2
    go_ret
    exact ⟨by rw [HF.out]; rfl, Below.refl _ _⟩
end Go.Proofs.Ytfmhmnpmdjpmeaa

namespace Go.Proofs.Ytfmhmnpmdjpmeaa
open Go.RowKit
open Cs (Cn)

/-- a frame: its parameters and its constraints -/
abbrev Fm := List Int × List Cn
def fm0 : Fm := ([], [])
/-- the slice value '.slice A n c' reads as the frames fs; what it is made of lies below block B -/
def FrR (w : World) (B : Nat) (A : Option Addr) (n : Nat) (fs : List Fm) : Prop :=
  fs.length = n ∧ (0 < n → ∃ b off, A = some ⟨b, off, none⟩ ∧ b < B ∧ ∀ k, k < n → ∃ Ak nk ck Ck mk dk,
    w.cell? ⟨b, off + k * 2, none⟩ = some (.slice Ak nk ck) ∧ w.cell? ⟨b, off + k * 2 + 1, none⟩ = some (.slice Ck mk dk) ∧
    IntR w B Ak nk (fs.getD k fm0).1 ∧ ConR w B Ck mk (fs.getD k fm0).2 ∧ (nk : Int) ≤ 9223372036854775807 ∧ (mk : Int) ≤ 9223372036854775807 ∧ nk ≤ ck ∧ (Ck = none → dk = 0))
theorem FrR.below {w w' : World} {B n : Nat} {A : Option Addr} {fs : List Fm} (h : FrR w B A n fs) (hb : Below B w w') : FrR w' B A n fs :=
  ⟨h.1, fun h0 => by
    obtain ⟨b, off, rfl, hB, hc⟩ := h.2 h0
    refine ⟨b, off, rfl, hB, fun k hk => ?_⟩
    obtain ⟨Ak, nk, ck, Ck, mk, dk, c0, c1, t1, t2, m⟩ := hc k hk
    exact ⟨Ak, nk, ck, Ck, mk, dk, (hb.cell (p := ⟨b, off + k * 2, none⟩) hB).trans c0, (hb.cell (p := ⟨b, off + k * 2 + 1, none⟩) hB).trans c1, t1.below hb, t2.below hb, m⟩⟩
theorem FrR.more {w : World} {B B' n : Nat} {A : Option Addr} {fs : List Fm} (h : FrR w B A n fs) (hB : B ≤ B') : FrR w B' A n fs :=
  ⟨h.1, fun h0 => by
    obtain ⟨b, off, rfl, hb, hc⟩ := h.2 h0
    refine ⟨b, off, rfl, by omega, fun k hk => ?_⟩
    obtain ⟨Ak, nk, ck, Ck, mk, dk, c0, c1, t1, t2, m⟩ := hc k hk
    exact ⟨Ak, nk, ck, Ck, mk, dk, c0, c1, t1.more hB, t2.more hB, m⟩⟩
/-- what all frames together hold -/
def ftot (fs : List Fm) : Nat := (fs.map fun p => p.1.length + p.2.length).sum
def fbulk (fs : List Fm) : Nat := fs.length + ftot fs
theorem ftot_take (fs : List Fm) (k : Nat) (hk : k < fs.length) : ftot (fs.take (k + 1)) = ftot (fs.take k) + ((fs.getD k fm0).1.length + (fs.getD k fm0).2.length) := by
  unfold ftot
  rw [List.take_succ_eq_append_getElem hk, List.map_append, List.sum_append]
  congr 1
  simp [List.getD_eq_getElem?_getD, List.getElem?_eq_getElem hk]
theorem ftot_le (fs : List Fm) (k : Nat) : ftot (fs.take k) ≤ ftot fs := by
  unfold ftot
  have h : fs.map (fun p => p.1.length + p.2.length) = (fs.take k).map (fun p => p.1.length + p.2.length) ++ (fs.drop k).map (fun p => p.1.length + p.2.length) := by rw [← List.map_append, List.take_append_drop]
  rw [h, List.sum_append]; exact Nat.le_add_right _ _
theorem ftot_get (fs : List Fm) (k : Nat) (hk : k < fs.length) : (fs.getD k fm0).1.length + (fs.getD k fm0).2.length ≤ ftot fs := by
  have h1 := ftot_take fs k hk
  have h2 := ftot_le fs (k + 1)
  omega
/-- what is left of a bound -/
def szQ (left : Int) (m : Nat) : Int := if left < m then -1 else left - m
theorem szQ_pos {left : Int} {m : Nat} (h : left < m) : szQ left m = -1 := if_pos h
theorem szQ_neg {left : Int} {m : Nat} (h : ¬ left < m) : szQ left m = left - m := if_neg h

set_option maxHeartbeats 400000 in
theorem szIntS_any (A : Option Addr) (n c : Nat) (left : Int) (w : World) (h0 : 0 ≤ left) (h1 : left ≤ 1048576) (hn : (n : Int) ≤ 9223372036854775807) :
    Calls Try.prog 74 #[.slice A n c, .int .i64 left] w fun e w' => e = .returned (.int .i64 (if left < n then -1 else left - n)) ∧ w = w' := by
  go_enter Try.func74, Try.ntmps74
  go_wp2
  all_goals go_ret
  · exact ⟨rfl, rfl⟩
  · exact ⟨rfl, rfl⟩
set_option maxHeartbeats 800000 in
theorem szFrame_any (A : Option Addr) (n c : Nat) (C : Option Addr) (m d : Nat) (left : Int) (w : World) (h0 : 0 ≤ left) (h1 : left ≤ 1048576) (hn : (n : Int) ≤ 9223372036854775807) (hm : (m : Int) ≤ 9223372036854775807) :
    Calls Try.prog 61 #[.agg #[.slice A n c, .slice C m d], .int .i64 left] w fun e w' => e = .returned (.int .i64 (szQ left (n + m))) ∧ Below w.heap.size w w' := by
  have hb := (Below.refl w.heap.size w).alloc (Nat.le_refl _) (.cells #[.slice A n c, .slice C m d] 95)
  by_cases hlt : left < n
  · go_enter Try.func61, Try.ntmps61
    go_wp2_with fail
    refine (szIntS_any A n c left _ h0 h1 hn).mono ?_
    rintro e w' ⟨rfl, rfl⟩
    rw [if_pos (by omega)]
    go_wp2
    go_ret
    exact ⟨by rw [szQ_pos (by omega)]; rfl, hb⟩
  · have hge : ¬ (left - (n : Int) < 0) := by omega
    by_cases hlt2 : left - n < m
    · go_enter Try.func61, Try.ntmps61
      go_wp2_with fail
      refine (szIntS_any A n c left _ h0 h1 hn).mono ?_
      rintro e w' ⟨rfl, rfl⟩
      rw [if_neg (by omega)]
      go_wp2_with fail
      refine (szConS_any C m d (left - n) _ (by omega) (by omega) hm).mono ?_
      rintro e w' ⟨rfl, rfl⟩
      rw [if_pos (by omega)]
      go_wp2
      go_ret
      exact ⟨by rw [szQ_pos (by omega)]; rfl, hb⟩
    · have hge2 : ¬ (left - (n : Int) - (m : Int) < 0) := by omega
      go_enter Try.func61, Try.ntmps61
      go_wp2_with fail
      refine (szIntS_any A n c left _ h0 h1 hn).mono ?_
      rintro e w' ⟨rfl, rfl⟩
      rw [if_neg (by omega)]
      go_wp2_with fail
      refine (szConS_any C m d (left - n) _ (by omega) (by omega) hm).mono ?_
      rintro e w' ⟨rfl, rfl⟩
      rw [if_neg (by omega)]
      go_wp2
      go_ret
      refine ⟨?_, hb⟩
      rw [szQ_neg (by omega), show left - ((n + m : Nat) : Int) = left - n - m by omega]
      rfl

set_option maxRecDepth 100000 in
set_option maxHeartbeats 1600000 in
theorem szFrameS_any (w : World) (B : Nat) (A : Option Addr) (n c : Nat) (fs : List Fm) (left : Int) (hB : B ≤ w.heap.size) (hl : FrR w B A n fs) (hn : (n : Int) ≤ 9223372036854775807) (h0 : 0 ≤ left) (h1 : left ≤ 1048576) :
    Calls Try.prog 42 #[.slice A n c, .int .i64 left] w fun e w' => e = .returned (.int .i64 (szQ left (fbulk fs))) ∧ Below w.heap.size w w' := by
  have hln := hl.1
  by_cases hbig : left < n
  · have HR : Hid (szQ left (fbulk fs) = -1) := by show _ = _; rw [szQ_pos (by unfold fbulk; omega)]
    go_enter Try.func42, Try.ntmps42
    go_wp2
    go_ret
    exact ⟨by rw [HR.out]; rfl, Below.refl _ _⟩
  · have hge : ¬ (left - (n : Int) < 0) := by omega
    go_enter Try.func42, Try.ntmps42
    go_wp2
    go_loopw [1, 5] (fun v i wr => ∃ k : Nat, k ≤ n ∧ i = .int .i64 k ∧ v = .int .i64 (left - n - (ftot (fs.take k) : Nat)) ∧ 0 ≤ left - n - (ftot (fs.take k) : Nat) ∧ Below w.heap.size w wr) (fun _ i _ => n - (intOf i).toNat)
    case atStart => exact ⟨0, Nat.zero_le _, rfl, by simp [ftot], by simp [ftot]; omega, Below.refl _ _⟩
    case round =>
      obtain ⟨k, hk, rfl, rfl, hpos, hbel⟩ := hrel
      have hszr := hbel.size
      by_cases hlt : k < n
      · have hlr := hl.below (hbel.mono hB)
        obtain ⟨b, off, rfl, hb, hc⟩ := hlr.2 (by omega)
        obtain ⟨Ak, nk, ck, Ck, mk, dk, c0, c1, t1, t2, hnk, hmk, _⟩ := hc k hlt
        have htk := ftot_take fs k (by omega)
        rw [t1.1, t2.1] at htk
        have htl := ftot_le fs (k + 1)
        have HL := Lib.hid hl
        obtain ⟨T, hT⟩ : ∃ T, ftot (fs.take k) = T := ⟨_, rfl⟩
        rw [hT] at htk hpos ⊢
        have HK := Lib.hid htk
        have HLE := Lib.hid htl
        clear hl hlr hc t1 t2 hT htk htl
        go_wp2_with fail
        refine (szFrame_any Ak nk ck Ck mk dk (left - n - (T : Nat)) wr hpos (by omega) hnk hmk).mono ?_
        rintro e w1 ⟨rfl, hb1⟩
        have HB1 := Lib.hid (hbel.trans (hb1.mono hszr))
        clear hb1 hbel
        by_cases hs : left - n - (T : Nat) < ((nk + mk : Nat) : Int)
        · rw [szQ_pos hs]
          have HR : Hid (szQ left (fbulk fs) = -1) := by show _ = _; rw [szQ_pos (by unfold fbulk; have := HK.out; have := HLE.out; omega)]
          go_wp2
          go_ret
          exact ⟨by rw [HR.out]; rfl, HB1.out⟩
        · rw [szQ_neg hs]
          obtain ⟨z, hz⟩ : ∃ z : Int, left - n - (T : Nat) - ((nk + mk : Nat) : Int) = z := ⟨_, rfl⟩
          have hge2 : ¬ (z < 0) := by omega
          have HZ := Lib.hid hz
          rw [hz]
          clear hz
          go_wp2
          go_roundw
          case rel => exact ⟨k + 1, by omega, by go_num, by rw [HK.out, ← HZ.out]; congr 1; omega, by rw [HK.out]; have := HZ.out; omega, HB1.out⟩
          case measure => simp [intOf]; omega
      · obtain rfl : k = n := by omega
        have ht : ftot (fs.take k) = ftot fs := by rw [List.take_of_length_le (by omega)]
        rw [ht] at hpos ⊢
        have HR : Hid (szQ left (fbulk fs) = left - k - (ftot fs : Nat)) := by show _ = _; rw [szQ_neg (by unfold fbulk; omega)]; unfold fbulk; omega
        clear ht
        go_wp2
        go_ret
        exact ⟨by rw [HR.out]; rfl, hbel⟩

set_option maxHeartbeats 800000 in
theorem szSess_any (w : World) (B : Nat) (A : Option Addr) (n c : Nat) (fs : List Fm) (left : Int) (hB : B ≤ w.heap.size) (hl : FrR w B A n fs) (hn : (n : Int) ≤ 9223372036854775807) (h0 : 0 ≤ left) (h1 : left ≤ 1048576) :
    Calls Try.prog 18 #[.agg #[.slice A n c], .int .i64 left] w fun e w' => e = .returned (.int .i64 (szQ left (fbulk fs))) ∧ Below w.heap.size w w' := by
  have hb := (Below.refl w.heap.size w).alloc (Nat.le_refl _) (.cells #[.slice A n c] 37)
  have hl' := hl.below (hb.mono hB)
  have HB := Lib.hid hb
  clear hb
  by_cases hs : left < (fbulk fs : Nat)
  · have HR : Hid (szQ left (fbulk fs) = -1) := szQ_pos hs
    go_enter Try.func18, Try.ntmps18
    go_wp2_with fail
    refine (szFrameS_any _ B A n c fs left (by simp; omega) hl' hn h0 h1).mono ?_
    rintro e w' ⟨rfl, hb1⟩
    have HB1 := Lib.hid (HB.out.trans (hb1.mono (by simp)))
    clear hb1
    rw [HR.out]
    go_wp2
    go_ret
    exact ⟨by rw [HR.out]; rfl, HB1.out⟩
  · have HR : Hid (szQ left (fbulk fs) = left - (fbulk fs : Nat)) := szQ_neg hs
    have hge : ¬ (left - ((fbulk fs : Nat) : Int) < 0) := by omega
    go_enter Try.func18, Try.ntmps18
    go_wp2_with fail
    refine (szFrameS_any _ B A n c fs left (by simp; omega) hl' hn h0 h1).mono ?_
    rintro e w' ⟨rfl, hb1⟩
    have HB1 := Lib.hid (HB.out.trans (hb1.mono (by simp)))
    clear hb1
    rw [HR.out]
    go_wp2
    go_ret
    exact ⟨by rw [HR.out]; rfl, HB1.out⟩
end Go.Proofs.Ytfmhmnpmdjpmeaa

/- Plain functions on norms as lists of pairs of numbers (Param, Off): validity index by index, the norm of a list of atoms, values. Nothing of the program is imported. -/
namespace Go.Proofs.Ytfmhmnpmdjpmeaa.Nm

abbrev At := Int × Int

def atOk (a : At) : Bool := decide (-1 ≤ a.1) && decide (a.1 < 5) && decide (0 ≤ a.2) && decide (a.2 ≤ 1000)
theorem atOk_iff (a : At) : atOk a = true ↔ -1 ≤ a.1 ∧ a.1 < 5 ∧ 0 ≤ a.2 ∧ a.2 ≤ 1000 := by simp [atOk, and_assoc]

def AllOk (l : List At) : Prop := ∀ k, k < l.length → atOk (l.getD k (0, 0)) = true
def Incr (l : List At) : Prop := ∀ k, 0 < k → k < l.length → (l.getD (k - 1) (0, 0)).1 < (l.getD k (0, 0)).1
def Exceeds (x : Int) (l : List At) : Prop := ∀ k, k < l.length → (l.getD k (0, 0)).2 < x
def Ok (l : List At) : Prop := 1 ≤ l.length ∧ AllOk l ∧ Incr l ∧ ((l.getD 0 (0, 0)).1 = -1 → Exceeds (l.getD 0 (0, 0)).2 (l.drop 1))

open Classical in
noncomputable def allOk (l : List At) : Bool := decide (AllOk l)
theorem getD_drop1 (l : List At) (k : Nat) : (l.drop 1).getD k (0, 0) = l.getD (k + 1) (0, 0) := by
  simp [List.getD_eq_getElem?_getD]

/-- strictly increasing params: of any two the later one is greater -/
theorem Incr.lt {l : List At} (h : Incr l) {i j : Nat} (hij : i < j) (hj : j < l.length) : (l.getD i (0, 0)).1 < (l.getD j (0, 0)).1 := by
  induction j with
  | zero => omega
  | succ j ih =>
    have h1 := h (j + 1) (by omega) hj
    simp only [Nat.add_sub_cancel] at h1
    by_cases e : i = j
    · subst e; exact h1
    · have := ih (by omega) (by omega); omega
theorem Ok.len {l : List At} (h : Ok l) : l.length ≤ 6 := by
  have H : ∀ k, k < l.length → (k : Int) - 1 ≤ (l.getD k (0, 0)).1 := by
    intro k
    induction k with
    | zero => intro hk; have := (atOk_iff _).1 (h.2.1 0 hk); omega
    | succ k ih =>
      intro hk
      have h1 := ih (by omega)
      have h2 := h.2.2.1 (k + 1) (by omega) hk
      simp only [Nat.add_sub_cancel] at h2
      omega
  by_cases hl : l.length ≤ 6
  · exact hl
  · have h1 := H 6 (by omega)
    have h2 := (atOk_iff _).1 (h.2.1 6 (by omega))
    omega

/-- the greatest Off of the atoms with that Param; -1 if there is none -/
def best (p : Int) : List At → Int
  | [] => -1
  | a :: r => if a.1 = p then max a.2 (best p r) else best p r
theorem best_ge (p : Int) (l : List At) : -1 ≤ best p l := by
  induction l with
  | nil => simp [best]
  | cons a r ih => simp only [best]; split <;> omega
/-- an atom's Off is at most the best one of its Param -/
theorem best_mem {p x : Int} {l : List At} (h : (p, x) ∈ l) : x ≤ best p l := by
  induction l with
  | nil => simp at h
  | cons a r ih =>
    simp only [best]
    rcases List.mem_cons.1 h with rfl | h
    · simp; omega
    · have := ih h; split <;> omega
theorem best_at {p : Int} {l : List At} (h : best p l ≠ -1) : (p, best p l) ∈ l := by
  induction l with
  | nil => simp [best] at h
  | cons a r ih =>
    simp only [best] at h ⊢
    obtain ⟨a1, a2⟩ := a
    by_cases e : a1 = p
    · subst e
      simp only [if_true] at h ⊢
      by_cases hm : best a1 r ≤ a2
      · rw [show max a2 (best a1 r) = a2 by omega]; simp
      · rw [show max a2 (best a1 r) = best a1 r by omega] at h ⊢
        exact List.mem_cons_of_mem _ (ih h)
    · simp only [e, if_false] at h ⊢
      exact List.mem_cons_of_mem _ (ih h)

/-- the atoms with params 0 .. n - 1 of the norm -/
def pars (l : List At) : Nat → List At
  | 0 => []
  | n + 1 => pars l n ++ if 0 ≤ best n l then [((n : Int), best n l)] else []
/-- the greatest Off among params 0 .. n - 1; -1 if there is none -/
def most (l : List At) : Nat → Int
  | 0 => -1
  | n + 1 => max (most l n) (best n l)
theorem most_ge (l : List At) (n : Nat) : -1 ≤ most l n := by
  induction n with
  | zero => simp [most]
  | succ n ih => simp only [most]; omega
/-- the norm -/
def norm (l : List At) : List At := (if most l 5 < best (-1) l then [((-1 : Int), best (-1) l)] else []) ++ pars l 5
def up (k : Int) (l : List At) : List At := l.map fun a => (a.1, a.2 + k)
/-- the value of an atom -/
def val (env : List Int) (a : At) : Int := if a.1 = -1 then a.2 else env.getD a.1.toNat 0 + a.2
def value (env : List Int) : List At → Int
  | [] => 0
  | a :: r => max (val env a) (value env r)
theorem value_ge (env : List Int) (l : List At) : 0 ≤ value env l := by
  induction l with
  | nil => simp [value]
  | cons a r ih => simp only [value]; omega
theorem value_append (env : List Int) (a b : List At) : value env (a ++ b) = max (value env a) (value env b) := by
  induction a with
  | nil => simp only [List.nil_append, value]; have := value_ge env b; omega
  | cons x r ih => simp only [List.cons_append, value, ih]; omega
end Go.Proofs.Ytfmhmnpmdjpmeaa.Nm
