/- The laws' own helpers on constraints and slices of them: sizes, copies, comparison, marks. -/
/- The law FnExactLeUnder: the walk. -/
import Derived.Test.YtmbcjddahncocaaDoorCoMem
import Derived.Test.YtmbcjddahncocaaDoorUnLe
import Derived.Test.YtmbcjddahncocaaDoorMeth

namespace Go.Proofs.YtmbcjddahncocaaDoor
open Go.RowKit
open Cs (Cn)

set_option maxHeartbeats 400000 in
theorem szConS_any (A : Option Addr) (n c : Nat) (left : Int) (w : World) (h0 : 0 ≤ left) (h1 : left ≤ 1048576) (hn : (n : Int) ≤ 9223372036854775807) :
    Calls Tryd.prog 43 #[.slice A n c, .int .i64 left] w fun e w' => e = .returned (.int .i64 (if left < n then -1 else left - n)) ∧ w = w' := by
  go_enter Tryd.func43, Tryd.ntmps43
  go_wp2
  all_goals go_ret
  · exact ⟨rfl, rfl⟩
  · exact ⟨rfl, rfl⟩

set_option maxHeartbeats 400000 in
theorem toCon_any (U R V : Int) (w : World) :
    Calls Tryd.prog 103 #[.agg #[.int .i64 U, .int .i64 R, .int .i64 V]] w fun e w' => e = .returned (.agg #[.int .i64 U, .int .i64 R, .int .i64 V]) ∧ Below w.heap.size w w' := by
  go_enter Tryd.func103, Tryd.ntmps103
  go_wp2
  exact bodyPost_ret (v := .agg #[.int .i64 U, .int .i64 R, .int .i64 V]) (by simp [results, Tryd.results103, go_sem]) rfl ⟨rfl, (((Below.refl _ _).alloc (Nat.le_refl _) _).alloc (by simp) _).alloc (by simp; omega) _⟩

/-- block g is a row of just n constraints, those of l -/
def ConOwn (w : World) (g n : Nat) (l : List Cn) : Prop :=
  l.length = n ∧ ∃ cs, Blk w g 39 cs ∧ cs.size = n * 3 ∧ ∀ k, k < n → cs[k * 3]? = some (.int .i64 (l.getD k (0, 0, 0)).1) ∧ cs[k * 3 + 1]? = some (.int .i64 (l.getD k (0, 0, 0)).2.1) ∧ cs[k * 3 + 2]? = some (.int .i64 (l.getD k (0, 0, 0)).2.2)
theorem ConOwn.lt {w : World} {g n : Nat} {l : List Cn} (h : ConOwn w g n l) : g + 1 ≤ w.heap.size := by obtain ⟨_, cs, hblk, _⟩ := h; exact hblk.lt
theorem ConOwn.reads {w : World} {g n : Nat} {l : List Cn} (h : ConOwn w g n l) : ConR w (g + 1) (some ⟨g, 0, none⟩) n l := by
  obtain ⟨hl, cs, hb, hs, hc⟩ := h
  refine ⟨hl, fun _ => ⟨g, 0, rfl, by omega, fun k hk => ?_⟩⟩
  rw [hb.cell, hb.cell, hb.cell, Nat.zero_add]
  exact hc k hk
theorem ConOwn.below {w w' : World} {g n B : Nat} {l : List Cn} (h : ConOwn w g n l) (hb : Below B w w') (hg : g < B) : ConOwn w' g n l := by
  obtain ⟨hl, cs, hblk, rest⟩ := h
  exact ⟨hl, cs, hblk.below hb hg, rest⟩
/-- the row of constraints that is being filled: the first k of them are there -/
def FillC (w : World) (g n k : Nat) (l : List Cn) (wr : World) : Prop :=
  Below w.heap.size w wr ∧ ∃ cs, Blk wr g 39 cs ∧ cs.size = n * 3 ∧ ∀ j, j < k → cs[j * 3]? = some (.int .i64 (l.getD j (0, 0, 0)).1) ∧ cs[j * 3 + 1]? = some (.int .i64 (l.getD j (0, 0, 0)).2.1) ∧ cs[j * 3 + 2]? = some (.int .i64 (l.getD j (0, 0, 0)).2.2)
theorem fillC_step {w wr w1 : World} {n k : Nat} {l : List Cn} {a b d : Int} (h : FillC w w.heap.size n k l wr) (hb : Below wr.heap.size wr w1) (hk : k < n) (ht : l.getD k (0, 0, 0) = (a, b, d)) :
    FillC w w.heap.size n (k + 1) l (((w1.setCell ⟨w.heap.size, k * 3, none⟩ (.int .i64 a)).setCell ⟨w.heap.size, k * 3 + 1, none⟩ (.int .i64 b)).setCell ⟨w.heap.size, k * 3 + 2, none⟩ (.int .i64 d)) := by
  obtain ⟨hbel, cs, hblk, hs, hc⟩ := h
  have hblk1 := hblk.below hb hblk.lt
  refine ⟨(((hbel.trans (hb.mono hbel.size)).setCell (p := ⟨w.heap.size, k * 3, none⟩) (Nat.le_refl _) _).setCell (p := ⟨w.heap.size, k * 3 + 1, none⟩) (Nat.le_refl _) _).setCell (p := ⟨w.heap.size, k * 3 + 2, none⟩) (Nat.le_refl _) _, _, ((hblk1.put _ _).put _ _).put _ _, by simp [hs], ?_⟩
  intro j hj
  by_cases e : j = k
  · subst e
    rw [ht]
    refine ⟨?_, ?_, ?_⟩
    · rw [Array.getElem?_setIfInBounds_ne (by omega), Array.getElem?_setIfInBounds_ne (by omega), Array.getElem?_setIfInBounds_self_of_lt (by omega)]
    · rw [Array.getElem?_setIfInBounds_ne (by omega), Array.getElem?_setIfInBounds_self_of_lt (by simp; omega)]
    · rw [Array.getElem?_setIfInBounds_self_of_lt (by simp; omega)]
  · obtain ⟨x, y, z⟩ := hc j (by omega)
    refine ⟨?_, ?_, ?_⟩
    · rw [Array.getElem?_setIfInBounds_ne (by omega), Array.getElem?_setIfInBounds_ne (by omega), Array.getElem?_setIfInBounds_ne (by omega)]; exact x
    · rw [Array.getElem?_setIfInBounds_ne (by omega), Array.getElem?_setIfInBounds_ne (by omega), Array.getElem?_setIfInBounds_ne (by omega)]; exact y
    · rw [Array.getElem?_setIfInBounds_ne (by omega), Array.getElem?_setIfInBounds_ne (by omega), Array.getElem?_setIfInBounds_ne (by omega)]; exact z

set_option maxHeartbeats 800000 in
theorem toConS_any (w : World) (B : Nat) (A : Option Addr) (n c : Nat) (l : List Cn) (hB : B ≤ w.heap.size) (hl : ConR w B A n l) (hn : n ≤ 1048576) :
    Calls Tryd.prog 45 #[.slice A n c] w fun e w' => e = .returned (.slice (some ⟨w.heap.size, 0, none⟩) n n) ∧ Below w.heap.size w w' ∧ ConOwn w' w.heap.size n l := by
  obtain ⟨i0, hi, hz0, hz1, hz2⟩ := info_parts info_con
  have hmk : ∀ wx, (Instr.makeSlice 37 (.int .i64 (n : Int)) (.int .i64 (n : Int))).run Tryd.prog wx = .ok (.slice (some ⟨wx.heap.size, 0, none⟩) n n) (wx.alloc (.cells (madeCells (Value.agg #[.int .i64 0, .int .i64 0, .int .i64 0]).cells (n * 3)) 39)) := by
    intro wx
    have hr := run_make (P := Tryd.prog) wx 37 39 i0 _ Tryd.underlying37 hi hz0 .i64 .i64 n n (by omega) (by omega) (by rw [hz2]; omega) (by omega)
    simp only [Int.toNat_natCast, hz1] at hr
    exact hr
  have hstart : FillC w w.heap.size n 0 l (w.alloc (.cells (madeCells (Value.agg #[.int .i64 0, .int .i64 0, .int .i64 0]).cells (n * 3)) 39)) :=
    ⟨(Below.refl _ _).alloc (Nat.le_refl _) _, _, Blk.made _ _ _, by simp [madeCells], by intro j hj; omega⟩
  have HS := Lib.hid hstart
  clear hstart hi hz0 hz1 hz2
  go_enter Tryd.func45, Tryd.ntmps45
  go_wp2
  go_loopw [4] (fun i wr => ∃ k : Nat, k ≤ n ∧ i = .int .i64 k ∧ FillC w w.heap.size n k l wr) (fun i _ => n - (intOf i).toNat)
  case atStart => exact ⟨0, Nat.zero_le _, rfl, HS.out⟩
  case round =>
    obtain ⟨k, hk, rfl, hF⟩ := hrel
    by_cases hlt : k < n
    · obtain ⟨b, off, rfl, hb, hc⟩ := hl.2 (by omega)
      obtain ⟨c1, c2, c3⟩ := hc k hlt
      obtain ⟨t, ht⟩ : ∃ t, l.getD k (0, 0, 0) = t := ⟨_, rfl⟩
      rw [ht] at c1 c2 c3
      obtain ⟨U, R, V⟩ := t
      have hbel := hF.1
      have k1 := (hbel.cell (p := ⟨b, off + k * 3, none⟩) (by show b < _; omega)).trans c1
      have k2 := (hbel.cell (p := ⟨b, off + k * 3 + 1, none⟩) (by show b < _; omega)).trans c2
      have k3 := (hbel.cell (p := ⟨b, off + k * 3 + 2, none⟩) (by show b < _; omega)).trans c3
      have HT := Lib.hid ht
      have HF := Lib.hid hF
      have hszr := hbel.size
      clear c1 c2 c3 hc ht
      go_wp2_with fail
      refine (toCon_any _ _ _ _).mono ?_
      rintro e w1 ⟨rfl, hb1⟩
      obtain ⟨_, cs, hblk, hs, _⟩ := HF.out
      have hblk1 := hblk.below hb1 hblk.lt
      have hlt1 := hblk1.lt
      have f1 := hblk1.thawed (k * 3)
      have f2 := hblk1.thawed (k * 3 + 1)
      have f3 := hblk1.thawed (k * 3 + 2)
      obtain ⟨v1, e1⟩ : ∃ v1, w1.cell? ⟨w.heap.size, k * 3, none⟩ = some v1 := ⟨_, (hblk1.cell _).trans (Array.getElem?_eq_getElem (by omega))⟩
      obtain ⟨v2, e2⟩ : ∃ v2, w1.cell? ⟨w.heap.size, k * 3 + 1, none⟩ = some v2 := ⟨_, (hblk1.cell _).trans (Array.getElem?_eq_getElem (by omega))⟩
      obtain ⟨v3, e3⟩ : ∃ v3, w1.cell? ⟨w.heap.size, k * 3 + 2, none⟩ = some v3 := ⟨_, (hblk1.cell _).trans (Array.getElem?_eq_getElem (by omega))⟩
      have HN := Lib.hid (fillC_step HF.out hb1 hlt HT.out)
      clear hblk hblk1 hs hF
      go_wp2
      go_roundw
      case rel => exact ⟨k + 1, by omega, by go_num, HN.out⟩
      case measure => simp [intOf]; omega
    · obtain rfl : k = n := by omega
      obtain ⟨hbel, hcs⟩ := hF
      have HC := Lib.hid hcs
      clear hcs
      go_wp2
      go_ret
      exact ⟨rfl, hbel, hl.1, HC.out⟩

set_option maxHeartbeats 800000 in
theorem eqCon_any (a b c p q r : Int) (w : World) :
    Calls Tryd.prog 105 #[.agg #[.int .i64 a, .int .i64 b, .int .i64 c], .agg #[.int .i64 p, .int .i64 q, .int .i64 r]] w fun e w' => e = .returned (.bool (decide ((a, b, c) = (p, q, r)))) ∧ Below w.heap.size w w' := by
  have hb : Below w.heap.size w ((w.alloc (.cells #[.int .i64 a, .int .i64 b, .int .i64 c] 39)).alloc (.cells #[.int .i64 p, .int .i64 q, .int .i64 r] 39)) := ((Below.refl _ _).alloc (Nat.le_refl _) _).alloc (by simp) _
  have HB := Lib.hid hb
  clear hb
  by_cases h1 : a = p
  · subst h1
    by_cases h2 : b = q
    · subst h2
      by_cases h3 : c = r
      · subst h3
        go_enter Tryd.func105, Tryd.ntmps105
        go_wp2
        go_ret
        exact ⟨ret_bool (by simp), HB.out⟩
      · have e3 : (c != r) = true := by simpa using h3
        have HD : Hid (decide ((a, b, c) = (a, b, r)) = false) := by show _ = _; simp [h3]
        clear h3
        go_enter Tryd.func105, Tryd.ntmps105
        go_wp2
        go_ret
        exact ⟨by rw [HD.out]; rfl, HB.out⟩
    · have e2 : (b != q) = true := by simpa using h2
      have HD : Hid (decide ((a, b, c) = (a, q, r)) = false) := by show _ = _; simp [h2]
      clear h2
      go_enter Tryd.func105, Tryd.ntmps105
      go_wp2
      go_ret
      exact ⟨by rw [HD.out]; rfl, HB.out⟩
  · have e1 : (a != p) = true := by simpa using h1
    have HD : Hid (decide ((a, b, c) = (p, q, r)) = false) := by show _ = _; simp [h1]
    clear h1
    go_enter Tryd.func105, Tryd.ntmps105
    go_wp2
    go_ret
    exact ⟨by rw [HD.out]; rfl, HB.out⟩

set_option maxRecDepth 100000 in
set_option maxHeartbeats 1000000 in
theorem eqConS_any (w : World) (B : Nat) (A1 A2 : Option Addr) (n1 n2 c1 c2 : Nat) (l m : List Cn) (hB : B ≤ w.heap.size) (hl : ConR w B A1 n1 l) (hm : ConR w B A2 n2 m)
    (hn1 : (n1 : Int) ≤ 140737488355328) (hn2 : (n2 : Int) ≤ 140737488355328) :
    Calls Tryd.prog 47 #[.slice A1 n1 c1, .slice A2 n2 c2] w fun e w' => e = .returned (.bool (decide (l = m))) ∧ Below w.heap.size w w' := by
  by_cases hne : n1 = n2
  · subst hne
    have en : ((n1 : Int) != (n1 : Int)) = false := by simp
    go_enter Tryd.func47, Tryd.ntmps47
    go_wp2
    go_loopw [5] (fun i wr => ∃ k : Nat, k ≤ n1 ∧ i = .int .i64 k ∧ Agree (0, 0, 0) k l m ∧ Below w.heap.size w wr) (fun i _ => n1 - (intOf i).toNat)
    case atStart => exact ⟨0, Nat.zero_le _, rfl, (fun j hj => absurd hj (by omega)), Below.refl _ _⟩
    case round =>
      obtain ⟨k, hk, rfl, hag, hbel⟩ := hrel
      have HG := Lib.hid hag
      clear hag
      by_cases hlt : k < n1
      · obtain ⟨b, off, rfl, hb, hc⟩ := hl.2 (by omega)
        obtain ⟨x1, x2, x3⟩ := hc k hlt
        obtain ⟨b', off', rfl, hb', hc'⟩ := hm.2 (by omega)
        obtain ⟨y1, y2, y3⟩ := hc' k hlt
        have HL := Lib.hid hl
        have HM := Lib.hid hm
        obtain ⟨t, ht⟩ : ∃ t, l.getD k (0, 0, 0) = t := ⟨_, rfl⟩
        obtain ⟨u, hu⟩ : ∃ u, m.getD k (0, 0, 0) = u := ⟨_, rfl⟩
        rw [ht] at x1 x2 x3
        rw [hu] at y1 y2 y3
        obtain ⟨p, q, r⟩ := t
        obtain ⟨p', q', r'⟩ := u
        have HT := Lib.hid ht
        have HU := Lib.hid hu
        have k1 := (hbel.cell (p := ⟨b, off + k * 3, none⟩) (by show b < _; omega)).trans x1
        have k2 := (hbel.cell (p := ⟨b, off + k * 3 + 1, none⟩) (by show b < _; omega)).trans x2
        have k3 := (hbel.cell (p := ⟨b, off + k * 3 + 2, none⟩) (by show b < _; omega)).trans x3
        have k4 := (hbel.cell (p := ⟨b', off' + k * 3, none⟩) (by show b' < _; omega)).trans y1
        have k5 := (hbel.cell (p := ⟨b', off' + k * 3 + 1, none⟩) (by show b' < _; omega)).trans y2
        have k6 := (hbel.cell (p := ⟨b', off' + k * 3 + 2, none⟩) (by show b' < _; omega)).trans y3
        clear x1 x2 x3 y1 y2 y3 hc hc' ht hu hl hm
        go_wp2_with fail
        refine region_tail 8 (by kernel_rfl) (by kernel_rfl) ?_
        simp only [List.take_succ_cons, List.take_zero, List.drop_succ_cons, List.drop_zero]
        repeat still_step
        refine wpStill_nil ?_
        go_wp2_with fail
        refine (eqCon_any p q r p' q' r' _).mono ?_
        rintro e w1 ⟨rfl, hb1⟩
        have HB := Lib.hid (hbel.drew.trans (hb1.mono hbel.size))
        clear hb1
        by_cases heq : (p, q, r) = (p', q', r')
        · have HA : Hid (Agree (0, 0, 0) (k + 1) l m) := agree_step HG.out (by rw [HT.out, HU.out, heq])
          rw [decide_eq_true heq]
          clear heq
          go_wp2
          go_roundw
          case rel => exact ⟨k + 1, by omega, by go_num, HA.out, HB.out⟩
          case measure => simp [intOf]; omega
        · have HF : Hid (decide (l = m) = false) := by
            show _ = _
            rw [decide_eq_false_iff_not]
            intro h
            apply heq
            rw [← HT.out, ← HU.out, h]
          rw [decide_eq_false heq]
          clear heq
          go_wp2
          go_ret
          exact ⟨by rw [HF.out]; rfl, HB.out⟩
      · obtain rfl : k = n1 := by omega
        have HF : Hid (decide (l = m) = true) := by
          show _ = _
          rw [decide_eq_true_eq]
          exact agree_all hl.1 hm.1 HG.out
        clear hl hm
        go_wp2
        go_ret
        exact ⟨by rw [HF.out]; rfl, hbel⟩
  · have HF : Hid (decide (l = m) = false) := by
      show _ = _
      rw [decide_eq_false_iff_not]
      intro h
      apply hne
      rw [← hl.1, ← hm.1, h]
    have en : ((n1 : Int) != (n2 : Int)) = true := by simp; omega
    clear hl hm hne
    go_enter Tryd.func47, Tryd.ntmps47
    go_wp2
    go_ret
    exact ⟨by rw [HF.out]; rfl, Below.refl _ _⟩
end Go.Proofs.YtmbcjddahncocaaDoor

namespace Go.Proofs.YtmbcjddahncocaaDoor
open Go.RowKit

set_option maxRecDepth 100000 in
set_option maxHeartbeats 4000000 in
theorem leUnderLaw_any (w : World) (B : Nat) (A0 : Option Addr) (n0 c0 : Nat) (l0 : List Cs.Cn) (A1 : Option Addr) (n1 c1 : Nat) (l1 : List (Int × Int)) (A2 : Option Addr) (n2 c2 : Nat) (l2 : List (Int × Int)) (T : TypeId) (pv : Value) (h0 : 0 < B) (Tc : TypeId) (pc : Value) (h0c : 1 < B) (hB : B ≤ w.heap.size)
    (hl0 : ConR w B A0 n0 l0) (hn0 : (n0 : Int) ≤ 9223372036854775807) (hl1 : TokR w B A1 n1 l1) (hn1 : (n1 : Int) ≤ 9223372036854775807) (hl2 : TokR w B A2 n2 l2) (hn2 : (n2 : Int) ≤ 9223372036854775807) (hE : ErrAt w T pv) (hEc : ErrCAt w Tc pc) :
    Calls Tryd.prog 8 #[.slice A0 n0 c0, .slice A1 n1 c1, .slice A2 n2 c2] w fun e w' => e = .returned (.bool true) ∧ Below w.heap.size w w' := by
  by_cases hbig0 : 1048576 < (n0 : Int)
  · go_enter Tryd.func8, Tryd.ntmps8
    go_wp2_with fail
    refine (szConS_any A0 n0 c0 (1048576) w (by omega) (by omega) hn0).mono ?_
    rintro e w' ⟨rfl, rfl⟩
    rw [if_pos (by omega)]
    go_wp2
    go_ret
    exact ⟨rfl, Below.refl _ _⟩
  · skip
    by_cases hbig1 : 1048576 - (n0 : Int) < (n1 : Int)
    · go_enter Tryd.func8, Tryd.ntmps8
      go_wp2_with fail
      refine (szConS_any A0 n0 c0 (1048576) w (by omega) (by omega) hn0).mono ?_
      rintro e w' ⟨rfl, rfl⟩
      rw [if_neg (by omega)]
      have hs0 : ¬ (1048576 - (n0 : Int) < 0) := by omega
      go_wp2_with fail
      refine (szTokS_any A1 n1 c1 (1048576 - (n0 : Int)) w (by omega) (by omega) hn1).mono ?_
      rintro e w' ⟨rfl, rfl⟩
      rw [if_pos (by omega)]
      go_wp2
      go_ret
      exact ⟨rfl, Below.refl _ _⟩
    · skip
      by_cases hbig2 : 1048576 - (n0 : Int) - (n1 : Int) < (n2 : Int)
      · go_enter Tryd.func8, Tryd.ntmps8
        go_wp2_with fail
        refine (szConS_any A0 n0 c0 (1048576) w (by omega) (by omega) hn0).mono ?_
        rintro e w' ⟨rfl, rfl⟩
        rw [if_neg (by omega)]
        have hs0 : ¬ (1048576 - (n0 : Int) < 0) := by omega
        go_wp2_with fail
        refine (szTokS_any A1 n1 c1 (1048576 - (n0 : Int)) w (by omega) (by omega) hn1).mono ?_
        rintro e w' ⟨rfl, rfl⟩
        rw [if_neg (by omega)]
        have hs1 : ¬ (1048576 - (n0 : Int) - (n1 : Int) < 0) := by omega
        go_wp2_with fail
        refine (szTokS_any A2 n2 c2 (1048576 - (n0 : Int) - (n1 : Int)) w (by omega) (by omega) hn2).mono ?_
        rintro e w' ⟨rfl, rfl⟩
        rw [if_pos (by omega)]
        go_wp2
        go_ret
        exact ⟨rfl, Below.refl _ _⟩
      · skip
        have hm0 : n0 ≤ 1048576 := by omega
        have hm1 : n1 ≤ 1048576 := by omega
        have hm2 : n2 ≤ 1048576 := by omega
        go_enter Tryd.func8, Tryd.ntmps8
        go_wp2_with fail
        refine (szConS_any A0 n0 c0 (1048576) w (by omega) (by omega) hn0).mono ?_
        rintro e w' ⟨rfl, rfl⟩
        rw [if_neg (by omega)]
        have hs0 : ¬ (1048576 - (n0 : Int) < 0) := by omega
        go_wp2_with fail
        refine (szTokS_any A1 n1 c1 (1048576 - (n0 : Int)) w (by omega) (by omega) hn1).mono ?_
        rintro e w' ⟨rfl, rfl⟩
        rw [if_neg (by omega)]
        have hs1 : ¬ (1048576 - (n0 : Int) - (n1 : Int) < 0) := by omega
        go_wp2_with fail
        refine (szTokS_any A2 n2 c2 (1048576 - (n0 : Int) - (n1 : Int)) w (by omega) (by omega) hn2).mono ?_
        rintro e w' ⟨rfl, rfl⟩
        rw [if_neg (by omega)]
        have hs2 : ¬ (1048576 - (n0 : Int) - (n1 : Int) - (n2 : Int) < 0) := by omega
        have hB0 : Below w.heap.size w w := Below.refl _ _
        go_wp2_with fail
        refine (toConS_any w B A0 n0 c0 l0 (Nat.le_trans hB hB0.size) (hl0.below (hB0.mono hB)) hm0).mono ?_
        rintro e w1 ⟨rfl, hb1, p0x1⟩
        have hz1 : w.heap.size + 1 ≤ w1.heap.size := by obtain ⟨_, cs, hblk, _⟩ := p0x1; exact hblk.lt
        have hB1 : Below w.heap.size w w1 := hB0.trans (hb1.mono hB0.size)
        have s1 := hb1.size
        go_wp2_with fail
        refine (toTokS_any w1 B A1 n1 c1 l1 (Nat.le_trans hB hB1.size) (hl1.below (hB1.mono hB)) hm1).mono ?_
        rintro e w2 ⟨rfl, hb2, p1x2⟩
        have hz2 : w1.heap.size + 1 ≤ w2.heap.size := by obtain ⟨_, cs, hblk, _⟩ := p1x2; exact hblk.lt
        have hB2 : Below w.heap.size w w2 := hB1.trans (hb2.mono hB1.size)
        have s2 := hb2.size
        have p0x2 := p0x1.below hb2 (by omega)
        clear p0x1
        go_wp2_with fail
        refine (toTokS_any w2 B A2 n2 c2 l2 (Nat.le_trans hB hB2.size) (hl2.below (hB2.mono hB)) hm2).mono ?_
        rintro e w3 ⟨rfl, hb3, p2x3⟩
        have hz3 : w2.heap.size + 1 ≤ w3.heap.size := by obtain ⟨_, cs, hblk, _⟩ := p2x3; exact hblk.lt
        have hB3 : Below w.heap.size w w3 := hB2.trans (hb3.mono hB2.size)
        have s3 := hb3.size
        have p0x3 := p0x2.below hb3 (by omega)
        clear p0x2
        have p1x3 := p1x2.below hb3 (by omega)
        clear p1x2
        go_wp2_with fail
        refine (specLeUnder_any w3 w3.heap.size _ 0 n0 n0 l0 (some ⟨w1.heap.size, 0, none⟩) n1 n1 l1 (some ⟨w2.heap.size, 0, none⟩) n2 n2 l2 (Nat.le_refl _) (p0x3.reads.more (by omega)) (by omega) (p1x3.reads.more (by omega)) (by omega) (p2x3.reads.more (by omega)) (by omega)).mono ?_
        rintro e w4 ⟨rfl, hb4⟩
        have hB4 : Below w.heap.size w w4 := hB3.trans (hb4.mono hB3.size)
        have s4 := hb4.size
        have p0x4 := p0x3.below hb4 (by omega)
        clear p0x3
        have p1x4 := p1x3.below hb4 (by omega)
        clear p1x3
        have p2x4 := p2x3.below hb4 (by omega)
        clear p2x3
        clear p0x4
        clear p1x4
        clear p2x4
        go_wp2_with fail
        refine (toConS_any w4 B A0 n0 c0 l0 (Nat.le_trans hB hB4.size) (hl0.below (hB4.mono hB)) hm0).mono ?_
        rintro e w5 ⟨rfl, hb5, x0x5⟩
        have hz5 : w4.heap.size + 1 ≤ w5.heap.size := by obtain ⟨_, cs, hblk, _⟩ := x0x5; exact hblk.lt
        have hB5 : Below w.heap.size w w5 := hB4.trans (hb5.mono hB4.size)
        have s5 := hb5.size
        go_wp2_with fail
        refine (toTokS_any w5 B A1 n1 c1 l1 (Nat.le_trans hB hB5.size) (hl1.below (hB5.mono hB)) hm1).mono ?_
        rintro e w6 ⟨rfl, hb6, x1x6⟩
        have hz6 : w5.heap.size + 1 ≤ w6.heap.size := by obtain ⟨_, cs, hblk, _⟩ := x1x6; exact hblk.lt
        have hB6 : Below w.heap.size w w6 := hB5.trans (hb6.mono hB5.size)
        have s6 := hb6.size
        have x0x6 := x0x5.below hb6 (by omega)
        clear x0x5
        go_wp2_with fail
        refine (toTokS_any w6 B A2 n2 c2 l2 (Nat.le_trans hB hB6.size) (hl2.below (hB6.mono hB)) hm2).mono ?_
        rintro e w7 ⟨rfl, hb7, x2x7⟩
        have hz7 : w6.heap.size + 1 ≤ w7.heap.size := by obtain ⟨_, cs, hblk, _⟩ := x2x7; exact hblk.lt
        have hB7 : Below w.heap.size w w7 := hB6.trans (hb7.mono hB6.size)
        have s7 := hb7.size
        have x0x7 := x0x6.below hb7 (by omega)
        clear x0x6
        have x1x7 := x1x6.below hb7 (by omega)
        clear x1x6
        go_wp2_with fail
        refine (implLeUnder_any w7 w7.heap.size _ 0 n0 n0 l0 (some ⟨w5.heap.size, 0, none⟩) n1 n1 l1 (some ⟨w6.heap.size, 0, none⟩) n2 n2 l2 T pv Tc pc (by omega) (by omega) (Nat.le_refl _) (x0x7.reads.more (by omega)) (by omega) (x1x7.reads.more (by omega)) (by omega) (x2x7.reads.more (by omega)) (by omega) (hE.below (hB7.mono hB) h0) (hEc.below (hB7.mono hB) h0c)).mono ?_
        rintro e w8 ⟨rfl, hb8⟩
        have hB8 : Below w.heap.size w w8 := hB7.trans (hb8.mono hB7.size)
        have s8 := hb8.size
        have x0x8 := x0x7.below hb8 (by omega)
        clear x0x7
        have x1x8 := x1x7.below hb8 (by omega)
        clear x1x7
        have x2x8 := x2x7.below hb8 (by omega)
        clear x2x7
        have hbb : ((leUnR l0 l1 l2) != (leUnR l0 l1 l2)) = false := by simp
        go_wp2_with fail
        refine (toConS_any w8 B A0 n0 c0 l0 (Nat.le_trans hB hB8.size) (hl0.below (hB8.mono hB)) hm0).mono ?_
        rintro e w9 ⟨rfl, hb9, z9⟩
        have hz9 : w8.heap.size + 1 ≤ w9.heap.size := by obtain ⟨_, cs, hblk, _⟩ := z9; exact hblk.lt
        have hB9 : Below w.heap.size w w9 := hB8.trans (hb9.mono hB8.size)
        have s9 := hb9.size
        have x0x9 := x0x8.below hb9 (by omega)
        clear x0x8
        have x1x9 := x1x8.below hb9 (by omega)
        clear x1x8
        have x2x9 := x2x8.below hb9 (by omega)
        clear x2x8
        go_wp2_with fail
        refine (eqConS_any w9 w9.heap.size _ _ n0 n0 n0 n0 l0 l0 (Nat.le_refl _) (x0x9.reads.more (by omega)) (z9.reads.more (by omega)) (by omega) (by omega)).mono ?_
        rintro e w10 ⟨rfl, hb10⟩
        rw [decide_eq_true rfl]
        clear z9
        have hB10 : Below w.heap.size w w10 := hB9.trans (hb10.mono hB9.size)
        have s10 := hb10.size
        have x0x10 := x0x9.below hb10 (by omega)
        clear x0x9
        have x1x10 := x1x9.below hb10 (by omega)
        clear x1x9
        have x2x10 := x2x9.below hb10 (by omega)
        clear x2x9
        go_wp2_with fail
        refine (toTokS_any w10 B A1 n1 c1 l1 (Nat.le_trans hB hB10.size) (hl1.below (hB10.mono hB)) hm1).mono ?_
        rintro e w11 ⟨rfl, hb11, z11⟩
        have hz11 : w10.heap.size + 1 ≤ w11.heap.size := by obtain ⟨_, cs, hblk, _⟩ := z11; exact hblk.lt
        have hB11 : Below w.heap.size w w11 := hB10.trans (hb11.mono hB10.size)
        have s11 := hb11.size
        have x0x11 := x0x10.below hb11 (by omega)
        clear x0x10
        have x1x11 := x1x10.below hb11 (by omega)
        clear x1x10
        have x2x11 := x2x10.below hb11 (by omega)
        clear x2x10
        go_wp2_with fail
        refine (eqTokS_any w11 w11.heap.size _ _ n1 n1 n1 n1 l1 l1 (Nat.le_refl _) (x1x11.reads.more (by omega)) (z11.reads.more (by omega)) (by omega) (by omega)).mono ?_
        rintro e w12 ⟨rfl, hb12⟩
        rw [decide_eq_true rfl]
        clear z11
        have hB12 : Below w.heap.size w w12 := hB11.trans (hb12.mono hB11.size)
        have s12 := hb12.size
        have x0x12 := x0x11.below hb12 (by omega)
        clear x0x11
        have x1x12 := x1x11.below hb12 (by omega)
        clear x1x11
        have x2x12 := x2x11.below hb12 (by omega)
        clear x2x11
        go_wp2_with fail
        refine (toTokS_any w12 B A2 n2 c2 l2 (Nat.le_trans hB hB12.size) (hl2.below (hB12.mono hB)) hm2).mono ?_
        rintro e w13 ⟨rfl, hb13, z13⟩
        have hz13 : w12.heap.size + 1 ≤ w13.heap.size := by obtain ⟨_, cs, hblk, _⟩ := z13; exact hblk.lt
        have hB13 : Below w.heap.size w w13 := hB12.trans (hb13.mono hB12.size)
        have s13 := hb13.size
        have x0x13 := x0x12.below hb13 (by omega)
        clear x0x12
        have x1x13 := x1x12.below hb13 (by omega)
        clear x1x12
        have x2x13 := x2x12.below hb13 (by omega)
        clear x2x12
        go_wp2_with fail
        refine (eqTokS_any w13 w13.heap.size _ _ n2 n2 n2 n2 l2 l2 (Nat.le_refl _) (x2x13.reads.more (by omega)) (z13.reads.more (by omega)) (by omega) (by omega)).mono ?_
        rintro e w14 ⟨rfl, hb14⟩
        rw [decide_eq_true rfl]
        clear z13
        have hB14 : Below w.heap.size w w14 := hB13.trans (hb14.mono hB13.size)
        have s14 := hb14.size
        have x0x14 := x0x13.below hb14 (by omega)
        clear x0x13
        have x1x14 := x1x13.below hb14 (by omega)
        clear x1x13
        have x2x14 := x2x13.below hb14 (by omega)
        clear x2x13
        go_wp2
        go_ret
        exact ⟨rfl, hB14⟩
end Go.Proofs.YtmbcjddahncocaaDoor
