/- SignHas of the program and of the model. -/
/- The laws' own helpers on slices of tokens: sizes, copies, comparison. -/
/- The laws' comparison of two slices of tokens. -/
/- The reference model's LevelEval; the laws' helpers on slices of numbers. -/
/- The machine's methods: each does what one step on the stack says, or panics with errLevel. -/
import Derived.Test.YtgebjnoicgmdoaaGreatDoorSgMath
import Derived.Test.YtgebjnoicgmdoaaGreatDoorBase

namespace Go.Proofs.YtgebjnoicgmdoaaGreatDoor
open Go.RowKit

theorem signOk_any (w : World) (s : Int) :
    Calls Tryz.prog 120 #[.int .i64 s] w fun e w' => e = .returned (.bool (Sg.isSign s)) ∧ w' = w := by
  by_cases h1 : 0 ≤ s
  · by_cases h2 : s ≤ 31
    · go_enter Tryz.func120, Tryz.ntmps120
      go_wp2
      go_ret
      exact ⟨by simp [Sg.isSign, h1, h2], rfl⟩
    · go_enter Tryz.func120, Tryz.ntmps120
      go_wp2
      go_ret
      exact ⟨by simp [Sg.isSign, h1, h2], rfl⟩
  · go_enter Tryz.func120, Tryz.ntmps120
    go_wp2
    go_ret
    exact ⟨by simp [Sg.isSign]; omega, rfl⟩

theorem paramOk_any (w : World) (s : Int) :
    Calls Tryz.prog 142 #[.int .i64 s] w fun e w' => e = .returned (.bool (Sg.isPar s)) ∧ w' = w := by
  by_cases h1 : 0 ≤ s
  · by_cases h2 : s < 5
    · go_enter Tryz.func142, Tryz.ntmps142
      go_wp2
      go_ret
      exact ⟨by simp [Sg.isPar, h1, h2], rfl⟩
    · go_enter Tryz.func142, Tryz.ntmps142
      go_wp2
      go_ret
      exact ⟨by simp [Sg.isPar, h1, h2], rfl⟩
  · go_enter Tryz.func142, Tryz.ntmps142
    go_wp2
    go_ret
    exact ⟨by simp [Sg.isPar]; omega, rfl⟩

theorem and_one (x : Int) (h : 0 ≤ x) (hx : x ≤ 31) : Go.bits BinOp.and IntKind.i64 x 1 = x % 2 := by
  have : ∀ k : Fin 32, Go.bits BinOp.and IntKind.i64 ((k : Nat) : Int) 1 = ((k : Nat) : Int) % 2 := by decide +kernel
  have := this ⟨x.toNat, by omega⟩
  rwa [show ((x.toNat : Nat) : Int) = x by omega] at this

theorem implSignHas_any (w : World) (s p : Int) :
    Calls Tryz.prog 146 #[.int .i64 s, .int .i64 p] w fun e w' => e = .returned (.bool (Sg.has s p)) ∧ w' = w := by
  cases h1 : Sg.isSign s with
  | false =>
    have HF : Hid (Sg.has s p = false) := by unfold Hid Sg.has; simp [Sg.isSign] at h1; simp; omega
    go_enter Tryz.func146, Tryz.ntmps146
    go_wp2_with fail
    refine (signOk_any w s).mono ?_
    rintro e w' ⟨rfl, rfl⟩
    rw [h1]
    go_wp2
    go_ret
    exact ⟨by rw [HF.out]; rfl, rfl⟩
  | true =>
    cases h2 : Sg.isPar p with
    | false =>
      have HF : Hid (Sg.has s p = false) := by unfold Hid Sg.has; simp [Sg.isPar] at h2; simp; omega
      go_enter Tryz.func146, Tryz.ntmps146
      go_wp2_with fail
      refine (signOk_any w s).mono ?_
      rintro e w' ⟨rfl, rfl⟩
      rw [h1]
      go_wp2_with fail
      refine (paramOk_any _ p).mono ?_
      rintro e w' ⟨rfl, rfl⟩
      rw [h2]
      go_wp2
      go_ret
      exact ⟨by rw [HF.out]; rfl, rfl⟩
    | true =>
      have hs : 0 ≤ s ∧ s ≤ 31 := by simpa [Sg.isSign] using h1
      have hp : 0 ≤ p ∧ p < 5 := by simpa [Sg.isPar] using h2
      go_enter Tryz.func146, Tryz.ntmps146
      go_wp2_with fail
      refine (signOk_any w s).mono ?_
      rintro e w' ⟨rfl, rfl⟩
      rw [h1]
      go_wp2_with fail
      refine (paramOk_any _ p).mono ?_
      rintro e w' ⟨rfl, rfl⟩
      rw [h2]
      go_wp2
      go_ret
      refine ⟨?_, rfl⟩
      have b1 : 0 ≤ s / 2 ^ p.toNat := Int.ediv_nonneg hs.1 (Int.pow_nonneg (by decide))
      have b2 : s / 2 ^ p.toNat ≤ s := Int.ediv_le_self _ hs.1
      show Ending.returned (.bool (Go.bits BinOp.and IntKind.i64 (s / 2 ^ p.toNat) 1 == 1)) = _
      rw [and_one _ b1 (by omega)]
      unfold Sg.has
      simp [hs, hp]
      rfl

theorem quo_two (x : Int) (h : 0 ≤ x) (k : Nat) : (x / 2 ^ k).tdiv 2 = x / 2 ^ (k + 1) := by
  rw [Int.tdiv_eq_ediv_of_nonneg (Int.ediv_nonneg h (Int.pow_nonneg (by decide))), Int.pow_succ, Int.ediv_ediv_of_nonneg (Int.pow_nonneg (by decide))]

theorem specSignHas_any (w : World) (s p : Int) :
    Calls Tryz.prog 103 #[.int .i64 s, .int .i64 p] w fun e w' => e = .returned (.bool (Sg.has s p)) ∧ w' = w := by
  by_cases h : 0 ≤ s ∧ s ≤ 31 ∧ 0 ≤ p ∧ p < 5
  · obtain ⟨h1, h2, h3, h4⟩ := h
    go_enter Tryz.func103, Tryz.ntmps103
    go_wp2
    go_loopw [0, 1] (fun x i wr => ∃ k : Nat, (k : Int) ≤ p ∧ i = .int .i64 (p - k) ∧ x = .int .i64 (s / 2 ^ k) ∧ wr = w) (fun _ i _ => (intOf i).toNat)
    case atStart => exact ⟨0, by omega, by simp, by simp, rfl⟩
    case round =>
      obtain ⟨k, hk, rfl, rfl, rfl⟩ := hrel
      have b1 : 0 ≤ s / 2 ^ k := Int.ediv_nonneg h1 (Int.pow_nonneg (by decide))
      have b2 : s / 2 ^ k ≤ s := Int.ediv_le_self _ h1
      have hq := quo_two s h1 k
      have b3 : 0 ≤ s / 2 ^ (k + 1) := Int.ediv_nonneg h1 (Int.pow_nonneg (by decide))
      have b4 : s / 2 ^ (k + 1) ≤ 31 := Int.le_trans (Int.ediv_le_self _ h1) h2
      by_cases hlt : (k : Int) < p
      · have d : 0 < p - k := by omega
        go_wp2
        go_roundw
        case rel => exact ⟨k + 1, by omega, by go_num, rfl, trivial⟩
        case measure => simp [intOf]; omega
      · obtain rfl : p = k := by omega
        have d : (k : Int) - k = 0 := by omega
        rw [d]
        go_wp2
        go_ret
        refine ⟨?_, rfl⟩
        show Ending.returned (.bool (s / 2 ^ k % 2 == 1)) = _
        unfold Sg.has
        rw [Int.toNat_natCast]
        simp [h1, h2, h4]
        rfl
  · have HF : Hid (Sg.has s p = false) := by unfold Hid Sg.has; simp; omega
    have hh : s < 0 ∨ 0 ≤ s ∧ 31 < s ∨ 0 ≤ s ∧ s ≤ 31 ∧ p < 0 ∨ 0 ≤ s ∧ s ≤ 31 ∧ 0 ≤ p ∧ 5 ≤ p := by omega
    clear h
    rcases hh with h1 | ⟨h1, h2⟩ | ⟨h1, h2, h3⟩ | ⟨h1, h2, h3, h4⟩
    all_goals
      go_enter Tryz.func103, Tryz.ntmps103
      go_wp2
      go_ret
      exact ⟨by rw [HF.out]; rfl, rfl⟩
end Go.Proofs.YtgebjnoicgmdoaaGreatDoor

namespace Go.Proofs.YtgebjnoicgmdoaaGreatDoor
open Go.RowKit

set_option maxHeartbeats 400000 in
theorem szTokS_any (A : Option Addr) (n c : Nat) (left : Int) (w : World) (h0 : 0 ≤ left) (h1 : left ≤ 1048576) (hn : (n : Int) ≤ 9223372036854775807) :
    Calls Tryz.prog 33 #[.slice A n c, .int .i64 left] w fun e w' => e = .returned (.int .i64 (if left < n then -1 else left - n)) ∧ w = w' := by
  go_enter Tryz.func33, Tryz.ntmps33
  go_wp2
  all_goals go_ret
  · exact ⟨rfl, rfl⟩
  · exact ⟨rfl, rfl⟩

set_option maxHeartbeats 400000 in
theorem toTok_any (a b : Int) (w : World) :
    Calls Tryz.prog 77 #[.agg #[.int .i64 a, .int .i64 b]] w fun e w' => e = .returned (.agg #[.int .i64 a, .int .i64 b]) ∧ Below w.heap.size w w' := by
  go_enter Tryz.func77, Tryz.ntmps77
  go_wp2
  exact bodyPost_ret (v := .agg #[.int .i64 a, .int .i64 b]) (by simp [results, Tryz.results77, go_sem]) rfl ⟨rfl, (((Below.refl _ _).alloc (Nat.le_refl _) _).alloc (by simp) _).alloc (by simp; omega) _⟩

/-- block g is a row of just n tokens, those of l -/
def TokOwn (w : World) (g n : Nat) (l : List (Int × Int)) : Prop :=
  l.length = n ∧ ∃ cs, Blk w g 51 cs ∧ cs.size = n * 2 ∧ ∀ k, k < n → cs[k * 2]? = some (.int .i64 (l.getD k (0, 0)).1) ∧ cs[k * 2 + 1]? = some (.int .i64 (l.getD k (0, 0)).2)

theorem TokOwn.reads {w : World} {g n : Nat} {l : List (Int × Int)} (h : TokOwn w g n l) : TokR w (g + 1) (some ⟨g, 0, none⟩) n l := by
  obtain ⟨hl, cs, hb, hs, hc⟩ := h
  refine ⟨hl, fun _ => ⟨g, 0, rfl, by omega, fun k hk => ?_⟩⟩
  rw [hb.cell, hb.cell, Nat.zero_add]
  exact hc k hk
theorem TokOwn.below {w w' : World} {g n B : Nat} {l : List (Int × Int)} (h : TokOwn w g n l) (hb : Below B w w') (hg : g < B) : TokOwn w' g n l := by
  obtain ⟨hl, cs, hblk, rest⟩ := h
  exact ⟨hl, cs, hblk.below hb hg, rest⟩

theorem info_tok : (Tryz.prog.info? 51).map (fun i => (i.zero, i.size, i.bytes)) = some (some (.agg #[.int .i64 0, .int .i64 0]), 2, 16) := by kernel_rfl

/-- the row of tokens that is being filled: the first k of them are there -/
def Filling (w : World) (g n k : Nat) (l : List (Int × Int)) (wr : World) : Prop :=
  Below w.heap.size w wr ∧ ∃ cs, Blk wr g 51 cs ∧ cs.size = n * 2 ∧ ∀ j, j < k → cs[j * 2]? = some (.int .i64 (l.getD j (0, 0)).1) ∧ cs[j * 2 + 1]? = some (.int .i64 (l.getD j (0, 0)).2)

theorem filling_step {w wr w1 : World} {n k : Nat} {l : List (Int × Int)} {a b : Int} (h : Filling w w.heap.size n k l wr) (hb : Below wr.heap.size wr w1) (hk : k < n) (ht : l.getD k (0, 0) = (a, b)) :
    Filling w w.heap.size n (k + 1) l ((w1.setCell ⟨w.heap.size, k * 2, none⟩ (.int .i64 a)).setCell ⟨w.heap.size, k * 2 + 1, none⟩ (.int .i64 b)) := by
  obtain ⟨hbel, cs, hblk, hs, hc⟩ := h
  have hblk1 := hblk.below hb hblk.lt
  refine ⟨((hbel.trans (hb.mono hbel.size)).setCell (p := ⟨w.heap.size, k * 2, none⟩) (Nat.le_refl _) _).setCell (p := ⟨w.heap.size, k * 2 + 1, none⟩) (Nat.le_refl _) _, _, (hblk1.put _ _).put _ _, by simp [hs], ?_⟩
  intro j hj
  by_cases e : j = k
  · subst e
    rw [ht]
    constructor
    · rw [Array.getElem?_setIfInBounds_ne (by omega), Array.getElem?_setIfInBounds_self_of_lt (by omega)]
    · rw [Array.getElem?_setIfInBounds_self_of_lt (by simp; omega)]
  · obtain ⟨x, y⟩ := hc j (by omega)
    constructor
    · rw [Array.getElem?_setIfInBounds_ne (by omega), Array.getElem?_setIfInBounds_ne (by omega)]; exact x
    · rw [Array.getElem?_setIfInBounds_ne (by omega), Array.getElem?_setIfInBounds_ne (by omega)]; exact y

set_option maxHeartbeats 800000 in
theorem toTokS_any (w : World) (B : Nat) (A : Option Addr) (n c : Nat) (l : List (Int × Int)) (hB : B ≤ w.heap.size) (hl : TokR w B A n l) (hn : n ≤ 1048576) :
    Calls Tryz.prog 35 #[.slice A n c] w fun e w' => e = .returned (.slice (some ⟨w.heap.size, 0, none⟩) n n) ∧ Below w.heap.size w w' ∧ TokOwn w' w.heap.size n l := by
  obtain ⟨i0, hi, hz0, hz1, hz2⟩ := info_parts info_tok
  have hmk : ∀ wx, (Instr.makeSlice 25 (.int .i64 (n : Int)) (.int .i64 (n : Int))).run Tryz.prog wx = .ok (.slice (some ⟨wx.heap.size, 0, none⟩) n n) (wx.alloc (.cells (madeCells (Value.agg #[.int .i64 0, .int .i64 0]).cells (n * 2)) 51)) := by
    intro wx
    have hr := run_make (P := Tryz.prog) wx 25 51 i0 _ Tryz.underlying25 hi hz0 .i64 .i64 n n (by omega) (by omega) (by rw [hz2]; omega) (by omega)
    simp only [Int.toNat_natCast, hz1] at hr
    exact hr
  have hstart : Filling w w.heap.size n 0 l (w.alloc (.cells (madeCells (Value.agg #[.int .i64 0, .int .i64 0]).cells (n * 2)) 51)) :=
    ⟨(Below.refl _ _).alloc (Nat.le_refl _) _, _, Blk.made _ _ _, by simp [madeCells], by intro j hj; omega⟩
  have HS := Lib.hid hstart
  clear hstart hi hz0 hz1 hz2
  go_enter Tryz.func35, Tryz.ntmps35
  go_wp2
  go_loopw [4] (fun i wr => ∃ k : Nat, k ≤ n ∧ i = .int .i64 k ∧ Filling w w.heap.size n k l wr) (fun i _ => n - (intOf i).toNat)
  case atStart => exact ⟨0, Nat.zero_le _, rfl, HS.out⟩
  case round =>
    obtain ⟨k, hk, rfl, hF⟩ := hrel
    by_cases hlt : k < n
    · obtain ⟨b, off, rfl, hb, hc⟩ := hl.2 (by omega)
      obtain ⟨c1, c2⟩ := hc k hlt
      obtain ⟨t, ht⟩ : ∃ t, l.getD k (0, 0) = t := ⟨_, rfl⟩
      rw [ht] at c1 c2
      obtain ⟨op, N⟩ := t
      have hbel := hF.1
      have k1 := (hbel.cell (p := ⟨b, off + k * 2, none⟩) (by show b < _; omega)).trans c1
      have k2 := (hbel.cell (p := ⟨b, off + k * 2 + 1, none⟩) (by show b < _; omega)).trans c2
      have HT := Lib.hid ht
      have HF := Lib.hid hF
      have hszr := hbel.size
      clear c1 c2 hc ht
      go_wp2_with fail
      refine (toTok_any _ _ _).mono ?_
      rintro e w1 ⟨rfl, hb1⟩
      obtain ⟨_, cs, hblk, hs, _⟩ := HF.out
      have hblk1 := hblk.below hb1 hblk.lt
      have hlt1 := hblk1.lt
      have f1 := hblk1.thawed (k * 2)
      have f2 := hblk1.thawed (k * 2 + 1)
      obtain ⟨v1, e1⟩ : ∃ v1, w1.cell? ⟨w.heap.size, k * 2, none⟩ = some v1 := ⟨_, (hblk1.cell _).trans (Array.getElem?_eq_getElem (by omega))⟩
      obtain ⟨v2, e2⟩ : ∃ v2, w1.cell? ⟨w.heap.size, k * 2 + 1, none⟩ = some v2 := ⟨_, (hblk1.cell _).trans (Array.getElem?_eq_getElem (by omega))⟩
      have HN := Lib.hid (filling_step HF.out hb1 hlt HT.out)
      clear hblk hblk1 hs hF
      go_wp2
      go_roundw
      case rel => exact ⟨k + 1, by omega, by go_num, HN.out⟩
      case measure => simp [intOf]; omega
    · obtain rfl : k = n := by omega
      obtain ⟨hbel, hcs⟩ := hF
      have HC := Lib.hid hcs
      clear hcs
      go_wp2
      go_ret
      exact ⟨rfl, hbel, hl.1, HC.out⟩
end Go.Proofs.YtgebjnoicgmdoaaGreatDoor

namespace Go.Proofs.YtgebjnoicgmdoaaGreatDoor
open Go.RowKit

set_option maxHeartbeats 800000 in
theorem eqTok_any (a b c d : Int) (w : World) :
    Calls Tryz.prog 79 #[.agg #[.int .i64 a, .int .i64 b], .agg #[.int .i64 c, .int .i64 d]] w fun e w' => e = .returned (.bool (decide ((a, b) = (c, d)))) ∧ Below w.heap.size w w' := by
  have hb : Below w.heap.size w ((w.alloc (.cells #[.int .i64 a, .int .i64 b] 51)).alloc (.cells #[.int .i64 c, .int .i64 d] 51)) := ((Below.refl _ _).alloc (Nat.le_refl _) _).alloc (by simp) _
  have HB := Lib.hid hb
  clear hb
  by_cases h1 : a = c
  · subst h1
    by_cases h2 : b = d
    · subst h2
      go_enter Tryz.func79, Tryz.ntmps79
      go_wp2
      go_ret
      exact ⟨ret_bool (by simp), HB.out⟩
    · have e2 : (b != d) = true := by simpa using h2
      have HD : Hid (decide ((a, b) = (a, d)) = false) := by show _ = _; simp [h2]
      clear h2
      go_enter Tryz.func79, Tryz.ntmps79
      go_wp2
      go_ret
      exact ⟨by rw [HD.out]; rfl, HB.out⟩
  · have e1 : (a != c) = true := by simpa using h1
    have HD : Hid (decide ((a, b) = (c, d)) = false) := by show _ = _; simp [h1]
    clear h1
    go_enter Tryz.func79, Tryz.ntmps79
    go_wp2
    go_ret
    exact ⟨by rw [HD.out]; rfl, HB.out⟩

/-- two lists of one length that agree up to k -/
def Agree {α : Type} (d : α) (k : Nat) (l m : List α) : Prop := ∀ j, j < k → l.getD j d = m.getD j d
theorem agree_all {α : Type} {d : α} {n : Nat} {l m : List α} (h1 : l.length = n) (h2 : m.length = n) (h : Agree d n l m) : l = m := by
  apply List.ext_getElem (by omega)
  intro i hi hj
  have := h i (by omega)
  simpa [List.getD_eq_getElem?_getD, List.getElem?_eq_getElem hi, List.getElem?_eq_getElem hj] using this
theorem agree_step {α : Type} {d : α} {k : Nat} {l m : List α} (h : Agree d k l m) (e : l.getD k d = m.getD k d) : Agree d (k + 1) l m := by
  intro j hj
  by_cases hjk : j = k
  · subst hjk; exact e
  · exact h j (by omega)

set_option maxRecDepth 100000 in
set_option maxHeartbeats 1000000 in
theorem eqTokS_any (w : World) (B : Nat) (A1 A2 : Option Addr) (n1 n2 c1 c2 : Nat) (l m : List (Int × Int)) (hB : B ≤ w.heap.size) (hl : TokR w B A1 n1 l) (hm : TokR w B A2 n2 m)
    (hn1 : (n1 : Int) ≤ 140737488355328) (hn2 : (n2 : Int) ≤ 140737488355328) :
    Calls Tryz.prog 38 #[.slice A1 n1 c1, .slice A2 n2 c2] w fun e w' => e = .returned (.bool (decide (l = m))) ∧ Below w.heap.size w w' := by
  by_cases hne : n1 = n2
  · subst hne
    have en : ((n1 : Int) != (n1 : Int)) = false := by simp
    go_enter Tryz.func38, Tryz.ntmps38
    go_wp2
    go_loopw [5] (fun i wr => ∃ k : Nat, k ≤ n1 ∧ i = .int .i64 k ∧ Agree (0, 0) k l m ∧ Below w.heap.size w wr) (fun i _ => n1 - (intOf i).toNat)
    case atStart => exact ⟨0, Nat.zero_le _, rfl, (fun j hj => absurd hj (by omega)), Below.refl _ _⟩
    case round =>
      obtain ⟨k, hk, rfl, hag, hbel⟩ := hrel
      have HG := Lib.hid hag
      clear hag
      by_cases hlt : k < n1
      · obtain ⟨b, off, rfl, hb, hc⟩ := hl.2 (by omega)
        obtain ⟨x1, x2⟩ := hc k hlt
        obtain ⟨b', off', rfl, hb', hc'⟩ := hm.2 (by omega)
        obtain ⟨y1, y2⟩ := hc' k hlt
        have HL := Lib.hid hl
        have HM := Lib.hid hm
        obtain ⟨t, ht⟩ : ∃ t, l.getD k (0, 0) = t := ⟨_, rfl⟩
        obtain ⟨u, hu⟩ : ∃ u, m.getD k (0, 0) = u := ⟨_, rfl⟩
        rw [ht] at x1 x2
        rw [hu] at y1 y2
        obtain ⟨p, q⟩ := t
        obtain ⟨r, s⟩ := u
        have HT := Lib.hid ht
        have HU := Lib.hid hu
        have k1 := (hbel.cell (p := ⟨b, off + k * 2, none⟩) (by show b < _; omega)).trans x1
        have k2 := (hbel.cell (p := ⟨b, off + k * 2 + 1, none⟩) (by show b < _; omega)).trans x2
        have k3 := (hbel.cell (p := ⟨b', off' + k * 2, none⟩) (by show b' < _; omega)).trans y1
        have k4 := (hbel.cell (p := ⟨b', off' + k * 2 + 1, none⟩) (by show b' < _; omega)).trans y2
        clear x1 x2 y1 y2 hc hc' ht hu hl hm
        go_wp2_with fail
        refine region_tail 8 (by kernel_rfl) (by kernel_rfl) ?_
        simp only [List.take_succ_cons, List.take_zero, List.drop_succ_cons, List.drop_zero]
        repeat still_step
        refine wpStill_nil ?_
        go_wp2_with fail
        refine (eqTok_any p q r s _).mono ?_
        rintro e w1 ⟨rfl, hb1⟩
        have HB := Lib.hid (hbel.drew.trans (hb1.mono hbel.size))
        clear hb1
        by_cases heq : (p, q) = (r, s)
        · have HA : Hid (Agree (0, 0) (k + 1) l m) := agree_step HG.out (by rw [HT.out, HU.out, heq])
          rw [decide_eq_true heq]
          clear heq
          go_wp2
          go_roundw
          case rel => exact ⟨k + 1, by omega, by go_num, HA.out, HB.out⟩
          case measure => simp [intOf]; omega
        · have HF : Hid (decide (l = m) = false) := by
            show _ = _
            rw [decide_eq_false_iff_not]
            intro h
            apply heq
            rw [← HT.out, ← HU.out, h]
          rw [decide_eq_false heq]
          clear heq
          go_wp2
          go_ret
          exact ⟨by rw [HF.out]; rfl, HB.out⟩
      · obtain rfl : k = n1 := by omega
        have HF : Hid (decide (l = m) = true) := by
          show _ = _
          rw [decide_eq_true_eq]
          exact agree_all hl.1 hm.1 HG.out
        clear hl hm
        go_wp2
        go_ret
        exact ⟨by rw [HF.out]; rfl, hbel⟩
  · have HF : Hid (decide (l = m) = false) := by
      show _ = _
      rw [decide_eq_false_iff_not]
      intro h
      apply hne
      rw [← hl.1, ← hm.1, h]
    have en : ((n1 : Int) != (n2 : Int)) = true := by simp; omega
    clear hl hm hne
    go_enter Tryz.func38, Tryz.ntmps38
    go_wp2
    go_ret
    exact ⟨by rw [HF.out]; rfl, Below.refl _ _⟩
end Go.Proofs.YtgebjnoicgmdoaaGreatDoor

namespace Go.Proofs.YtgebjnoicgmdoaaGreatDoor
open Go.RowKit

/-- block g is a row of just n numbers, those of l -/
def IntOwn (w : World) (g n : Nat) (l : List Int) : Prop :=
  l.length = n ∧ ∃ cs, Blk w g 3 cs ∧ cs.size = n ∧ ∀ k, k < n → cs[k]? = some (.int .i64 (l.getD k 0))
theorem IntOwn.reads {w : World} {g n : Nat} {l : List Int} (h : IntOwn w g n l) : IntR w (g + 1) (some ⟨g, 0, none⟩) n l := by
  obtain ⟨hl, cs, hb, hs, hc⟩ := h
  refine ⟨hl, fun _ => ⟨g, 0, rfl, by omega, fun k hk => ?_⟩⟩
  rw [hb.cell, Nat.zero_add]
  exact hc k hk

end Go.Proofs.YtgebjnoicgmdoaaGreatDoor

namespace Go.Proofs.YtgebjnoicgmdoaaGreatDoor
open Go.RowKit

/-- the panic with errLevel -/
def Bad (T : TypeId) (pv : Value) : Ending := .panicked [{ v := .iface T pv, recovered := false }]

/-- a row of n + 1 cells, cut to n -/
theorem own_pop {w : World} {base g cap n : Nat} {e : TypeId} {xs : List Value} {x : Value} (h : w.ownsRow base e 1 (.slice (some ⟨g, 0, none⟩) (n + 1) cap) (n + 1) (xs ++ [x])) :
    w.ownsRow base e 1 (.slice (some ⟨g, 0, none⟩) n cap) n xs := by
  have hl := h.1
  simp at hl
  rcases h.2 with ⟨h0, _⟩ | ⟨g', cap', cur, hv, hb, hgg, h1, h2, h3, h4⟩
  · cases h0
  · injection hv with e1 e2 e3
    injection e1 with e1
    injection e1 with e1
    subst e1; subst e3
    refine ⟨by omega, .inr ⟨g, cap, cur, rfl, hb, hgg, by omega, h2, h3, ?_⟩⟩
    have := congrArg (List.take n) h4
    rw [List.take_take] at this
    rw [show min n ((n + 1) * 1) = n * 1 by omega] at this
    rw [this, ← hl, List.take_left']
    rfl

set_option maxHeartbeats 400000 in
theorem pop_some (w : World) (B bm : Nat) (env st : List Int) (v : Int) (hm : Mach w B bm env (v :: st)) (hs : st.length ≤ 1000) :
    Calls Tryz.prog 106 #[.pointer (some ⟨bm, 0, none⟩)] w fun e w' => e = .returned (.int .i64 v) ∧ Mach w' B bm env st ∧ Below B w w' ∧ Keeps w w' := by
  obtain ⟨hB, he, A, c, hblk, hown⟩ := hm
  have hlt := hblk.lt
  obtain ⟨g, rfl⟩ : ∃ g, A = some ⟨g, 0, none⟩ := by
    rcases hown.2 with ⟨_, h⟩ | ⟨g, cap', _, h, _⟩
    · simp at h
    · injection h with h1; exact ⟨g, h1⟩
  have hcap : st.length + 1 ≤ c := by
    rcases hown.2 with ⟨_, h⟩ | ⟨g, cap', _, h, _, _, h1, _⟩
    · simp at h
    · injection h with _ _ h3; simpa [h3] using h1
  have hc5 : w.cell? ⟨bm, 5, none⟩ = some (.slice (some ⟨g, 0, none⟩) (st.length + 1) c) := (hblk.cell 5).trans (mach_stack env _ he)
  have hcv : w.cell? ⟨g, st.length, none⟩ = some (.int .i64 v) := by
    have h := hown.cells (g := g) rfl st.length (.int .i64 v) (by simp)
    have hadd : (⟨g, 0, none⟩ : Addr).add st.length = ⟨g, st.length, none⟩ := by unfold Addr.add; split <;> simp_all
    rw [hadd] at h
    exact h
  have hf := hblk.thawed 5
  have hown1 := own_pop (n := st.length) (xs := st.reverse.map (Value.int .i64)) (x := .int .i64 v) (by simpa using hown)
  have H2 := Lib.hid (own_store (p := ⟨bm, 5, none⟩) hown1 (own_apart hown1 hblk (by decide)) (.slice (some ⟨g, 0, none⟩) st.length c))
  have H3 := Lib.hid (hblk.put 5 (.slice (some ⟨g, 0, none⟩) st.length c))
  have H4 := Lib.hid ((Keeps.refl w).store (p := ⟨bm, 5, none⟩) hblk (.slice (some ⟨g, 0, none⟩) st.length c))
  have HE := Lib.hid he
  clear he hown hown1
  go_enter Tryz.func106, Tryz.ntmps106
  go_wp2
  go_ret
  refine ⟨rfl, ⟨hB, HE.out, some ⟨g, 0, none⟩, c, ?_, ?_⟩, (Below.refl _ _).setCell (p := ⟨bm, 5, none⟩) hB _, H4.out⟩
  · have h3 := H3.out
    rw [mach_put env _ _ HE.out] at h3
    exact h3
  · exact H2.out

set_option maxHeartbeats 400000 in
theorem pop_none (w : World) (B bm : Nat) (env : List Int) (T : TypeId) (pv : Value) (hm : Mach w B bm env []) (hE : ErrAt w T pv) :
    Calls Tryz.prog 106 #[.pointer (some ⟨bm, 0, none⟩)] w fun e w' => e = Bad T pv ∧ w = w' := by
  obtain ⟨hB, he, A, c, hblk, hown⟩ := hm
  have hc5 : w.cell? ⟨bm, 5, none⟩ = some (.slice A 0 c) := (hblk.cell 5).trans (mach_stack env _ he)
  unfold ErrAt at hE
  clear he hown hblk
  go_enter Tryz.func106, Tryz.ntmps106
  go_wp2
  exact ⟨rfl, rfl, rfl⟩

set_option maxHeartbeats 400000 in
theorem needZero_yes (n : Int) (w : World) (h : n = 0) :
    Calls Tryz.prog 154 #[.int .i64 n] w fun e w' => e = .returned (.tuple #[]) ∧ w = w' := by
  subst h
  go_enter Tryz.func154, Tryz.ntmps154
  go_wp2
  go_end0
  exact ⟨rfl, rfl⟩

set_option maxHeartbeats 400000 in
theorem needZero_no (n : Int) (w : World) (T : TypeId) (pv : Value) (h : n ≠ 0) (hE : ErrAt w T pv) :
    Calls Tryz.prog 154 #[.int .i64 n] w fun e w' => e = Bad T pv ∧ w = w' := by
  have h1 : (n != 0) = true := by simpa using h
  unfold ErrAt at hE
  go_enter Tryz.func154, Tryz.ntmps154
  go_wp2
  exact ⟨rfl, rfl, rfl⟩
end Go.Proofs.YtgebjnoicgmdoaaGreatDoor
