/- math/bits.Mul at small numbers; slices.Grow, Repeat and Concat over tokens. -/
import Derived.Test.YtgbdojenenfgfaaDoorMarks
import Derived.Lib.AppendZeros
import Derived.Laws.BitsAllLaws
import Derived.Laws.BitsLemmas
import Derived.Laws.CopyOwn
import Derived.RegionTactic
import Derived.BigRegion
namespace Go.Proofs.YtgbdojenenfgfaaDoor
open Go.RowKit

set_option maxHeartbeats 800000 in
theorem mul64_one (y : Nat) (hy : y ≤ 1000) (w : World) :
    Calls Tryd.prog 90 #[.int .u64 1, .int .u64 y] w fun e w' => e = .returned (.tuple #[.int .u64 0, .int .u64 y]) ∧ w = w' := by
  have a1 : bits BinOp.and IntKind.u64 1 4294967295 = 1 := by decide +kernel
  have a0 : bits BinOp.and IntKind.u64 0 4294967295 = 0 := by decide +kernel
  have ay : bits BinOp.and IntKind.u64 (y : Int) 4294967295 = (y : Int) := by
    have h := bits_and_u64_nat y 4294967295 (by omega) (by omega)
    rw [show y &&& 4294967295 = y % 4294967296 from Nat.and_two_pow_sub_one_eq_mod y 32, Nat.mod_eq_of_lt (by omega)] at h
    exact h
  have wy : IntKind.u64.wrap (y : Int) = (y : Int) := by rw [IntKind.wrap_u64]; omega
  have w0 : IntKind.u64.wrap 0 = 0 := by rw [IntKind.wrap_u64]; rfl
  have dy : (y : Int) / 4294967296 = 0 := by omega
  have H1 := Lib.hid a1
  have H2 := Lib.hid a0
  have H3 := Lib.hid ay
  have H4 := Lib.hid wy
  have H5 := Lib.hid w0
  have H6 := Lib.hid dy
  clear a1 a0 ay wy w0 dy
  go_enter Tryd.func90, Tryd.ntmps90
  go_wp2
  simp only [H1.out, H2.out, H3.out, H4.out, H5.out, H6.out, Int.one_mul, Int.mul_zero, Int.zero_ediv, Int.add_zero]
  go_ret2
  exact ⟨rfl, rfl⟩

set_option maxHeartbeats 800000 in
theorem mul_one (y : Nat) (hy : y ≤ 1000) (w : World) :
    Calls Tryd.prog 73 #[.int .u64 1, .int .u64 y] w fun e w' => e = .returned (.tuple #[.int .u64 0, .int .u64 y]) ∧ w = w' := by
  go_enter Tryd.func73, Tryd.ntmps73
  go_wp2_with fail
  refine (mul64_one y hy w).mono ?_
  rintro e w' ⟨rfl, rfl⟩
  go_wp2
  go_ret2
  exact ⟨rfl, rfl⟩

/-- a call gives back a slice of tokens of its own that is not nil -/
def ResT (w : World) (l : List (Int × Int)) (e : Ending) (w' : World) : Prop :=
  ∃ g c, e = .returned (.slice (some ⟨g, 0, none⟩) l.length c) ∧ OwnT w' w.heap.size (some ⟨g, 0, none⟩) l.length c l ∧ Below w.heap.size w w'

set_option maxRecDepth 100000 in
set_option maxHeartbeats 800000 in
theorem grow_nil (n : Nat) (h1 : 1 ≤ n) (hn : n ≤ 1000) (w : World) :
    Calls Tryd.prog 72 #[.slice none 0 0, .int .i64 n] w (ResT w []) := by
  obtain ⟨i0, hi, hz0, hz1, hz2⟩ := info_parts info_tok
  have hr := Lib.run_append_nil_zeros (P := Tryd.prog) w 24 3 24 71 i0 _ .i64 .i64 Tryd.underlying24 Tryd.underlying3 hi hz0 n (by omega) (by omega) (by omega) (by rw [hz2]; omega)
  have hge := grownCap_ge w n 0 71
  have hle := grownCap_le_maxLen w n 0 71 (by unfold maxLen; omega)
  generalize grownCap w n 0 71 = cp at hr hge hle
  obtain ⟨cur, hcur⟩ : ∃ cur, Builtin.zeroCells (Value.agg #[.int .i64 0, .int .i64 0]).cells n ++ Builtin.zeroCells (Value.agg #[.int .i64 0, .int .i64 0]).cells (cp - n) = cur := ⟨_, rfl⟩
  have hsz : cur.size = cp * 2 := by
    rw [← hcur, Array.size_append, size_zeroCells, size_zeroCells]
    have : (Value.agg #[.int .i64 0, .int .i64 0]).cells.size = 2 := rfl
    rw [this]; omega
  rw [hcur] at hr
  have HO : Hid (OwnT (w.drew.alloc (.cells cur 71)) w.heap.size (some ⟨w.heap.size, 0, none⟩) 0 cp []) :=
    World.ownsRow_made w.drew cur cp (Nat.le_refl _) hle hsz
  have HB : Hid (Below w.heap.size w (w.drew.alloc (.cells cur 71))) := (Below.refl _ _).drew.alloc (Nat.le_refl _) _
  have HR := Lib.hid hr
  clear hr hcur hsz hle hi hz0 hz1 hz2
  go_enter Tryd.func72, Tryd.ntmps72
  go_wp2_with (at_builtin; refine Lib.wpList_append_run _ rfl (.tmp 20) (.tmp 21) 24 3 rfl (.slice none 0 0) (.int .i64 n) rfl rfl _ _ HR.out ?_)
  go_wp2
  go_ret
  exact ⟨w.heap.size, cp, rfl, HO.out, HB.out⟩

/-- copy between rows whose elements have several cells -/
theorem run_copyN {P : Program} (w : World) (dT sT ty elem : TypeId) (g o dLen dCap : Nat) (a : Addr) (sLen sCap size : Nat) (cur : Array Value) (t : TypeId) (cs : List Value)
    (hu : P.underlying dT = some (.slice elem)) (i : TypeInfo) (hi : P.info? elem = some i) (hs : i.size = size)
    (hg : w.heap[g]? = some (.cells cur t (0, 0))) (hn : cs.length = Nat.min sLen dLen * size)
    (hsrc : ∀ j v, cs[j]? = some v → w.cell? (a.add j) = some v) (hfit : o + cs.length ≤ cur.size) (h1 : ∀ v ∈ cs, v.oneCell' = true) :
    (Builtin.copy_ #[dT, sT] ty #[.slice (some ⟨g, o, none⟩) dLen dCap, .slice (some a) sLen sCap]).run P w =
      .ok (goInt (Nat.min sLen dLen)) (w.setRow g (cur.toList.take o ++ cs ++ cur.toList.drop (o + cs.length)).toArray) := by
  have hf := run_firstCells_some (P := P) w size (Nat.min sLen dLen) a sLen sCap cs hn hsrc
  have hst := run_storeCells_at P g o t cs 0 cur w hg (by simpa using hfit) h1
  simp [Builtin.copy_, run_underlying hu, Builtin.lenOf, sizeOf, typeInfo, hi, hs, hf, hst]

/-- a token that is a successor, n times -/
def sxs (n : Nat) : List (Int × Int) := List.replicate n (1, 0)
theorem sxs_cells (n j : Nat) (h : j < n * 2) : (tokCells (sxs n))[j]? = some (.int .i64 (if j % 2 = 0 then 1 else 0)) := by
  have hl : (sxs n).length = n := by simp [sxs]
  have hg : ∀ k, k < n → (sxs n).getD k (0, 0) = (1, 0) := by
    intro k hk
    simp [sxs, List.getD_eq_getElem?_getD, hk]
  rcases Nat.mod_two_eq_zero_or_one j with h0 | h0
  · obtain ⟨k, rfl⟩ : ∃ k, j = k * 2 := ⟨j / 2, by omega⟩
    rw [(tokCells_at _ k (by omega)).1, hg k (by omega), if_pos h0]
  · obtain ⟨k, rfl⟩ : ∃ k, j = k * 2 + 1 := ⟨j / 2, by omega⟩
    rw [(tokCells_at _ k (by omega)).2, hg k (by omega), if_neg (by omega)]
theorem sxs_one (n : Nat) : ∀ v ∈ tokCells (sxs n), v.oneCell' = true := by
  intro v hv
  simp only [tokCells, List.mem_flatMap] at hv
  obtain ⟨t, _, ht⟩ := hv
  simp at ht
  rcases ht with rfl | rfl <;> rfl

/-- the first k of n tokens are successors -/
def Rep (w : World) (g n k : Nat) (wr : World) : Prop :=
  Below w.heap.size w wr ∧ ∃ cs, Blk wr g 71 cs ∧ cs.size = n * 2 ∧ ∀ j, j < k * 2 → cs[j]? = some (.int .i64 (if j % 2 = 0 then 1 else 0))

theorem rep_copy {w wr : World} {n k m : Nat} (h : Rep w w.heap.size n k wr) (hm : k + m ≤ n) (cs : Array Value) (hb : Blk wr w.heap.size 71 cs) :
    Rep w w.heap.size n (k + m) (wr.setRow w.heap.size (cs.toList.take (k * 2) ++ tokCells (sxs m) ++ cs.toList.drop (k * 2 + (tokCells (sxs m)).length)).toArray) := by
  obtain ⟨hbel, cs', hblk, hs, hc⟩ := h
  have e := Eq.trans (Eq.symm hblk) hb
  injection e with e
  injection e with e
  subst e
  have hlen : (tokCells (sxs m)).length = m * 2 := by rw [tokCells_len]; simp [sxs]
  refine ⟨below_setRow hbel (Nat.le_refl _) _, _, setRow_heap wr w.heap.size cs' _ 71 (0, 0) hblk, by simp [hlen, hs]; omega, ?_⟩
  intro j hj
  rw [List.getElem?_toArray, List.append_assoc]
  by_cases h1 : j < k * 2
  · rw [List.getElem?_append_left (by simp; omega), List.getElem?_take_of_lt h1, Array.getElem?_toList]
    exact hc j h1
  · rw [List.getElem?_append_right (by simp; omega)]
    have ht : (cs'.toList.take (k * 2)).length = k * 2 := by simp; omega
    rw [ht, List.getElem?_append_left (by rw [hlen]; omega), sxs_cells m (j - k * 2) (by omega), show (j - k * 2) % 2 = j % 2 by omega]

theorem rep_done {w wr : World} {n : Nat} (h : Rep w w.heap.size n n wr) (hn : n ≤ 1000) : OwnT wr w.heap.size (some ⟨w.heap.size, 0, none⟩) (sxs n).length n (sxs n) := by
  have hl : (sxs n).length = n := by simp [sxs]
  obtain ⟨hbel, cs, hblk, hs, hc⟩ := h
  rw [hl]
  refine ⟨by rw [tokCells_len, hl], .inr ⟨w.heap.size, n, cs, rfl, Nat.le_refl _, hblk, Nat.le_refl _, by unfold maxLen; omega, hs, ?_⟩⟩
  rw [← hs, List.take_of_length_le (by simp)]
  apply List.ext_getElem?
  intro i
  by_cases hi : i < n * 2
  · rw [sxs_cells n i hi, Array.getElem?_toList]
    exact hc i hi
  · rw [List.getElem?_eq_none (by simp; omega), List.getElem?_eq_none (by rw [tokCells_len, hl]; omega)]

set_option maxRecDepth 100000 in
set_option maxHeartbeats 1600000 in
theorem repeat_one (n : Nat) (hn : n ≤ 24) (w : World) (gx cx : Nat) (hgx : gx < w.heap.size) (x0 : w.cell? ⟨gx, 0, none⟩ = some (.int .i64 1)) (x1 : w.cell? ⟨gx, 1, none⟩ = some (.int .i64 0)) :
    Calls Tryd.prog 51 #[.slice (some ⟨gx, 0, none⟩) 1 cx, .int .i64 n] w (ResT w (sxs n)) := by
  obtain ⟨i0, hi, hz0, hz1, hz2⟩ := info_parts info_tok
  have hmk : ∀ wx, (Instr.makeSlice 24 (.int .i64 (n : Int)) (.int .i64 (n : Int))).run Tryd.prog wx = .ok (.slice (some ⟨wx.heap.size, 0, none⟩) n n) (wx.alloc (.cells (madeCells (Value.agg #[.int .i64 0, .int .i64 0]).cells (n * 2)) 71)) := by
    intro wx
    have hr := run_make (P := Tryd.prog) wx 24 71 i0 _ Tryd.underlying24 hi hz0 .i64 .i64 n n (by omega) (by omega) (by rw [hz2]; omega) (by omega)
    simp only [Int.toNat_natCast, hz1] at hr
    exact hr
  obtain ⟨cur, hcur⟩ : ∃ cur, madeCells (Value.agg #[.int .i64 0, .int .i64 0]).cells (n * 2) = cur := ⟨_, rfl⟩
  have hcs : cur.size = n * 2 := by rw [← hcur]; simp [madeCells]
  rw [hcur] at hmk
  have hst : Rep w w.heap.size n 0 (w.alloc (.cells cur 71)) := ⟨(Below.refl _ _).alloc (Nat.le_refl _) _, cur, Blk.made _ _ _, hcs, by intro j hj; omega⟩
  have hc1 : (Builtin.copy_ #[24, 24] 3 #[.slice (some ⟨w.heap.size, 0, none⟩) n n, .slice (some ⟨gx, 0, none⟩) 1 cx]).run Tryd.prog (w.alloc (.cells cur 71)) =
      .ok (goInt (Nat.min 1 n)) ((w.alloc (.cells cur 71)).setRow w.heap.size (cur.toList.take (0 * 2) ++ tokCells (sxs (Nat.min 1 n)) ++ cur.toList.drop (0 * 2 + (tokCells (sxs (Nat.min 1 n))).length)).toArray) := by
    have hlen : (tokCells (sxs (Nat.min 1 n))).length = Nat.min 1 n * 2 := by rw [tokCells_len]; simp [sxs]
    have hmin : Nat.min 1 n ≤ n := Nat.min_le_right _ _
    have hmin1 : Nat.min 1 n ≤ 1 := Nat.min_le_left _ _
    have h := run_copyN (P := Tryd.prog) (w.alloc (.cells cur 71)) 24 24 3 71 w.heap.size 0 n n ⟨gx, 0, none⟩ 1 cx 2 cur 71 (tokCells (sxs (Nat.min 1 n))) Tryd.underlying24 i0 hi hz1 (heap_alloc_new w _) hlen
      (by
        intro j v hj
        have hjl : j < (tokCells (sxs (Nat.min 1 n))).length := (List.getElem?_eq_some_iff.1 hj).1
        rw [hlen] at hjl
        rw [sxs_cells _ j hjl] at hj
        injection hj with hj
        subst hj
        rw [own_adds, World.cell?_alloc_past _ _ _ (by exact hgx)]
        have hj2 : j = 0 ∨ j = 1 := by omega
        rcases hj2 with rfl | rfl
        · exact x0
        · exact x1)
      (by rw [hlen]; omega) (sxs_one _)
    simpa using h
  have hmin : Nat.min 1 n ≤ n := Nat.min_le_right _ _
  have hmin1 : Nat.min 1 n ≤ 1 := Nat.min_le_left _ _
  have hrep1 := rep_copy (m := Nat.min 1 n) hst (by omega) cur (Blk.made _ _ _)
  obtain ⟨w1, hw1⟩ : ∃ w1, (w.alloc (.cells cur 71)).setRow w.heap.size (cur.toList.take (0 * 2) ++ tokCells (sxs (Nat.min 1 n)) ++ cur.toList.drop (0 * 2 + (tokCells (sxs (Nat.min 1 n))).length)).toArray = w1 := ⟨_, rfl⟩
  rw [hw1] at hc1 hrep1
  obtain ⟨m1, hm1⟩ : ∃ m1, Nat.min 1 n = m1 := ⟨_, rfl⟩
  have hpos : 1 ≤ n → 1 ≤ m1 := by intro h; rw [← hm1]; exact Nat.le_min.2 ⟨Nat.le_refl _, h⟩
  rw [hm1] at hc1 hrep1 hmin hmin1
  rw [Nat.zero_add] at hrep1
  have HR1 := Lib.hid hrep1
  have HPOS := Lib.hid hpos
  have HM := Lib.hid hm1
  have HI := Lib.hid hi
  have HZ := Lib.hid hz1
  clear hrep1 hw1 hst hcur hcs hi hz0 hz1 hz2 hpos hm1
  have hconv : IntKind.u64.wrap (n : Int) = (n : Int) := by rw [IntKind.wrap_u64]; omega
  have hconv2 : IntKind.i64.wrap (n : Int) = (n : Int) := by rw [IntKind.wrap_i64]; omega
  have hd0 : decide ((n : Int) < 0) = false := decide_eq_false (by omega)
  have hd1 : decide ((9223372036854775807 : Int) < (n : Int)) = false := decide_eq_false (by omega)
  go_enter Tryd.func51, Tryd.ntmps51
  go_wp2_with fail
  refine (mul_one n (by omega) w).mono ?_
  rintro e w' ⟨rfl, rfl⟩
  go_wp2_with fail
  go_loopw [8] (fun i wr => ∃ k : Nat, k ≤ n ∧ Hid (1 ≤ n → 1 ≤ k) ∧ i = .int .i64 k ∧ Rep w w.heap.size n k wr) (fun i _ => n - (intOf i).toNat)
  case atStart => exact ⟨m1, hmin, HPOS.out, rfl, HR1.out⟩
  case round =>
    obtain ⟨k, hk, hkp, rfl, hR⟩ := hrel
    by_cases hlt : k < n
    · have hk1 := hkp.out (by omega)
      have hne : ¬ n = k := by omega
      obtain ⟨m, hm⟩ : ∃ m, Nat.min k (n - k) = m := ⟨_, rfl⟩
      have hm1 : 1 ≤ m := by rw [← hm]; exact Nat.le_min.2 ⟨by omega, by omega⟩
      have hm2 : m ≤ k := by rw [← hm]; exact Nat.min_le_left _ _
      have hm3 : m ≤ n - k := by rw [← hm]; exact Nat.min_le_right _ _
      obtain ⟨hbel, cs, hblk, hs, hc⟩ := hR
      have hlen : (tokCells (sxs m)).length = m * 2 := by rw [tokCells_len]; simp [sxs]
      have HNX := Lib.hid (rep_copy (m := m) ⟨hbel, cs, hblk, hs, hc⟩ (by omega) cs hblk)
      have hcp : (Builtin.copy_ #[24, 24] 3 #[.slice (some ⟨w.heap.size, k * 2, none⟩) (n - k) (n - k), .slice (some ⟨w.heap.size, 0, none⟩) k n]).run Tryd.prog wr.drew =
          .ok (goInt m) (wr.drew.setRow w.heap.size (cs.toList.take (k * 2) ++ tokCells (sxs m) ++ cs.toList.drop (k * 2 + (tokCells (sxs m)).length)).toArray) := by
        have h := run_copyN (P := Tryd.prog) wr.drew 24 24 3 71 w.heap.size (k * 2) (n - k) (n - k) ⟨w.heap.size, 0, none⟩ k n 2 cs 71 (tokCells (sxs m)) Tryd.underlying24 i0 HI.out HZ.out hblk (by rw [hlen, hm])
          (by
            intro j v hj
            have hjl : j < (tokCells (sxs m)).length := (List.getElem?_eq_some_iff.1 hj).1
            rw [hlen] at hjl
            rw [sxs_cells _ j hjl] at hj
            rw [own_adds, ← hj]
            exact (hblk.cell j).trans (hc j (by omega)))
          (by rw [hlen]; omega) (sxs_one _)
        rw [hm] at h
        exact h
      obtain ⟨w2, hw2⟩ : ∃ w2, wr.setRow w.heap.size (cs.toList.take (k * 2) ++ tokCells (sxs m) ++ cs.toList.drop (k * 2 + (tokCells (sxs m)).length)).toArray = w2 := ⟨_, rfl⟩
      have hw3 : wr.drew.setRow w.heap.size (cs.toList.take (k * 2) ++ tokCells (sxs m) ++ cs.toList.drop (k * 2 + (tokCells (sxs m)).length)).toArray = w2.drew := by rw [← hw2]; rfl
      rw [hw3] at hcp
      have HN2 : Hid (Rep w w.heap.size n (k + m) w2.drew) := by
        have h := HNX.out
        rw [hw2] at h
        exact ⟨h.1.drew, h.2⟩
      have HCP := Lib.hid hcp
      have hsub : n - k = n - k := rfl
      clear HNX hw2 hw3 hm hs hc hblk hlen hsub hcp
      have hcp := HCP.out
      go_wp2_with fail
      go_region
      go_wp2
      go_roundw
      case rel => exact ⟨k + m, by omega, fun _ => by omega, by go_num, HN2.out⟩
      case measure => simp [intOf]; omega
    · obtain rfl : k = n := by omega
      have HD := Lib.hid (rep_done hR (by omega))
      have HB := Lib.hid hR.1
      have HL : Hid ((sxs k).length = k) := by show _ = _; simp [sxs]
      clear hR
      go_wp2
      go_ret
      exact ⟨w.heap.size, k, by rw [HL.out]; rfl, HD.out, HB.out⟩

/-- a slice value that is not nil, its cells those of the tokens l, below block B -/
def TokA (w : World) (B : Nat) (ad : Addr) (l : List (Int × Int)) : Prop := ad.block < B ∧ ∀ j u, (tokCells l)[j]? = some u → w.cell? (ad.add j) = some u
theorem TokA.below {w w' : World} {B : Nat} {ad : Addr} {l : List (Int × Int)} (h : TokA w B ad l) (hb : Below B w w') : TokA w' B ad l :=
  ⟨h.1, fun j u hu => by
    have hbl : (ad.add j).block = ad.block := by unfold Addr.add; split <;> rfl
    exact (hb.cell (by rw [hbl]; exact h.1)).trans (h.2 j u hu)⟩
theorem TokA.more {w : World} {B B' : Nat} {ad : Addr} {l : List (Int × Int)} (h : TokA w B ad l) (hB : B ≤ B') : TokA w B' ad l := ⟨by have := h.1; omega, h.2⟩
theorem TokR.tokA {w : World} {B : Nat} {A : Option Addr} {n : Nat} {l : List (Int × Int)} (h : TokR w B A n l) (hn : 0 < n) : ∃ ad, A = some ad ∧ TokA w B ad l := by
  obtain ⟨b, off, rfl, hb, hc⟩ := h.2 hn
  refine ⟨_, rfl, hb, fun j u hu => ?_⟩
  have hj : j < (tokCells l).length := (List.getElem?_eq_some_iff.1 hu).1
  rw [tokCells_len, h.1] at hj
  have hadd : (⟨b, off, none⟩ : Addr).add j = ⟨b, off + j, none⟩ := by
    unfold Addr.add
    by_cases h : j = 0
    · subst h; rfl
    · rw [if_neg h]
  rw [hadd]
  rcases Nat.mod_two_eq_zero_or_one j with h0 | h0
  · obtain ⟨k, rfl⟩ : ∃ k, j = k * 2 := ⟨j / 2, by omega⟩
    rw [(tokCells_at l k (by have := h.1; omega)).1] at hu
    rw [← hu]; exact (hc k (by omega)).1
  · obtain ⟨k, rfl⟩ : ∃ k, j = k * 2 + 1 := ⟨j / 2, by omega⟩
    rw [(tokCells_at l k (by have := h.1; omega)).2] at hu
    rw [← hu]; exact (hc k (by omega)).2
theorem OwnT.tokA {w : World} {base : Nat} {g n c : Nat} {l : List (Int × Int)} (h : OwnT w base (some ⟨g, 0, none⟩) n c l) : TokA w w.heap.size ⟨g, 0, none⟩ l :=
  ⟨(h.lt g rfl).2, fun j u hu => h.cells (g := g) rfl j u hu⟩
theorem tokCells_one (l : List (Int × Int)) : ∀ v ∈ tokCells l, v.oneCell' = true := by
  intro v hv
  simp only [tokCells, List.mem_flatMap] at hv
  obtain ⟨t, _, ht⟩ := hv
  simp at ht
  rcases ht with rfl | rfl <;> rfl
end Go.Proofs.YtgbdojenenfgfaaDoor
