/- math/bits.Mul at small numbers; slices.Grow, Repeat and Concat over tokens. -/
/- slices.Concat over slices of tokens. -/
/- The machine's struct with its stack. -/
import Derived.Test.YtgebjnoicgmdoaaDoorMarks
import Derived.Lib.AppendZeros
import Derived.Laws.BitsAllLaws
import Derived.Laws.BitsLemmas
import Derived.Laws.CopyOwn
import Derived.RegionTactic
import Derived.BigRegion

namespace Go.Proofs.YtgebjnoicgmdoaaDoor
open Go.RowKit

set_option maxHeartbeats 800000 in
theorem mul64_one (y : Nat) (hy : y ≤ 1000) (w : World) :
    Calls Tryd.prog 77 #[.int .u64 1, .int .u64 y] w fun e w' => e = .returned (.tuple #[.int .u64 0, .int .u64 y]) ∧ w = w' := by
  have a1 : bits BinOp.and IntKind.u64 1 4294967295 = 1 := by decide +kernel
  have a0 : bits BinOp.and IntKind.u64 0 4294967295 = 0 := by decide +kernel
  have ay : bits BinOp.and IntKind.u64 (y : Int) 4294967295 = (y : Int) := by
    have h := bits_and_u64_nat y 4294967295 (by omega) (by omega)
    rw [show y &&& 4294967295 = y % 4294967296 from Nat.and_two_pow_sub_one_eq_mod y 32, Nat.mod_eq_of_lt (by omega)] at h
    exact h
  have wy : IntKind.u64.wrap (y : Int) = (y : Int) := by rw [IntKind.wrap_u64]; omega
  have w0 : IntKind.u64.wrap 0 = 0 := by rw [IntKind.wrap_u64]; rfl
  have dy : (y : Int) / 4294967296 = 0 := by omega
  have H1 := Lib.hid a1
  have H2 := Lib.hid a0
  have H3 := Lib.hid ay
  have H4 := Lib.hid wy
  have H5 := Lib.hid w0
  have H6 := Lib.hid dy
  clear a1 a0 ay wy w0 dy
  go_enter Tryd.func77, Tryd.ntmps77
  go_wp2
  simp only [H1.out, H2.out, H3.out, H4.out, H5.out, H6.out, Int.one_mul, Int.mul_zero, Int.zero_ediv, Int.add_zero]
  go_ret2
  exact ⟨rfl, rfl⟩

set_option maxHeartbeats 800000 in
theorem mul_one (y : Nat) (hy : y ≤ 1000) (w : World) :
    Calls Tryd.prog 68 #[.int .u64 1, .int .u64 y] w fun e w' => e = .returned (.tuple #[.int .u64 0, .int .u64 y]) ∧ w = w' := by
  go_enter Tryd.func68, Tryd.ntmps68
  go_wp2_with fail
  refine (mul64_one y hy w).mono ?_
  rintro e w' ⟨rfl, rfl⟩
  go_wp2
  go_ret2
  exact ⟨rfl, rfl⟩

/-- a call gives back a slice of tokens of its own that is not nil -/
def ResT (w : World) (l : List (Int × Int)) (e : Ending) (w' : World) : Prop :=
  ∃ g c, e = .returned (.slice (some ⟨g, 0, none⟩) l.length c) ∧ OwnT w' w.heap.size (some ⟨g, 0, none⟩) l.length c l ∧ Below w.heap.size w w'

set_option maxRecDepth 100000 in
set_option maxHeartbeats 800000 in
theorem grow_nil (n : Nat) (h1 : 1 ≤ n) (hn : n ≤ 1000) (w : World) :
    Calls Tryd.prog 67 #[.slice none 0 0, .int .i64 n] w (ResT w []) := by
  obtain ⟨i0, hi, hz0, hz1, hz2⟩ := info_parts info_tok
  have hr := Lib.run_append_nil_zeros (P := Tryd.prog) w 35 3 35 56 i0 _ .i64 .i64 Tryd.underlying35 Tryd.underlying3 hi hz0 n (by omega) (by omega) (by omega) (by rw [hz2]; omega)
  have hge := grownCap_ge w n 0 56
  have hle := grownCap_le_maxLen w n 0 56 (by unfold maxLen; omega)
  generalize grownCap w n 0 56 = cp at hr hge hle
  obtain ⟨cur, hcur⟩ : ∃ cur, Builtin.zeroCells (Value.agg #[.int .i64 0, .int .i64 0]).cells n ++ Builtin.zeroCells (Value.agg #[.int .i64 0, .int .i64 0]).cells (cp - n) = cur := ⟨_, rfl⟩
  have hsz : cur.size = cp * 2 := by
    rw [← hcur, Array.size_append, size_zeroCells, size_zeroCells]
    have : (Value.agg #[.int .i64 0, .int .i64 0]).cells.size = 2 := rfl
    rw [this]; omega
  rw [hcur] at hr
  have HO : Hid (OwnT (w.drew.alloc (.cells cur 56)) w.heap.size (some ⟨w.heap.size, 0, none⟩) 0 cp []) :=
    World.ownsRow_made w.drew cur cp (Nat.le_refl _) hle hsz
  have HB : Hid (Below w.heap.size w (w.drew.alloc (.cells cur 56))) := (Below.refl _ _).drew.alloc (Nat.le_refl _) _
  have HR := Lib.hid hr
  clear hr hcur hsz hle hi hz0 hz1 hz2
  go_enter Tryd.func67, Tryd.ntmps67
  go_wp2_with (at_builtin; refine Lib.wpList_append_run _ rfl (.tmp 20) (.tmp 21) 35 3 rfl (.slice none 0 0) (.int .i64 n) rfl rfl _ _ HR.out ?_)
  go_wp2
  go_ret
  exact ⟨w.heap.size, cp, rfl, HO.out, HB.out⟩

/-- copy between rows whose elements have several cells -/
theorem run_copyN {P : Program} (w : World) (dT sT ty elem : TypeId) (g o dLen dCap : Nat) (a : Addr) (sLen sCap size : Nat) (cur : Array Value) (t : TypeId) (cs : List Value)
    (hu : P.underlying dT = some (.slice elem)) (i : TypeInfo) (hi : P.info? elem = some i) (hs : i.size = size)
    (hg : w.heap[g]? = some (.cells cur t (0, 0))) (hn : cs.length = Nat.min sLen dLen * size)
    (hsrc : ∀ j v, cs[j]? = some v → w.cell? (a.add j) = some v) (hfit : o + cs.length ≤ cur.size) (h1 : ∀ v ∈ cs, v.oneCell' = true) :
    (Builtin.copy_ #[dT, sT] ty #[.slice (some ⟨g, o, none⟩) dLen dCap, .slice (some a) sLen sCap]).run P w =
      .ok (goInt (Nat.min sLen dLen)) (w.setRow g (cur.toList.take o ++ cs ++ cur.toList.drop (o + cs.length)).toArray) := by
  have hf := run_firstCells_some (P := P) w size (Nat.min sLen dLen) a sLen sCap cs hn hsrc
  have hst := run_storeCells_at P g o t cs 0 cur w hg (by simpa using hfit) h1
  simp [Builtin.copy_, run_underlying hu, Builtin.lenOf, sizeOf, typeInfo, hi, hs, hf, hst]

/-- a token that is a successor, n times -/
def sxs (n : Nat) : List (Int × Int) := List.replicate n (1, 0)
theorem sxs_cells (n j : Nat) (h : j < n * 2) : (tokCells (sxs n))[j]? = some (.int .i64 (if j % 2 = 0 then 1 else 0)) := by
  have hl : (sxs n).length = n := by simp [sxs]
  have hg : ∀ k, k < n → (sxs n).getD k (0, 0) = (1, 0) := by
    intro k hk
    simp [sxs, List.getD_eq_getElem?_getD, hk]
  rcases Nat.mod_two_eq_zero_or_one j with h0 | h0
  · obtain ⟨k, rfl⟩ : ∃ k, j = k * 2 := ⟨j / 2, by omega⟩
    rw [(tokCells_at _ k (by omega)).1, hg k (by omega), if_pos h0]
  · obtain ⟨k, rfl⟩ : ∃ k, j = k * 2 + 1 := ⟨j / 2, by omega⟩
    rw [(tokCells_at _ k (by omega)).2, hg k (by omega), if_neg (by omega)]
theorem sxs_one (n : Nat) : ∀ v ∈ tokCells (sxs n), v.oneCell' = true := by
  intro v hv
  simp only [tokCells, List.mem_flatMap] at hv
  obtain ⟨t, _, ht⟩ := hv
  simp at ht
  rcases ht with rfl | rfl <;> rfl

/-- the first k of n tokens are successors -/
def Rep (w : World) (g n k : Nat) (wr : World) : Prop :=
  Below w.heap.size w wr ∧ ∃ cs, Blk wr g 56 cs ∧ cs.size = n * 2 ∧ ∀ j, j < k * 2 → cs[j]? = some (.int .i64 (if j % 2 = 0 then 1 else 0))

theorem rep_copy {w wr : World} {n k m : Nat} (h : Rep w w.heap.size n k wr) (hm : k + m ≤ n) (cs : Array Value) (hb : Blk wr w.heap.size 56 cs) :
    Rep w w.heap.size n (k + m) (wr.setRow w.heap.size (cs.toList.take (k * 2) ++ tokCells (sxs m) ++ cs.toList.drop (k * 2 + (tokCells (sxs m)).length)).toArray) := by
  obtain ⟨hbel, cs', hblk, hs, hc⟩ := h
  have e := Eq.trans (Eq.symm hblk) hb
  injection e with e
  injection e with e
  subst e
  have hlen : (tokCells (sxs m)).length = m * 2 := by rw [tokCells_len]; simp [sxs]
  refine ⟨below_setRow hbel (Nat.le_refl _) _, _, setRow_heap wr w.heap.size cs' _ 56 (0, 0) hblk, by simp [hlen, hs]; omega, ?_⟩
  intro j hj
  rw [List.getElem?_toArray, List.append_assoc]
  by_cases h1 : j < k * 2
  · rw [List.getElem?_append_left (by simp; omega), List.getElem?_take_of_lt h1, Array.getElem?_toList]
    exact hc j h1
  · rw [List.getElem?_append_right (by simp; omega)]
    have ht : (cs'.toList.take (k * 2)).length = k * 2 := by simp; omega
    rw [ht, List.getElem?_append_left (by rw [hlen]; omega), sxs_cells m (j - k * 2) (by omega), show (j - k * 2) % 2 = j % 2 by omega]

theorem rep_done {w wr : World} {n : Nat} (h : Rep w w.heap.size n n wr) (hn : n ≤ 1000) : OwnT wr w.heap.size (some ⟨w.heap.size, 0, none⟩) (sxs n).length n (sxs n) := by
  have hl : (sxs n).length = n := by simp [sxs]
  obtain ⟨hbel, cs, hblk, hs, hc⟩ := h
  rw [hl]
  refine ⟨by rw [tokCells_len, hl], .inr ⟨w.heap.size, n, cs, rfl, Nat.le_refl _, hblk, Nat.le_refl _, by unfold maxLen; omega, hs, ?_⟩⟩
  rw [← hs, List.take_of_length_le (by simp)]
  apply List.ext_getElem?
  intro i
  by_cases hi : i < n * 2
  · rw [sxs_cells n i hi, Array.getElem?_toList]
    exact hc i hi
  · rw [List.getElem?_eq_none (by simp; omega), List.getElem?_eq_none (by rw [tokCells_len, hl]; omega)]

set_option maxRecDepth 100000 in
set_option maxHeartbeats 1600000 in
theorem repeat_one (n : Nat) (hn : n ≤ 24) (w : World) (gx cx : Nat) (hgx : gx < w.heap.size) (x0 : w.cell? ⟨gx, 0, none⟩ = some (.int .i64 1)) (x1 : w.cell? ⟨gx, 1, none⟩ = some (.int .i64 0)) :
    Calls Tryd.prog 57 #[.slice (some ⟨gx, 0, none⟩) 1 cx, .int .i64 n] w (ResT w (sxs n)) := by
  obtain ⟨i0, hi, hz0, hz1, hz2⟩ := info_parts info_tok
  have hmk : ∀ wx, (Instr.makeSlice 35 (.int .i64 (n : Int)) (.int .i64 (n : Int))).run Tryd.prog wx = .ok (.slice (some ⟨wx.heap.size, 0, none⟩) n n) (wx.alloc (.cells (madeCells (Value.agg #[.int .i64 0, .int .i64 0]).cells (n * 2)) 56)) := by
    intro wx
    have hr := run_make (P := Tryd.prog) wx 35 56 i0 _ Tryd.underlying35 hi hz0 .i64 .i64 n n (by omega) (by omega) (by rw [hz2]; omega) (by omega)
    simp only [Int.toNat_natCast, hz1] at hr
    exact hr
  obtain ⟨cur, hcur⟩ : ∃ cur, madeCells (Value.agg #[.int .i64 0, .int .i64 0]).cells (n * 2) = cur := ⟨_, rfl⟩
  have hcs : cur.size = n * 2 := by rw [← hcur]; simp [madeCells]
  rw [hcur] at hmk
  have hst : Rep w w.heap.size n 0 (w.alloc (.cells cur 56)) := ⟨(Below.refl _ _).alloc (Nat.le_refl _) _, cur, Blk.made _ _ _, hcs, by intro j hj; omega⟩
  have hc1 : (Builtin.copy_ #[35, 35] 3 #[.slice (some ⟨w.heap.size, 0, none⟩) n n, .slice (some ⟨gx, 0, none⟩) 1 cx]).run Tryd.prog (w.alloc (.cells cur 56)) =
      .ok (goInt (Nat.min 1 n)) ((w.alloc (.cells cur 56)).setRow w.heap.size (cur.toList.take (0 * 2) ++ tokCells (sxs (Nat.min 1 n)) ++ cur.toList.drop (0 * 2 + (tokCells (sxs (Nat.min 1 n))).length)).toArray) := by
    have hlen : (tokCells (sxs (Nat.min 1 n))).length = Nat.min 1 n * 2 := by rw [tokCells_len]; simp [sxs]
    have hmin : Nat.min 1 n ≤ n := Nat.min_le_right _ _
    have hmin1 : Nat.min 1 n ≤ 1 := Nat.min_le_left _ _
    have h := run_copyN (P := Tryd.prog) (w.alloc (.cells cur 56)) 35 35 3 56 w.heap.size 0 n n ⟨gx, 0, none⟩ 1 cx 2 cur 56 (tokCells (sxs (Nat.min 1 n))) Tryd.underlying35 i0 hi hz1 (heap_alloc_new w _) hlen
      (by
        intro j v hj
        have hjl : j < (tokCells (sxs (Nat.min 1 n))).length := (List.getElem?_eq_some_iff.1 hj).1
        rw [hlen] at hjl
        rw [sxs_cells _ j hjl] at hj
        injection hj with hj
        subst hj
        rw [own_adds, World.cell?_alloc_past _ _ _ (by exact hgx)]
        have hj2 : j = 0 ∨ j = 1 := by omega
        rcases hj2 with rfl | rfl
        · exact x0
        · exact x1)
      (by rw [hlen]; omega) (sxs_one _)
    simpa using h
  have hmin : Nat.min 1 n ≤ n := Nat.min_le_right _ _
  have hmin1 : Nat.min 1 n ≤ 1 := Nat.min_le_left _ _
  have hrep1 := rep_copy (m := Nat.min 1 n) hst (by omega) cur (Blk.made _ _ _)
  obtain ⟨w1, hw1⟩ : ∃ w1, (w.alloc (.cells cur 56)).setRow w.heap.size (cur.toList.take (0 * 2) ++ tokCells (sxs (Nat.min 1 n)) ++ cur.toList.drop (0 * 2 + (tokCells (sxs (Nat.min 1 n))).length)).toArray = w1 := ⟨_, rfl⟩
  rw [hw1] at hc1 hrep1
  obtain ⟨m1, hm1⟩ : ∃ m1, Nat.min 1 n = m1 := ⟨_, rfl⟩
  have hpos : 1 ≤ n → 1 ≤ m1 := by intro h; rw [← hm1]; exact Nat.le_min.2 ⟨Nat.le_refl _, h⟩
  rw [hm1] at hc1 hrep1 hmin hmin1
  rw [Nat.zero_add] at hrep1
  have HR1 := Lib.hid hrep1
  have HPOS := Lib.hid hpos
  have HM := Lib.hid hm1
  have HI := Lib.hid hi
  have HZ := Lib.hid hz1
  clear hrep1 hw1 hst hcur hcs hi hz0 hz1 hz2 hpos hm1
  have hconv : IntKind.u64.wrap (n : Int) = (n : Int) := by rw [IntKind.wrap_u64]; omega
  have hconv2 : IntKind.i64.wrap (n : Int) = (n : Int) := by rw [IntKind.wrap_i64]; omega
  have hd0 : decide ((n : Int) < 0) = false := decide_eq_false (by omega)
  have hd1 : decide ((9223372036854775807 : Int) < (n : Int)) = false := decide_eq_false (by omega)
  go_enter Tryd.func57, Tryd.ntmps57
  go_wp2_with fail
  refine (mul_one n (by omega) w).mono ?_
  rintro e w' ⟨rfl, rfl⟩
  go_wp2_with fail
  go_loopw [8] (fun i wr => ∃ k : Nat, k ≤ n ∧ Hid (1 ≤ n → 1 ≤ k) ∧ i = .int .i64 k ∧ Rep w w.heap.size n k wr) (fun i _ => n - (intOf i).toNat)
  case atStart => exact ⟨m1, hmin, HPOS.out, rfl, HR1.out⟩
  case round =>
    obtain ⟨k, hk, hkp, rfl, hR⟩ := hrel
    by_cases hlt : k < n
    · have hk1 := hkp.out (by omega)
      have hne : ¬ n = k := by omega
      obtain ⟨m, hm⟩ : ∃ m, Nat.min k (n - k) = m := ⟨_, rfl⟩
      have hm1 : 1 ≤ m := by rw [← hm]; exact Nat.le_min.2 ⟨by omega, by omega⟩
      have hm2 : m ≤ k := by rw [← hm]; exact Nat.min_le_left _ _
      have hm3 : m ≤ n - k := by rw [← hm]; exact Nat.min_le_right _ _
      obtain ⟨hbel, cs, hblk, hs, hc⟩ := hR
      have hlen : (tokCells (sxs m)).length = m * 2 := by rw [tokCells_len]; simp [sxs]
      have HNX := Lib.hid (rep_copy (m := m) ⟨hbel, cs, hblk, hs, hc⟩ (by omega) cs hblk)
      have hcp : (Builtin.copy_ #[35, 35] 3 #[.slice (some ⟨w.heap.size, k * 2, none⟩) (n - k) (n - k), .slice (some ⟨w.heap.size, 0, none⟩) k n]).run Tryd.prog wr.drew =
          .ok (goInt m) (wr.drew.setRow w.heap.size (cs.toList.take (k * 2) ++ tokCells (sxs m) ++ cs.toList.drop (k * 2 + (tokCells (sxs m)).length)).toArray) := by
        have h := run_copyN (P := Tryd.prog) wr.drew 35 35 3 56 w.heap.size (k * 2) (n - k) (n - k) ⟨w.heap.size, 0, none⟩ k n 2 cs 56 (tokCells (sxs m)) Tryd.underlying35 i0 HI.out HZ.out hblk (by rw [hlen, hm])
          (by
            intro j v hj
            have hjl : j < (tokCells (sxs m)).length := (List.getElem?_eq_some_iff.1 hj).1
            rw [hlen] at hjl
            rw [sxs_cells _ j hjl] at hj
            rw [own_adds, ← hj]
            exact (hblk.cell j).trans (hc j (by omega)))
          (by rw [hlen]; omega) (sxs_one _)
        rw [hm] at h
        exact h
      obtain ⟨w2, hw2⟩ : ∃ w2, wr.setRow w.heap.size (cs.toList.take (k * 2) ++ tokCells (sxs m) ++ cs.toList.drop (k * 2 + (tokCells (sxs m)).length)).toArray = w2 := ⟨_, rfl⟩
      have hw3 : wr.drew.setRow w.heap.size (cs.toList.take (k * 2) ++ tokCells (sxs m) ++ cs.toList.drop (k * 2 + (tokCells (sxs m)).length)).toArray = w2.drew := by rw [← hw2]; rfl
      rw [hw3] at hcp
      have HN2 : Hid (Rep w w.heap.size n (k + m) w2.drew) := by
        have h := HNX.out
        rw [hw2] at h
        exact ⟨h.1.drew, h.2⟩
      have HCP := Lib.hid hcp
      have hsub : n - k = n - k := rfl
      clear HNX hw2 hw3 hm hs hc hblk hlen hsub hcp
      have hcp := HCP.out
      go_wp2_with fail
      go_region
      go_wp2
      go_roundw
      case rel => exact ⟨k + m, by omega, fun _ => by omega, by go_num, HN2.out⟩
      case measure => simp [intOf]; omega
    · obtain rfl : k = n := by omega
      have HD := Lib.hid (rep_done hR (by omega))
      have HB := Lib.hid hR.1
      have HL : Hid ((sxs k).length = k) := by show _ = _; simp [sxs]
      clear hR
      go_wp2
      go_ret
      exact ⟨w.heap.size, k, by rw [HL.out]; rfl, HD.out, HB.out⟩

/-- a slice value that is not nil, its cells those of the tokens l, below block B -/
def TokA (w : World) (B : Nat) (ad : Addr) (l : List (Int × Int)) : Prop := ad.block < B ∧ ∀ j u, (tokCells l)[j]? = some u → w.cell? (ad.add j) = some u
theorem TokA.below {w w' : World} {B : Nat} {ad : Addr} {l : List (Int × Int)} (h : TokA w B ad l) (hb : Below B w w') : TokA w' B ad l :=
  ⟨h.1, fun j u hu => by
    have hbl : (ad.add j).block = ad.block := by unfold Addr.add; split <;> rfl
    exact (hb.cell (by rw [hbl]; exact h.1)).trans (h.2 j u hu)⟩
theorem TokA.more {w : World} {B B' : Nat} {ad : Addr} {l : List (Int × Int)} (h : TokA w B ad l) (hB : B ≤ B') : TokA w B' ad l := ⟨by have := h.1; omega, h.2⟩
theorem TokR.tokA {w : World} {B : Nat} {A : Option Addr} {n : Nat} {l : List (Int × Int)} (h : TokR w B A n l) (hn : 0 < n) : ∃ ad, A = some ad ∧ TokA w B ad l := by
  obtain ⟨b, off, rfl, hb, hc⟩ := h.2 hn
  refine ⟨_, rfl, hb, fun j u hu => ?_⟩
  have hj : j < (tokCells l).length := (List.getElem?_eq_some_iff.1 hu).1
  rw [tokCells_len, h.1] at hj
  have hadd : (⟨b, off, none⟩ : Addr).add j = ⟨b, off + j, none⟩ := by
    unfold Addr.add
    by_cases h : j = 0
    · subst h; rfl
    · rw [if_neg h]
  rw [hadd]
  rcases Nat.mod_two_eq_zero_or_one j with h0 | h0
  · obtain ⟨k, rfl⟩ : ∃ k, j = k * 2 := ⟨j / 2, by omega⟩
    rw [(tokCells_at l k (by have := h.1; omega)).1] at hu
    rw [← hu]; exact (hc k (by omega)).1
  · obtain ⟨k, rfl⟩ : ∃ k, j = k * 2 + 1 := ⟨j / 2, by omega⟩
    rw [(tokCells_at l k (by have := h.1; omega)).2] at hu
    rw [← hu]; exact (hc k (by omega)).2
theorem OwnT.tokA {w : World} {base : Nat} {g n c : Nat} {l : List (Int × Int)} (h : OwnT w base (some ⟨g, 0, none⟩) n c l) : TokA w w.heap.size ⟨g, 0, none⟩ l :=
  ⟨(h.lt g rfl).2, fun j u hu => h.cells (g := g) rfl j u hu⟩
theorem tokCells_one (l : List (Int × Int)) : ∀ v ∈ tokCells l, v.oneCell' = true := by
  intro v hv
  simp only [tokCells, List.mem_flatMap] at hv
  obtain ⟨t, _, ht⟩ := hv
  simp at ht
  rcases ht with rfl | rfl <;> rfl
end Go.Proofs.YtgebjnoicgmdoaaDoor

namespace Go.Proofs.YtgebjnoicgmdoaaDoor
open Go.RowKit

theorem flat_take {α : Type} (ls : List (List α)) (k : Nat) (hk : k < ls.length) : (ls.take (k + 1)).flatten = (ls.take k).flatten ++ ls.getD k [] := by
  rw [List.take_succ_eq_append_getElem hk, List.flatten_append]
  simp [List.getD_eq_getElem?_getD, List.getElem?_eq_getElem hk]
theorem flat_le {α : Type} (ls : List (List α)) (k : Nat) : (ls.take k).flatten.length ≤ ls.flatten.length := by
  have h : ls.flatten = (ls.take k).flatten ++ (ls.drop k).flatten := by rw [← List.flatten_append, List.take_append_drop]
  rw [h]; simp

/-- the slices that are joined: their values in a row at block gs, their tokens below B -/
def Parts (w : World) (B gs : Nat) (ad : Nat → Addr) (cp : Nat → Nat) (ls : List (List (Int × Int))) : Prop :=
  gs < B ∧ ∀ i, i < ls.length → w.cell? ⟨gs, i, none⟩ = some (.slice (some (ad i)) (ls.getD i []).length (cp i)) ∧ TokA w B (ad i) (ls.getD i [])
theorem Parts.below {w w' : World} {B gs : Nat} {ad : Nat → Addr} {cp : Nat → Nat} {ls : List (List (Int × Int))} (h : Parts w B gs ad cp ls) (hb : Below B w w') : Parts w' B gs ad cp ls :=
  ⟨h.1, fun i hi => ⟨(hb.cell (p := ⟨gs, i, none⟩) h.1).trans (h.2 i hi).1, (h.2 i hi).2.below hb⟩⟩

set_option maxRecDepth 100000 in
set_option maxHeartbeats 1600000 in
theorem concat_any (w : World) (B gs cs : Nat) (ad : Nat → Addr) (cp : Nat → Nat) (ls : List (List (Int × Int))) (hB : B ≤ w.heap.size) (hp : Parts w B gs ad cp ls) (hm : ls.length ≤ 10) (h1 : 1 ≤ ls.flatten.length) (hn : ls.flatten.length ≤ 1000) :
    Calls Tryd.prog 56 #[.slice (some ⟨gs, 0, none⟩) ls.length cs] w (ResT w ls.flatten) := by
  obtain ⟨i0, hi, hz0, hz1, hz2⟩ := info_parts info_tok
  go_enter Tryd.func56, Tryd.ntmps56
  go_wp2
  go_loop [3, 11] (fun s i => ∃ k : Nat, k ≤ ls.length ∧ i = .int .i64 k ∧ s = .int .i64 ((ls.take k).flatten.length : Nat)) (fun _ i => ls.length - (intOf i).toNat)
  case atStart => exact ⟨0, Nat.zero_le _, rfl, rfl⟩
  case round =>
    obtain ⟨k, hk, rfl, rfl⟩ := hrel
    have hle := flat_le ls k
    by_cases hlt : k < ls.length
    · have hc := (hp.2 k hlt).1
      have HF := Lib.hid (congrArg List.length (flat_take ls k hlt))
      have hle2 := flat_le ls (k + 1)
      have hsum : (ls.take k).flatten.length + (ls.getD k []).length ≤ 1000 := by
        have := HF.out
        simp at this
        simp at hle2
        have : (List.take (k + 1) ls).flatten.length ≤ ls.flatten.length := by simpa using flat_le ls (k + 1)
        rw [HF.out, List.length_append] at this
        omega
      have HP := Lib.hid hp
      obtain ⟨a, ha⟩ : ∃ a, (ls.take k).flatten.length = a := ⟨_, rfl⟩
      obtain ⟨b, hb⟩ : ∃ b, (ls.getD k []).length = b := ⟨_, rfl⟩
      have HF2 : Hid ((ls.take (k + 1)).flatten.length = a + b) := by
        show _ = _
        rw [HF.out, List.length_append, ha, hb]
      rw [hb] at hc
      rw [ha, hb] at hsum
      have HA := Lib.hid ha
      rw [ha]
      clear ha hb hle hle2 HF hp
      go_wp2
      go_round
      case rel => exact ⟨k + 1, by omega, by go_num, by rw [HF2.out]; go_num⟩
      case measure => simp [intOf]; omega
    · obtain rfl : k = ls.length := by omega
      have ht : (ls.take ls.length).flatten.length = ls.flatten.length := by rw [List.take_length]
      rw [ht]
      have HT := Lib.hid ht
      obtain ⟨N, hN⟩ : ∃ N, ls.flatten.length = N := ⟨_, rfl⟩
      rw [hN] at h1 hn ⊢
      have HN := Lib.hid hN
      clear ht hN hle hlt
      go_wp2_with fail
      refine (grow_nil N h1 hn w).mono ?_
      rintro e w1 ⟨g, c, rfl, ho1, hb1⟩
      simp only [List.length_nil] at ho1 ⊢
      have HO1 := Lib.hid ho1
      clear ho1
      go_wp2
      go_loopw [6, 27] (fun v i wr => ∃ (k g c : Nat), k ≤ ls.length ∧ i = .int .i64 k ∧ v = .slice (some ⟨g, 0, none⟩) (ls.take k).flatten.length c ∧ OwnT wr w.heap.size (some ⟨g, 0, none⟩) (ls.take k).flatten.length c (ls.take k).flatten ∧ Below w.heap.size w wr) (fun _ i _ => ls.length - (intOf i).toNat)
      case atStart => exact ⟨0, g, c, Nat.zero_le _, rfl, rfl, HO1.out, hb1⟩
      case round =>
        obtain ⟨k, g, c, hk, rfl, rfl, hown, hbel⟩ := hrel
        have hszr := hbel.size
        by_cases hlt : k < ls.length
        · have hpr := hp.below (hbel.mono hB)
          obtain ⟨hc, hT⟩ := hpr.2 k hlt
          have HF := Lib.hid (flat_take ls k hlt)
          have hle2 : (ls.take (k + 1)).flatten.length ≤ N := by rw [← HN.out]; exact flat_le ls (k + 1)
          have HTA := Lib.hid hT
          obtain ⟨L, hL⟩ : ∃ L, ls.getD k [] = L := ⟨_, rfl⟩
          obtain ⟨F, hF⟩ : ∃ F, (ls.take k).flatten = F := ⟨_, rfl⟩
          have HF2 : Hid ((ls.take (k + 1)).flatten = F ++ L) := by
            show _ = _
            rw [HF.out, hL, hF]
          rw [HF2.out, List.length_append] at hle2
          rw [hL] at hc HTA
          rw [hF] at hown ⊢
          have HP := Lib.hid hp
          have HPR := Lib.hid hpr
          obtain ⟨q, hq⟩ : ∃ q, ad k = q := ⟨_, rfl⟩
          rw [hq] at hc HTA
          clear hL hF HF hT hp hpr hq
          go_wp2_with (at_builtin; refine wpList_append_own _ rfl (.tmp 31) (.tmp 32) 35 rfl w.heap.size 56 i0 (.agg #[.int .i64 0, .int .i64 0]) 2 16 Tryd.underlying35 hi hz0 hz1 hz2 rfl (by decide) (.slice (some ⟨g, 0, none⟩) F.length c) F.length (tokCells F) rfl hown q L.length (cp k) (tokCells L) rfl (tokCells_len L) HTA.out.2 (tokCells_one L) (by unfold maxLen; omega) (by omega) hszr ?_; intro v' w3 hown' hgrow hnil)
          · obtain ⟨g', cap', rfl⟩ : ∃ g' cap', v' = .slice (some ⟨g', 0, none⟩) (F.length + L.length) cap' := by
              rcases hown'.2 with ⟨h0, _⟩ | ⟨g', cap', _, h0, _⟩
              · have := (hnil.1 h0).1
                cases this
              · exact ⟨g', cap', h0⟩
            have HB1 : Hid (Below w.heap.size w w3) := hbel.grown hgrow hszr (fun k h => (hown.lt k h).1)
            have HW : Hid (OwnT w3 w.heap.size (some ⟨g', 0, none⟩) (ls.take (k + 1)).flatten.length cap' (ls.take (k + 1)).flatten) := by
              show OwnT _ _ _ _ _ _
              rw [HF2.out, List.length_append]
              unfold OwnT
              rw [tokCells_append]
              exact hown'
            have HLn : Hid ((ls.take (k + 1)).flatten.length = F.length + L.length) := by show _ = _; rw [HF2.out, List.length_append]
            clear hown hown' hgrow hbel hnil
            go_wp2
            go_roundw
            case rel => exact ⟨k + 1, g', cap', by omega, by go_num, by rw [HLn.out], HW.out, HB1.out⟩
            case measure => simp [intOf]; omega
        · obtain rfl : k = ls.length := by omega
          rw [List.take_length] at hown ⊢
          have HO := Lib.hid hown
          clear hown
          go_wp2
          go_ret
          exact ⟨g, c, rfl, HO.out, hbel⟩
end Go.Proofs.YtgebjnoicgmdoaaDoor

namespace Go.Proofs.YtgebjnoicgmdoaaDoor
open Go.RowKit

/-- every block of another element type than int and machine is as it was -/
def Keeps (w w' : World) : Prop := ∀ (k : Nat) (cs : Array Value) (t : TypeId) (fr : Nat × Nat), w.heap[k]? = some (.cells cs t fr) → t ≠ 3 → t ≠ 61 → w'.heap[k]? = some (.cells cs t fr)

section
variable {w w' w'' : World}
theorem Keeps.refl (w : World) : Keeps w w := fun _ _ _ _ h _ _ => h
theorem Keeps.trans (h : Keeps w w') (h' : Keeps w' w'') : Keeps w w'' := fun k cs t fr hk h1 h2 => h' k cs t fr (h k cs t fr hk h1 h2) h1 h2
theorem Keeps.alloc (h : Keeps w w') (o : Obj) : Keeps w (w'.alloc o) := fun k cs t fr hk h1 h2 => by
  have h3 := h k cs t fr hk h1 h2
  rw [Below.heap_alloc w' o k (Array.getElem?_eq_some_iff.1 h3).1]
  exact h3
theorem Keeps.grown {row : Option Nat} (h : Keeps w w') (hg : w'.grownBy w'' row) (hr : ∀ g, row = some g → ∃ cs, Blk w' g 3 cs) : Keeps w w'' := fun k cs t fr hk h1 h2 => by
  have h3 := h k cs t fr hk h1 h2
  rw [hg.block k (Array.getElem?_eq_some_iff.1 h3).1 (fun e => by
    obtain ⟨cs', hb⟩ := hr k e.symm
    have e := Eq.trans (Eq.symm h3) hb
    injection e with e
    injection e with _ e2
    exact h1 e2)]
  exact h3
theorem Keeps.store (h : Keeps w w') {p : Addr} {cs' : Array Value} (hb : Blk w' p.block 61 cs') (u : Value) : Keeps w (w'.setCell p u) := fun k cs t fr hk h1 h2 => by
  have h3 := h k cs t fr hk h1 h2
  rw [Below.heap_setCell w' p u k (fun e => by
    subst e
    have e := Eq.trans (Eq.symm h3) hb
    injection e with e
    injection e with _ e2
    exact h2 e2)]
  exact h3
theorem Keeps.blk {g : Nat} {t : TypeId} {cs : Array Value} (h : Keeps w w') (hb : Blk w g t cs) (h1 : t ≠ 3) (h2 : t ≠ 61) : Blk w' g t cs := h g cs t (0, 0) hb h1 h2
end

/-- the cells of the machine's struct -/
def machCells (env : List Int) (sv : Value) : Array Value := (env.map (Value.int .i64) ++ [sv]).toArray

/-- block bm holds the machine: its env, and a stack of its own above B (its top first in st) -/
def Mach (w : World) (B bm : Nat) (env st : List Int) : Prop :=
  B ≤ bm ∧ env.length = 5 ∧ ∃ (A : Option Addr) (c : Nat), Blk w bm 61 (machCells env (.slice A st.length c)) ∧
    w.ownsRow B 3 1 (.slice A st.length c) st.length (st.reverse.map (Value.int .i64))

theorem mach_stack (env : List Int) (sv : Value) (h : env.length = 5) : (machCells env sv)[5]? = some sv := by
  simp [machCells, h]
theorem mach_env (env : List Int) (sv : Value) (h : env.length = 5) (i : Nat) (hi : i < 5) : (machCells env sv)[i]? = some (.int .i64 (env.getD i 0)) := by
  have hl : i < env.length := by omega
  simp [machCells, List.getElem?_append, hl]
theorem mach_put (env : List Int) (sv sv' : Value) (h : env.length = 5) : (machCells env sv).setIfInBounds 5 sv' = machCells env sv' := by
  simp [machCells, h]

/-- what the variable errLevel holds -/
def ErrAt (w : World) (T : TypeId) (pv : Value) : Prop := w.cell? ⟨0, 0, none⟩ = some (.iface T pv)
theorem ErrAt.below {w w' : World} {B : Nat} {T : TypeId} {pv : Value} (h : ErrAt w T pv) (hb : Below B w w') (hB : 0 < B) : ErrAt w' T pv := (hb.cell (p := ⟨0, 0, none⟩) hB).trans h

set_option maxHeartbeats 400000 in
theorem push_any (w : World) (B bm : Nat) (env st : List Int) (v : Int) (hm : Mach w B bm env st) (hs : st.length ≤ 1000) :
    Calls Tryd.prog 62 #[.pointer (some ⟨bm, 0, none⟩), .int .i64 v] w fun e w' => e = .returned (.tuple #[]) ∧ Mach w' B bm env (v :: st) ∧ Below B w w' ∧ Keeps w w' := by
  obtain ⟨hB, he, A, c, hblk, hown⟩ := hm
  have hlt := hblk.lt
  have hc5 : w.cell? ⟨bm, 5, none⟩ = some (.slice A st.length c) := (hblk.cell 5).trans (mach_stack env _ he)
  obtain ⟨i0, hi, hz0, hz1, hz2⟩ := info_parts info_int
  have HE := Lib.hid he
  clear he
  go_enter Tryd.func62, Tryd.ntmps62
  go_wp2_with (at_builtin; refine wpList_append_own _ rfl (.tmp 8) (.tmp 10) 31 rfl B 3 i0 (.int .i64 0) 1 8 Tryd.underlying31 hi hz0 hz1 hz2 rfl (by decide) (.slice A st.length c) st.length (st.reverse.map (Value.int .i64)) rfl (hown.alloc _) ⟨w.heap.size, 0, none⟩ 1 1 [.int .i64 v] rfl rfl ?c1 ?c2 ?c3 ?c4 ?c5 ?c6)
  case c1 => exact cell_one_new _ _ _
  case c2 => intro u hu; simp at hu; subst hu; rfl
  case c3 => unfold maxLen; omega
  case c4 => omega
  case c5 => simp; omega
  case c6 =>
    intro v' w1 hown' hgrow _
    obtain ⟨g, cap', rfl⟩ : ∃ g cap', v' = .slice (some ⟨g, 0, none⟩) (st.length + 1) cap' := by
      rcases hown'.2 with ⟨_, h⟩ | ⟨g, cap', _, h, _⟩
      · omega
      · exact ⟨g, cap', h⟩
    have hap := own_apart hown hblk (by decide)
    have hblk1 : Blk w1 bm 61 (machCells env (.slice A st.length c)) := (hblk.alloc _).grown hgrow (fun h => hap h.symm)
    have hk : w1.cell? ⟨bm, 5, none⟩ = some (.slice A st.length c) := (hblk1.cell 5).trans (mach_stack env _ HE.out)
    have hf := hblk1.thawed 5
    have hbel : Below B w w1 := (((Below.refl _ _).alloc (by omega) _)).grown hgrow (by simp; omega) (fun k h => (hown.lt k h).1)
    have hown2 := own_store (p := ⟨bm, 5, none⟩) hown' (own_apart hown' hblk1 (by decide)) (.slice (some ⟨g, 0, none⟩) (st.length + 1) cap')
    have hblk2 := hblk1.put 5 (.slice (some ⟨g, 0, none⟩) (st.length + 1) cap')
    have hbel2 := hbel.setCell (p := ⟨bm, 5, none⟩) hB (.slice (some ⟨g, 0, none⟩) (st.length + 1) cap')
    have hkp : Keeps w w1 := ((Keeps.refl w).alloc _).grown hgrow (fun g hg => own_blk (hown.alloc _) g hg)
    have hkp2 := hkp.store (p := ⟨bm, 5, none⟩) hblk1 (.slice (some ⟨g, 0, none⟩) (st.length + 1) cap')
    have H2 := Lib.hid hown2
    have H3 := Lib.hid hblk2
    have H4 := Lib.hid hkp2
    clear hkp hkp2
    clear hown2 hblk2 hgrow hown' hown hap
    go_wp2
    go_end0
    refine ⟨rfl, ⟨hB, HE.out, some ⟨g, 0, none⟩, cap', ?_, ?_⟩, hbel2, H4.out⟩
    · have h3 := H3.out
      rw [mach_put env _ _ HE.out] at h3
      exact h3
    · have h2 := H2.out
      simpa using h2
end Go.Proofs.YtgebjnoicgmdoaaDoor
