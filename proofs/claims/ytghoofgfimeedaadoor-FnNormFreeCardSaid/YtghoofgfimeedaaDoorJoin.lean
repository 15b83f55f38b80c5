/- math/bits.Mul at small numbers; slices.Grow, Repeat and Concat over tokens. -/
/- slices.Concat over slices of tokens. -/
/- LevelSucc of the program and of the reference model. -/
/- LevelJoin of the program and of the reference model. -/
import Derived.Test.YtghoofgfimeedaaDoorSgLev
import Derived.Lib.AppendZeros
import Derived.Laws.BitsAllLaws
import Derived.Laws.BitsLemmas
import Derived.Laws.CopyOwn
import Derived.RegionTactic
import Derived.BigRegion
import Derived.Test.YtghoofgfimeedaaDoorSpecEval

namespace Go.Proofs.YtghoofgfimeedaaDoor
open Go.RowKit

set_option maxHeartbeats 800000 in
theorem mul64_one (y : Nat) (hy : y ≤ 1000) (w : World) :
    Calls Tryd.prog 127 #[.int .u64 1, .int .u64 y] w fun e w' => e = .returned (.tuple #[.int .u64 0, .int .u64 y]) ∧ w = w' := by
  have a1 : bits BinOp.and IntKind.u64 1 4294967295 = 1 := by decide +kernel
  have a0 : bits BinOp.and IntKind.u64 0 4294967295 = 0 := by decide +kernel
  have ay : bits BinOp.and IntKind.u64 (y : Int) 4294967295 = (y : Int) := by
    have h := bits_and_u64_nat y 4294967295 (by omega) (by omega)
    rw [show y &&& 4294967295 = y % 4294967296 from Nat.and_two_pow_sub_one_eq_mod y 32, Nat.mod_eq_of_lt (by omega)] at h
    exact h
  have wy : IntKind.u64.wrap (y : Int) = (y : Int) := by rw [IntKind.wrap_u64]; omega
  have w0 : IntKind.u64.wrap 0 = 0 := by rw [IntKind.wrap_u64]; rfl
  have dy : (y : Int) / 4294967296 = 0 := by omega
  have H1 := Lib.hid a1
  have H2 := Lib.hid a0
  have H3 := Lib.hid ay
  have H4 := Lib.hid wy
  have H5 := Lib.hid w0
  have H6 := Lib.hid dy
  clear a1 a0 ay wy w0 dy
  go_enter Tryd.func127, Tryd.ntmps127
  go_wp2
  simp only [H1.out, H2.out, H3.out, H4.out, H5.out, H6.out, Int.one_mul, Int.mul_zero, Int.zero_ediv, Int.add_zero]
  go_ret2
  exact ⟨rfl, rfl⟩

set_option maxHeartbeats 800000 in
theorem mul_one (y : Nat) (hy : y ≤ 1000) (w : World) :
    Calls Tryd.prog 107 #[.int .u64 1, .int .u64 y] w fun e w' => e = .returned (.tuple #[.int .u64 0, .int .u64 y]) ∧ w = w' := by
  go_enter Tryd.func107, Tryd.ntmps107
  go_wp2_with fail
  refine (mul64_one y hy w).mono ?_
  rintro e w' ⟨rfl, rfl⟩
  go_wp2
  go_ret2
  exact ⟨rfl, rfl⟩

/-- a call gives back a slice of tokens of its own that is not nil -/
def ResT (w : World) (l : List (Int × Int)) (e : Ending) (w' : World) : Prop :=
  ∃ g c, e = .returned (.slice (some ⟨g, 0, none⟩) l.length c) ∧ OwnT w' w.heap.size (some ⟨g, 0, none⟩) l.length c l ∧ Below w.heap.size w w'

set_option maxRecDepth 100000 in
set_option maxHeartbeats 800000 in
theorem grow_nil (n : Nat) (h1 : 1 ≤ n) (hn : n ≤ 1000) (w : World) :
    Calls Tryd.prog 106 #[.slice none 0 0, .int .i64 n] w (ResT w []) := by
  obtain ⟨i0, hi, hz0, hz1, hz2⟩ := info_parts info_tok
  have hr := Lib.run_append_nil_zeros (P := Tryd.prog) w 24 3 24 44 i0 _ .i64 .i64 Tryd.underlying24 Tryd.underlying3 hi hz0 n (by omega) (by omega) (by omega) (by rw [hz2]; omega)
  have hge := grownCap_ge w n 0 44
  have hle := grownCap_le_maxLen w n 0 44 (by unfold maxLen; omega)
  generalize grownCap w n 0 44 = cp at hr hge hle
  obtain ⟨cur, hcur⟩ : ∃ cur, Builtin.zeroCells (Value.agg #[.int .i64 0, .int .i64 0]).cells n ++ Builtin.zeroCells (Value.agg #[.int .i64 0, .int .i64 0]).cells (cp - n) = cur := ⟨_, rfl⟩
  have hsz : cur.size = cp * 2 := by
    rw [← hcur, Array.size_append, size_zeroCells, size_zeroCells]
    have : (Value.agg #[.int .i64 0, .int .i64 0]).cells.size = 2 := rfl
    rw [this]; omega
  rw [hcur] at hr
  have HO : Hid (OwnT (w.drew.alloc (.cells cur 44)) w.heap.size (some ⟨w.heap.size, 0, none⟩) 0 cp []) :=
    World.ownsRow_made w.drew cur cp (Nat.le_refl _) hle hsz
  have HB : Hid (Below w.heap.size w (w.drew.alloc (.cells cur 44))) := (Below.refl _ _).drew.alloc (Nat.le_refl _) _
  have HR := Lib.hid hr
  clear hr hcur hsz hle hi hz0 hz1 hz2
  go_enter Tryd.func106, Tryd.ntmps106
  go_wp2_with (at_builtin; refine Lib.wpList_append_run _ rfl (.tmp 20) (.tmp 21) 24 3 rfl (.slice none 0 0) (.int .i64 n) rfl rfl _ _ HR.out ?_)
  go_wp2
  go_ret
  exact ⟨w.heap.size, cp, rfl, HO.out, HB.out⟩

/-- copy between rows whose elements have several cells -/
theorem run_copyN {P : Program} (w : World) (dT sT ty elem : TypeId) (g o dLen dCap : Nat) (a : Addr) (sLen sCap size : Nat) (cur : Array Value) (t : TypeId) (cs : List Value)
    (hu : P.underlying dT = some (.slice elem)) (i : TypeInfo) (hi : P.info? elem = some i) (hs : i.size = size)
    (hg : w.heap[g]? = some (.cells cur t (0, 0))) (hn : cs.length = Nat.min sLen dLen * size)
    (hsrc : ∀ j v, cs[j]? = some v → w.cell? (a.add j) = some v) (hfit : o + cs.length ≤ cur.size) (h1 : ∀ v ∈ cs, v.oneCell' = true) :
    (Builtin.copy_ #[dT, sT] ty #[.slice (some ⟨g, o, none⟩) dLen dCap, .slice (some a) sLen sCap]).run P w =
      .ok (goInt (Nat.min sLen dLen)) (w.setRow g (cur.toList.take o ++ cs ++ cur.toList.drop (o + cs.length)).toArray) := by
  have hf := run_firstCells_some (P := P) w size (Nat.min sLen dLen) a sLen sCap cs hn hsrc
  have hst := run_storeCells_at P g o t cs 0 cur w hg (by simpa using hfit) h1
  simp [Builtin.copy_, run_underlying hu, Builtin.lenOf, sizeOf, typeInfo, hi, hs, hf, hst]

/-- a token that is a successor, n times -/
def sxs (n : Nat) : List (Int × Int) := List.replicate n (1, 0)
theorem sxs_cells (n j : Nat) (h : j < n * 2) : (tokCells (sxs n))[j]? = some (.int .i64 (if j % 2 = 0 then 1 else 0)) := by
  have hl : (sxs n).length = n := by simp [sxs]
  have hg : ∀ k, k < n → (sxs n).getD k (0, 0) = (1, 0) := by
    intro k hk
    simp [sxs, List.getD_eq_getElem?_getD, hk]
  rcases Nat.mod_two_eq_zero_or_one j with h0 | h0
  · obtain ⟨k, rfl⟩ : ∃ k, j = k * 2 := ⟨j / 2, by omega⟩
    rw [(tokCells_at _ k (by omega)).1, hg k (by omega), if_pos h0]
  · obtain ⟨k, rfl⟩ : ∃ k, j = k * 2 + 1 := ⟨j / 2, by omega⟩
    rw [(tokCells_at _ k (by omega)).2, hg k (by omega), if_neg (by omega)]
theorem sxs_one (n : Nat) : ∀ v ∈ tokCells (sxs n), v.oneCell' = true := by
  intro v hv
  simp only [tokCells, List.mem_flatMap] at hv
  obtain ⟨t, _, ht⟩ := hv
  simp at ht
  rcases ht with rfl | rfl <;> rfl

/-- the first k of n tokens are successors -/
def Rep (w : World) (g n k : Nat) (wr : World) : Prop :=
  Below w.heap.size w wr ∧ ∃ cs, Blk wr g 44 cs ∧ cs.size = n * 2 ∧ ∀ j, j < k * 2 → cs[j]? = some (.int .i64 (if j % 2 = 0 then 1 else 0))

theorem rep_copy {w wr : World} {n k m : Nat} (h : Rep w w.heap.size n k wr) (hm : k + m ≤ n) (cs : Array Value) (hb : Blk wr w.heap.size 44 cs) :
    Rep w w.heap.size n (k + m) (wr.setRow w.heap.size (cs.toList.take (k * 2) ++ tokCells (sxs m) ++ cs.toList.drop (k * 2 + (tokCells (sxs m)).length)).toArray) := by
  obtain ⟨hbel, cs', hblk, hs, hc⟩ := h
  have e := Eq.trans (Eq.symm hblk) hb
  injection e with e
  injection e with e
  subst e
  have hlen : (tokCells (sxs m)).length = m * 2 := by rw [tokCells_len]; simp [sxs]
  refine ⟨below_setRow hbel (Nat.le_refl _) _, _, setRow_heap wr w.heap.size cs' _ 44 (0, 0) hblk, by simp [hlen, hs]; omega, ?_⟩
  intro j hj
  rw [List.getElem?_toArray, List.append_assoc]
  by_cases h1 : j < k * 2
  · rw [List.getElem?_append_left (by simp; omega), List.getElem?_take_of_lt h1, Array.getElem?_toList]
    exact hc j h1
  · rw [List.getElem?_append_right (by simp; omega)]
    have ht : (cs'.toList.take (k * 2)).length = k * 2 := by simp; omega
    rw [ht, List.getElem?_append_left (by rw [hlen]; omega), sxs_cells m (j - k * 2) (by omega), show (j - k * 2) % 2 = j % 2 by omega]

theorem rep_done {w wr : World} {n : Nat} (h : Rep w w.heap.size n n wr) (hn : n ≤ 1000) : OwnT wr w.heap.size (some ⟨w.heap.size, 0, none⟩) (sxs n).length n (sxs n) := by
  have hl : (sxs n).length = n := by simp [sxs]
  obtain ⟨hbel, cs, hblk, hs, hc⟩ := h
  rw [hl]
  refine ⟨by rw [tokCells_len, hl], .inr ⟨w.heap.size, n, cs, rfl, Nat.le_refl _, hblk, Nat.le_refl _, by unfold maxLen; omega, hs, ?_⟩⟩
  rw [← hs, List.take_of_length_le (by simp)]
  apply List.ext_getElem?
  intro i
  by_cases hi : i < n * 2
  · rw [sxs_cells n i hi, Array.getElem?_toList]
    exact hc i hi
  · rw [List.getElem?_eq_none (by simp; omega), List.getElem?_eq_none (by rw [tokCells_len, hl]; omega)]

set_option maxRecDepth 100000 in
set_option maxHeartbeats 1600000 in
theorem repeat_one (n : Nat) (hn : n ≤ 24) (w : World) (gx cx : Nat) (hgx : gx < w.heap.size) (x0 : w.cell? ⟨gx, 0, none⟩ = some (.int .i64 1)) (x1 : w.cell? ⟨gx, 1, none⟩ = some (.int .i64 0)) :
    Calls Tryd.prog 72 #[.slice (some ⟨gx, 0, none⟩) 1 cx, .int .i64 n] w (ResT w (sxs n)) := by
  obtain ⟨i0, hi, hz0, hz1, hz2⟩ := info_parts info_tok
  have hmk : ∀ wx, (Instr.makeSlice 24 (.int .i64 (n : Int)) (.int .i64 (n : Int))).run Tryd.prog wx = .ok (.slice (some ⟨wx.heap.size, 0, none⟩) n n) (wx.alloc (.cells (madeCells (Value.agg #[.int .i64 0, .int .i64 0]).cells (n * 2)) 44)) := by
    intro wx
    have hr := run_make (P := Tryd.prog) wx 24 44 i0 _ Tryd.underlying24 hi hz0 .i64 .i64 n n (by omega) (by omega) (by rw [hz2]; omega) (by omega)
    simp only [Int.toNat_natCast, hz1] at hr
    exact hr
  obtain ⟨cur, hcur⟩ : ∃ cur, madeCells (Value.agg #[.int .i64 0, .int .i64 0]).cells (n * 2) = cur := ⟨_, rfl⟩
  have hcs : cur.size = n * 2 := by rw [← hcur]; simp [madeCells]
  rw [hcur] at hmk
  have hst : Rep w w.heap.size n 0 (w.alloc (.cells cur 44)) := ⟨(Below.refl _ _).alloc (Nat.le_refl _) _, cur, Blk.made _ _ _, hcs, by intro j hj; omega⟩
  have hc1 : (Builtin.copy_ #[24, 24] 3 #[.slice (some ⟨w.heap.size, 0, none⟩) n n, .slice (some ⟨gx, 0, none⟩) 1 cx]).run Tryd.prog (w.alloc (.cells cur 44)) =
      .ok (goInt (Nat.min 1 n)) ((w.alloc (.cells cur 44)).setRow w.heap.size (cur.toList.take (0 * 2) ++ tokCells (sxs (Nat.min 1 n)) ++ cur.toList.drop (0 * 2 + (tokCells (sxs (Nat.min 1 n))).length)).toArray) := by
    have hlen : (tokCells (sxs (Nat.min 1 n))).length = Nat.min 1 n * 2 := by rw [tokCells_len]; simp [sxs]
    have hmin : Nat.min 1 n ≤ n := Nat.min_le_right _ _
    have hmin1 : Nat.min 1 n ≤ 1 := Nat.min_le_left _ _
    have h := run_copyN (P := Tryd.prog) (w.alloc (.cells cur 44)) 24 24 3 44 w.heap.size 0 n n ⟨gx, 0, none⟩ 1 cx 2 cur 44 (tokCells (sxs (Nat.min 1 n))) Tryd.underlying24 i0 hi hz1 (heap_alloc_new w _) hlen
      (by
        intro j v hj
        have hjl : j < (tokCells (sxs (Nat.min 1 n))).length := (List.getElem?_eq_some_iff.1 hj).1
        rw [hlen] at hjl
        rw [sxs_cells _ j hjl] at hj
        injection hj with hj
        subst hj
        rw [own_adds, World.cell?_alloc_past _ _ _ (by exact hgx)]
        have hj2 : j = 0 ∨ j = 1 := by omega
        rcases hj2 with rfl | rfl
        · exact x0
        · exact x1)
      (by rw [hlen]; omega) (sxs_one _)
    simpa using h
  have hmin : Nat.min 1 n ≤ n := Nat.min_le_right _ _
  have hmin1 : Nat.min 1 n ≤ 1 := Nat.min_le_left _ _
  have hrep1 := rep_copy (m := Nat.min 1 n) hst (by omega) cur (Blk.made _ _ _)
  obtain ⟨w1, hw1⟩ : ∃ w1, (w.alloc (.cells cur 44)).setRow w.heap.size (cur.toList.take (0 * 2) ++ tokCells (sxs (Nat.min 1 n)) ++ cur.toList.drop (0 * 2 + (tokCells (sxs (Nat.min 1 n))).length)).toArray = w1 := ⟨_, rfl⟩
  rw [hw1] at hc1 hrep1
  obtain ⟨m1, hm1⟩ : ∃ m1, Nat.min 1 n = m1 := ⟨_, rfl⟩
  have hpos : 1 ≤ n → 1 ≤ m1 := by intro h; rw [← hm1]; exact Nat.le_min.2 ⟨Nat.le_refl _, h⟩
  rw [hm1] at hc1 hrep1 hmin hmin1
  rw [Nat.zero_add] at hrep1
  have HR1 := Lib.hid hrep1
  have HPOS := Lib.hid hpos
  have HM := Lib.hid hm1
  have HI := Lib.hid hi
  have HZ := Lib.hid hz1
  clear hrep1 hw1 hst hcur hcs hi hz0 hz1 hz2 hpos hm1
  have hconv : IntKind.u64.wrap (n : Int) = (n : Int) := by rw [IntKind.wrap_u64]; omega
  have hconv2 : IntKind.i64.wrap (n : Int) = (n : Int) := by rw [IntKind.wrap_i64]; omega
  have hd0 : decide ((n : Int) < 0) = false := decide_eq_false (by omega)
  have hd1 : decide ((9223372036854775807 : Int) < (n : Int)) = false := decide_eq_false (by omega)
  go_enter Tryd.func72, Tryd.ntmps72
  go_wp2_with fail
  refine (mul_one n (by omega) w).mono ?_
  rintro e w' ⟨rfl, rfl⟩
  go_wp2_with fail
  go_loopw [8] (fun i wr => ∃ k : Nat, k ≤ n ∧ Hid (1 ≤ n → 1 ≤ k) ∧ i = .int .i64 k ∧ Rep w w.heap.size n k wr) (fun i _ => n - (intOf i).toNat)
  case atStart => exact ⟨m1, hmin, HPOS.out, rfl, HR1.out⟩
  case round =>
    obtain ⟨k, hk, hkp, rfl, hR⟩ := hrel
    by_cases hlt : k < n
    · have hk1 := hkp.out (by omega)
      have hne : ¬ n = k := by omega
      obtain ⟨m, hm⟩ : ∃ m, Nat.min k (n - k) = m := ⟨_, rfl⟩
      have hm1 : 1 ≤ m := by rw [← hm]; exact Nat.le_min.2 ⟨by omega, by omega⟩
      have hm2 : m ≤ k := by rw [← hm]; exact Nat.min_le_left _ _
      have hm3 : m ≤ n - k := by rw [← hm]; exact Nat.min_le_right _ _
      obtain ⟨hbel, cs, hblk, hs, hc⟩ := hR
      have hlen : (tokCells (sxs m)).length = m * 2 := by rw [tokCells_len]; simp [sxs]
      have HNX := Lib.hid (rep_copy (m := m) ⟨hbel, cs, hblk, hs, hc⟩ (by omega) cs hblk)
      have hcp : (Builtin.copy_ #[24, 24] 3 #[.slice (some ⟨w.heap.size, k * 2, none⟩) (n - k) (n - k), .slice (some ⟨w.heap.size, 0, none⟩) k n]).run Tryd.prog wr.drew =
          .ok (goInt m) (wr.drew.setRow w.heap.size (cs.toList.take (k * 2) ++ tokCells (sxs m) ++ cs.toList.drop (k * 2 + (tokCells (sxs m)).length)).toArray) := by
        have h := run_copyN (P := Tryd.prog) wr.drew 24 24 3 44 w.heap.size (k * 2) (n - k) (n - k) ⟨w.heap.size, 0, none⟩ k n 2 cs 44 (tokCells (sxs m)) Tryd.underlying24 i0 HI.out HZ.out hblk (by rw [hlen, hm])
          (by
            intro j v hj
            have hjl : j < (tokCells (sxs m)).length := (List.getElem?_eq_some_iff.1 hj).1
            rw [hlen] at hjl
            rw [sxs_cells _ j hjl] at hj
            rw [own_adds, ← hj]
            exact (hblk.cell j).trans (hc j (by omega)))
          (by rw [hlen]; omega) (sxs_one _)
        rw [hm] at h
        exact h
      obtain ⟨w2, hw2⟩ : ∃ w2, wr.setRow w.heap.size (cs.toList.take (k * 2) ++ tokCells (sxs m) ++ cs.toList.drop (k * 2 + (tokCells (sxs m)).length)).toArray = w2 := ⟨_, rfl⟩
      have hw3 : wr.drew.setRow w.heap.size (cs.toList.take (k * 2) ++ tokCells (sxs m) ++ cs.toList.drop (k * 2 + (tokCells (sxs m)).length)).toArray = w2.drew := by rw [← hw2]; rfl
      rw [hw3] at hcp
      have HN2 : Hid (Rep w w.heap.size n (k + m) w2.drew) := by
        have h := HNX.out
        rw [hw2] at h
        exact ⟨h.1.drew, h.2⟩
      have HCP := Lib.hid hcp
      have hsub : n - k = n - k := rfl
      clear HNX hw2 hw3 hm hs hc hblk hlen hsub hcp
      have hcp := HCP.out
      go_wp2_with fail
      go_region
      go_wp2
      go_roundw
      case rel => exact ⟨k + m, by omega, fun _ => by omega, by go_num, HN2.out⟩
      case measure => simp [intOf]; omega
    · obtain rfl : k = n := by omega
      have HD := Lib.hid (rep_done hR (by omega))
      have HB := Lib.hid hR.1
      have HL : Hid ((sxs k).length = k) := by show _ = _; simp [sxs]
      clear hR
      go_wp2
      go_ret
      exact ⟨w.heap.size, k, by rw [HL.out]; rfl, HD.out, HB.out⟩

/-- a slice value that is not nil, its cells those of the tokens l, below block B -/
def TokA (w : World) (B : Nat) (ad : Addr) (l : List (Int × Int)) : Prop := ad.block < B ∧ ∀ j u, (tokCells l)[j]? = some u → w.cell? (ad.add j) = some u
theorem TokA.below {w w' : World} {B : Nat} {ad : Addr} {l : List (Int × Int)} (h : TokA w B ad l) (hb : Below B w w') : TokA w' B ad l :=
  ⟨h.1, fun j u hu => by
    have hbl : (ad.add j).block = ad.block := by unfold Addr.add; split <;> rfl
    exact (hb.cell (by rw [hbl]; exact h.1)).trans (h.2 j u hu)⟩
theorem TokA.more {w : World} {B B' : Nat} {ad : Addr} {l : List (Int × Int)} (h : TokA w B ad l) (hB : B ≤ B') : TokA w B' ad l := ⟨by have := h.1; omega, h.2⟩
theorem TokR.tokA {w : World} {B : Nat} {A : Option Addr} {n : Nat} {l : List (Int × Int)} (h : TokR w B A n l) (hn : 0 < n) : ∃ ad, A = some ad ∧ TokA w B ad l := by
  obtain ⟨b, off, rfl, hb, hc⟩ := h.2 hn
  refine ⟨_, rfl, hb, fun j u hu => ?_⟩
  have hj : j < (tokCells l).length := (List.getElem?_eq_some_iff.1 hu).1
  rw [tokCells_len, h.1] at hj
  have hadd : (⟨b, off, none⟩ : Addr).add j = ⟨b, off + j, none⟩ := by
    unfold Addr.add
    by_cases h : j = 0
    · subst h; rfl
    · rw [if_neg h]
  rw [hadd]
  rcases Nat.mod_two_eq_zero_or_one j with h0 | h0
  · obtain ⟨k, rfl⟩ : ∃ k, j = k * 2 := ⟨j / 2, by omega⟩
    rw [(tokCells_at l k (by have := h.1; omega)).1] at hu
    rw [← hu]; exact (hc k (by omega)).1
  · obtain ⟨k, rfl⟩ : ∃ k, j = k * 2 + 1 := ⟨j / 2, by omega⟩
    rw [(tokCells_at l k (by have := h.1; omega)).2] at hu
    rw [← hu]; exact (hc k (by omega)).2
theorem OwnT.tokA {w : World} {base : Nat} {g n c : Nat} {l : List (Int × Int)} (h : OwnT w base (some ⟨g, 0, none⟩) n c l) : TokA w w.heap.size ⟨g, 0, none⟩ l :=
  ⟨(h.lt g rfl).2, fun j u hu => h.cells (g := g) rfl j u hu⟩
theorem tokCells_one (l : List (Int × Int)) : ∀ v ∈ tokCells l, v.oneCell' = true := by
  intro v hv
  simp only [tokCells, List.mem_flatMap] at hv
  obtain ⟨t, _, ht⟩ := hv
  simp at ht
  rcases ht with rfl | rfl <;> rfl
end Go.Proofs.YtghoofgfimeedaaDoor

namespace Go.Proofs.YtghoofgfimeedaaDoor
open Go.RowKit

theorem flat_take {α : Type} (ls : List (List α)) (k : Nat) (hk : k < ls.length) : (ls.take (k + 1)).flatten = (ls.take k).flatten ++ ls.getD k [] := by
  rw [List.take_succ_eq_append_getElem hk, List.flatten_append]
  simp [List.getD_eq_getElem?_getD, List.getElem?_eq_getElem hk]
theorem flat_le {α : Type} (ls : List (List α)) (k : Nat) : (ls.take k).flatten.length ≤ ls.flatten.length := by
  have h : ls.flatten = (ls.take k).flatten ++ (ls.drop k).flatten := by rw [← List.flatten_append, List.take_append_drop]
  rw [h]; simp

/-- the slices that are joined: their values in a row at block gs, their tokens below B -/
def Parts (w : World) (B gs : Nat) (ad : Nat → Addr) (cp : Nat → Nat) (ls : List (List (Int × Int))) : Prop :=
  gs < B ∧ ∀ i, i < ls.length → w.cell? ⟨gs, i, none⟩ = some (.slice (some (ad i)) (ls.getD i []).length (cp i)) ∧ TokA w B (ad i) (ls.getD i [])
theorem Parts.below {w w' : World} {B gs : Nat} {ad : Nat → Addr} {cp : Nat → Nat} {ls : List (List (Int × Int))} (h : Parts w B gs ad cp ls) (hb : Below B w w') : Parts w' B gs ad cp ls :=
  ⟨h.1, fun i hi => ⟨(hb.cell (p := ⟨gs, i, none⟩) h.1).trans (h.2 i hi).1, (h.2 i hi).2.below hb⟩⟩

theorem own_some {w : World} {base g n c : Nat} {e : TypeId} {size : Nat} {v' : Value} {xs : List Value} (h : w.ownsRow base e size v' n xs) (hne : v' = .slice none 0 0 ↔ (Value.slice (some ⟨g, 0, none⟩) n c = .slice none 0 0 ∧ False)) :
    ∃ g' cap', v' = .slice (some ⟨g', 0, none⟩) n cap' := by
  rcases h.2 with ⟨h0, _⟩ | ⟨g', cap', _, h0, _⟩
  · exact absurd (hne.1 h0).2 (fun x => x)
  · exact ⟨g', cap', h0⟩

set_option maxRecDepth 100000 in
set_option maxHeartbeats 1600000 in
theorem concat_any (w : World) (B gs cs : Nat) (ad : Nat → Addr) (cp : Nat → Nat) (ls : List (List (Int × Int))) (hB : B ≤ w.heap.size) (hp : Parts w B gs ad cp ls) (hm : ls.length ≤ 10) (h1 : 1 ≤ ls.flatten.length) (hn : ls.flatten.length ≤ 1000) :
    Calls Tryd.prog 71 #[.slice (some ⟨gs, 0, none⟩) ls.length cs] w (ResT w ls.flatten) := by
  obtain ⟨i0, hi, hz0, hz1, hz2⟩ := info_parts info_tok
  go_enter Tryd.func71, Tryd.ntmps71
  go_wp2
  go_loop [3, 11] (fun s i => ∃ k : Nat, k ≤ ls.length ∧ i = .int .i64 k ∧ s = .int .i64 ((ls.take k).flatten.length : Nat)) (fun _ i => ls.length - (intOf i).toNat)
  case atStart => exact ⟨0, Nat.zero_le _, rfl, rfl⟩
  case round =>
    obtain ⟨k, hk, rfl, rfl⟩ := hrel
    have hle := flat_le ls k
    by_cases hlt : k < ls.length
    · have hc := (hp.2 k hlt).1
      have HF := Lib.hid (congrArg List.length (flat_take ls k hlt))
      have hle2 := flat_le ls (k + 1)
      have hsum : (ls.take k).flatten.length + (ls.getD k []).length ≤ 1000 := by
        have := HF.out
        simp at this
        simp at hle2
        have : (List.take (k + 1) ls).flatten.length ≤ ls.flatten.length := by simpa using flat_le ls (k + 1)
        rw [HF.out, List.length_append] at this
        omega
      have HP := Lib.hid hp
      obtain ⟨a, ha⟩ : ∃ a, (ls.take k).flatten.length = a := ⟨_, rfl⟩
      obtain ⟨b, hb⟩ : ∃ b, (ls.getD k []).length = b := ⟨_, rfl⟩
      have HF2 : Hid ((ls.take (k + 1)).flatten.length = a + b) := by
        show _ = _
        rw [HF.out, List.length_append, ha, hb]
      rw [hb] at hc
      rw [ha, hb] at hsum
      have HA := Lib.hid ha
      rw [ha]
      clear ha hb hle hle2 HF hp
      go_wp2
      go_round
      case rel => exact ⟨k + 1, by omega, by go_num, by rw [HF2.out]; go_num⟩
      case measure => simp [intOf]; omega
    · obtain rfl : k = ls.length := by omega
      have ht : (ls.take ls.length).flatten.length = ls.flatten.length := by rw [List.take_length]
      rw [ht]
      have HT := Lib.hid ht
      obtain ⟨N, hN⟩ : ∃ N, ls.flatten.length = N := ⟨_, rfl⟩
      rw [hN] at h1 hn ⊢
      have HN := Lib.hid hN
      clear ht hN hle hlt
      go_wp2_with fail
      refine (grow_nil N h1 hn w).mono ?_
      rintro e w1 ⟨g, c, rfl, ho1, hb1⟩
      simp only [List.length_nil] at ho1 ⊢
      have HO1 := Lib.hid ho1
      clear ho1
      go_wp2
      go_loopw [6, 27] (fun v i wr => ∃ (k g c : Nat), k ≤ ls.length ∧ i = .int .i64 k ∧ v = .slice (some ⟨g, 0, none⟩) (ls.take k).flatten.length c ∧ OwnT wr w.heap.size (some ⟨g, 0, none⟩) (ls.take k).flatten.length c (ls.take k).flatten ∧ Below w.heap.size w wr) (fun _ i _ => ls.length - (intOf i).toNat)
      case atStart => exact ⟨0, g, c, Nat.zero_le _, rfl, rfl, HO1.out, hb1⟩
      case round =>
        obtain ⟨k, g, c, hk, rfl, rfl, hown, hbel⟩ := hrel
        have hszr := hbel.size
        by_cases hlt : k < ls.length
        · have hpr := hp.below (hbel.mono hB)
          obtain ⟨hc, hT⟩ := hpr.2 k hlt
          have HF := Lib.hid (flat_take ls k hlt)
          have hle2 : (ls.take (k + 1)).flatten.length ≤ N := by rw [← HN.out]; exact flat_le ls (k + 1)
          have HTA := Lib.hid hT
          obtain ⟨L, hL⟩ : ∃ L, ls.getD k [] = L := ⟨_, rfl⟩
          obtain ⟨F, hF⟩ : ∃ F, (ls.take k).flatten = F := ⟨_, rfl⟩
          have HF2 : Hid ((ls.take (k + 1)).flatten = F ++ L) := by
            show _ = _
            rw [HF.out, hL, hF]
          rw [HF2.out, List.length_append] at hle2
          rw [hL] at hc HTA
          rw [hF] at hown ⊢
          have HP := Lib.hid hp
          have HPR := Lib.hid hpr
          obtain ⟨q, hq⟩ : ∃ q, ad k = q := ⟨_, rfl⟩
          rw [hq] at hc HTA
          clear hL hF HF hT hp hpr hq
          go_wp2_with (at_builtin; refine wpList_append_own _ rfl (.tmp 31) (.tmp 32) 24 rfl w.heap.size 44 i0 (.agg #[.int .i64 0, .int .i64 0]) 2 16 Tryd.underlying24 hi hz0 hz1 hz2 rfl (by decide) (.slice (some ⟨g, 0, none⟩) F.length c) F.length (tokCells F) rfl hown q L.length (cp k) (tokCells L) rfl (tokCells_len L) HTA.out.2 (tokCells_one L) (by unfold maxLen; omega) (by omega) hszr ?_; intro v' w3 hown' hgrow hnil)
          · obtain ⟨g', cap', rfl⟩ : ∃ g' cap', v' = .slice (some ⟨g', 0, none⟩) (F.length + L.length) cap' := by
              rcases hown'.2 with ⟨h0, _⟩ | ⟨g', cap', _, h0, _⟩
              · have := (hnil.1 h0).1
                cases this
              · exact ⟨g', cap', h0⟩
            have HB1 : Hid (Below w.heap.size w w3) := hbel.grown hgrow hszr (fun k h => (hown.lt k h).1)
            have HW : Hid (OwnT w3 w.heap.size (some ⟨g', 0, none⟩) (ls.take (k + 1)).flatten.length cap' (ls.take (k + 1)).flatten) := by
              show OwnT _ _ _ _ _ _
              rw [HF2.out, List.length_append]
              unfold OwnT
              rw [tokCells_append]
              exact hown'
            have HLn : Hid ((ls.take (k + 1)).flatten.length = F.length + L.length) := by show _ = _; rw [HF2.out, List.length_append]
            clear hown hown' hgrow hbel hnil
            go_wp2
            go_roundw
            case rel => exact ⟨k + 1, g', cap', by omega, by go_num, by rw [HLn.out], HW.out, HB1.out⟩
            case measure => simp [intOf]; omega
        · obtain rfl : k = ls.length := by omega
          rw [List.take_length] at hown ⊢
          have HO := Lib.hid hown
          clear hown
          go_wp2
          go_ret
          exact ⟨g, c, rfl, HO.out, hbel⟩
end Go.Proofs.YtghoofgfimeedaaDoor

namespace Go.Proofs.YtghoofgfimeedaaDoor
open Go.RowKit

/-- a call gives back a slice of tokens of its own and whether there is one -/
def ResP (w : World) (r : Option (List (Int × Int))) (e : Ending) (w' : World) : Prop :=
  ∃ A c, e = .returned (.tuple #[.slice A (r.getD []).length c, .bool r.isSome]) ∧ OwnT w' w.heap.size A (r.getD []).length c (r.getD []) ∧ Below w.heap.size w w'
theorem resP_none {w w' : World} (hb : Below w.heap.size w w') : ResP w none (.returned (.tuple #[.slice none 0 0, .bool false])) w' := ⟨none, 0, rfl, World.ownsRow_nil _ _ _ _, hb⟩

theorem tkOk_sx : Lv.tkOk (1, 0) = true := by decide
theorem hts_sxs (n : Nat) (m : Int) (hm : 1 ≤ m) : Lv.hts (sxs n) m = some m := by
  induction n with
  | zero => rfl
  | succ n ih =>
    have : sxs (n + 1) = (1, 0) :: sxs n := rfl
    rw [this, Lv.hts, if_pos ⟨tkOk_sx, by simp [Lv.takes]; omega⟩]
    simpa [Lv.takes] using ih
theorem ok_sxs {l : List (Int × Int)} (h : Lv.levelOk l = true) (n : Nat) : Lv.levelOk (l ++ sxs n) = decide (l.length + n ≤ 24) := by
  simp only [Lv.levelOk, Bool.and_eq_true, decide_eq_true_eq] at h
  have hh : Lv.hts (l ++ sxs n) 0 = some 1 := by rw [Lv.hts_append, h.2, Option.bind_some, hts_sxs n 1 (by omega)]
  have hl : (sxs n).length = n := by simp [sxs]
  simp only [Lv.levelOk, hh, List.length_append, hl, decide_true, Bool.and_true]
  by_cases h24 : l.length + n ≤ 24
  · simp [h24]; omega
  · simp [h24]

/-- the cells of one new token -/
theorem Blk.tokA2 (w : World) (a b : Int) : ∀ j u, (tokCells [(a, b)])[j]? = some u → (w.alloc (.cells #[.int .i64 a, .int .i64 b] 44)).cell? ((⟨w.heap.size, 0, none⟩ : Addr).add j) = some u := by
  intro j u hu
  rw [own_adds, (Blk.made w 44 #[.int .i64 a, .int .i64 b]).cell]
  have hj : j = 0 ∨ j = 1 := by
    have := (List.getElem?_eq_some_iff.1 hu).1
    rw [tokCells_len] at this
    simp at this
    omega
  rcases hj with rfl | rfl
  · simpa [tokCells] using hu
  · simpa [tokCells] using hu

/-- LevelSucc's answer -/
def succR (l : List (Int × Int)) (n : Int) : Option (List (Int × Int)) :=
  if Lv.levelOk l = true ∧ 0 ≤ n ∧ n ≤ 24 - (l.length : Int) then some (l ++ sxs n.toNat) else none

set_option maxRecDepth 100000 in
set_option maxHeartbeats 1600000 in
theorem implSucc_any (w : World) (B : Nat) (A : Option Addr) (n c : Nat) (l : List (Int × Int)) (k : Int) (T : TypeId) (pv : Value) (h0 : 0 < B) (hB : B ≤ w.heap.size)
    (hl : TokR w B A n l) (hn : n ≤ 1048576) (hE : ErrAt w T pv) :
    Calls Tryd.prog 30 #[.slice A n c, .int .i64 k] w (ResP w (succR l k)) := by
  cases hok : Lv.levelOk l with
  | false =>
    have HO := Lib.hid hok
    have HP : Hid (succR l k = none) := by show _ = _; simp [succR, hok]
    clear hok
    go_enter Tryd.func30, Tryd.ntmps30
    go_wp2_with fail
    refine (levelOk_any w B A n c l T pv h0 hB hl (by omega) hE).mono ?_
    rintro e w1 ⟨rfl, hb1⟩
    rw [HO.out]
    go_wp2
    go_ret2
    rw [HP.out]
    exact resP_none hb1
  | true =>
    have HO := Lib.hid hok
    have hln : 1 ≤ n ∧ n ≤ 24 := by
      have := hl.1
      simp [Lv.levelOk] at hok
      omega
    obtain ⟨hn1, hn24⟩ := hln
    by_cases hk0 : k < 0
    · have HP : Hid (succR l k = none) := by show _ = _; rw [succR, if_neg (by omega)]
      clear hok
      go_enter Tryd.func30, Tryd.ntmps30
      go_wp2_with fail
      refine (levelOk_any w B A n c l T pv h0 hB hl (by omega) hE).mono ?_
      rintro e w1 ⟨rfl, hb1⟩
      rw [HO.out]
      go_wp2
      go_ret2
      rw [HP.out]
      exact resP_none hb1
    · by_cases hkn : 24 - (n : Int) < k
      · have HP : Hid (succR l k = none) := by show _ = _; rw [succR, if_neg (by rw [hl.1]; omega)]
        clear hok
        go_enter Tryd.func30, Tryd.ntmps30
        go_wp2_with fail
        refine (levelOk_any w B A n c l T pv h0 hB hl (by omega) hE).mono ?_
        rintro e w1 ⟨rfl, hb1⟩
        rw [HO.out]
        go_wp2
        go_ret2
        rw [HP.out]
        exact resP_none hb1
      · obtain ⟨m, rfl⟩ := Int.eq_ofNat_of_zero_le (show 0 ≤ k by omega)
        have HP : Hid (succR l (m : Int) = some (l ++ sxs m)) := by
          show _ = _
          rw [succR, if_pos ⟨hok, by omega, by rw [hl.1]; omega⟩]
          simp
        clear hok
        go_enter Tryd.func30, Tryd.ntmps30
        go_wp2_with fail
        refine (levelOk_any w B A n c l T pv h0 hB hl (by omega) hE).mono ?_
        rintro e w1 ⟨rfl, hb1⟩
        rw [HO.out]
        have hz1 := hb1.size
        go_wp2_with fail
        refine (repeat_one m (by omega) _ w1.heap.size 1 (by simp) (by simp [go_sem]) (by simp [go_sem])).mono ?_
        rintro e w2 ⟨g, c2, rfl, ho2, hb2⟩
        have hz2 := hb2.size
        simp only [World.size_alloc] at hz2
        have hb12 : Below w.heap.size w w2 := (hb1.alloc hz1 _).trans (hb2.mono (by simp; omega))
        obtain ⟨q, rfl, hq⟩ := (hl.below (hb12.mono hB)).tokA (by omega)
        have ha2 : TokA w2 w2.heap.size ⟨g, 0, none⟩ (sxs m) := OwnT.tokA ho2
        have hls : (sxs m).length = m := by simp [sxs]
        have HLS := Lib.hid hls
        have HPt : Hid (Parts (w2.alloc (.cells #[.slice (some q) n c, .slice (some ⟨g, 0, none⟩) (sxs m).length c2] 24)) (w2.heap.size + 1) w2.heap.size (fun i => if i = 0 then q else ⟨g, 0, none⟩) (fun i => if i = 0 then c else c2) [l, sxs m]) := by
          have hba : Below w2.heap.size w2 (w2.alloc (.cells #[.slice (some q) n c, .slice (some ⟨g, 0, none⟩) (sxs m).length c2] 24)) := (Below.refl _ _).alloc (Nat.le_refl _) _
          have hbk := Blk.made w2 24 #[.slice (some q) n c, .slice (some ⟨g, 0, none⟩) (sxs m).length c2]
          refine ⟨by omega, fun i hi => ?_⟩
          have hi2 : i = 0 ∨ i = 1 := by simp at hi; omega
          rcases hi2 with rfl | rfl
          · refine ⟨(hbk.cell 0).trans ?_, (hq.more (B' := w2.heap.size + 1) (by have := hb12.size; omega)).1, fun j u hu => ?_⟩
            · simp [hl.1]
            · exact ((hq.more (B' := w2.heap.size) (by have := hb12.size; omega)).below hba).2 j u hu
          · exact ⟨(hbk.cell 1).trans rfl, (ha2.more (B' := w2.heap.size + 1) (by omega)).1, (ha2.below hba).2⟩
        have HBA := Lib.hid (hb12.alloc hb12.size (.cells #[.slice (some q) n c, .slice (some ⟨g, 0, none⟩) (sxs m).length c2] 24))
        have HFL : Hid ([l, sxs m].flatten = l ++ sxs m) := by show _ = _; simp
        have HFn : Hid ([l, sxs m].flatten.length = n + m) := by show _ = _; simp [hl.1, sxs]
        have HS2 := Lib.hid hb12.size
        clear ho2 hb2 ha2 hq hls hb12
        go_wp2_with fail
        refine (concat_any _ (w2.heap.size + 1) w2.heap.size 2 _ _ [l, sxs m] (by simp) HPt.out (by simp) (by rw [HFn.out]; omega) (by rw [HFn.out]; omega)).mono ?_
        rintro e w3 ⟨g3, c3, rfl, ho3, hb3⟩
        rw [HFL.out] at ho3 ⊢
        have HO3 := Lib.hid (own_base (base' := w.heap.size) ho3 (by have := HS2.out; simp; omega))
        have HB3 := Lib.hid (HBA.out.trans (hb3.mono (by have := HS2.out; simp; omega)))
        clear ho3 hb3
        go_wp2
        go_ret2
        rw [HP.out]
        exact ⟨some ⟨g3, 0, none⟩, c3, by simp, HO3.out, HB3.out⟩

/-- what is given back is handed on, if it is a level -/
def ifR (l : List (Int × Int)) : Option (List (Int × Int)) := if Lv.levelOk l = true then some l else none

set_option maxHeartbeats 800000 in
theorem l01If_any (w : World) (base : Nat) (A : Option Addr) (n c : Nat) (l : List (Int × Int)) (hn : (n : Int) ≤ 140737488355328) (ho : OwnT w base A n c l) :
    Calls Tryd.prog 76 #[.slice A n c] w fun e w' => (∃ A' c', e = .returned (.tuple #[.slice A' ((ifR l).getD []).length c', .bool (ifR l).isSome]) ∧ OwnT w' base A' ((ifR l).getD []).length c' ((ifR l).getD [])) ∧ Below w.heap.size w w' := by
  have hl := OwnT.reads ho
  cases hok : Lv.levelOk l with
  | false =>
    have HO := Lib.hid hok
    have HI : Hid (ifR l = none) := by show _ = _; simp [ifR, hok]
    clear hok
    go_enter Tryd.func76, Tryd.ntmps76
    go_wp2_with fail
    refine (specOk_any w w.heap.size A n c l (Nat.le_refl _) hl hn).mono ?_
    rintro e w1 ⟨rfl, hb1⟩
    rw [HO.out]
    go_wp2
    go_ret2
    rw [HI.out]
    exact ⟨⟨none, 0, rfl, World.ownsRow_nil _ _ _ _⟩, hb1⟩
  | true =>
    have HO := Lib.hid hok
    have HI : Hid (ifR l = some l) := by show _ = _; simp [ifR, hok]
    have HN := Lib.hid hl.1
    clear hok
    go_enter Tryd.func76, Tryd.ntmps76
    go_wp2_with fail
    refine (specOk_any w w.heap.size A n c l (Nat.le_refl _) hl hn).mono ?_
    rintro e w1 ⟨rfl, hb1⟩
    have HW := Lib.hid (own_below' ho hb1)
    rw [HO.out]
    clear ho hl
    go_wp2
    go_ret2
    rw [HI.out]
    refine ⟨⟨A, c, ?_, ?_⟩, hb1⟩
    · simp [HN.out]
    · have h := HW.out
      simpa [HN.out] using h

set_option maxHeartbeats 800000 in
theorem checked_any (w : World) (base : Nat) (A : Option Addr) (n c : Nat) (l : List (Int × Int)) (T : TypeId) (pv : Value) (hz : 0 < w.heap.size) (hn : (n : Int) ≤ 140737488355328) (ho : OwnT w base A n c l) (hE : ErrAt w T pv) :
    Calls Tryd.prog 75 #[.slice A n c] w fun e w' => (∃ A' c', e = .returned (.tuple #[.slice A' ((ifR l).getD []).length c', .bool (ifR l).isSome]) ∧ OwnT w' base A' ((ifR l).getD []).length c' ((ifR l).getD [])) ∧ Below w.heap.size w w' := by
  have hl := OwnT.reads ho
  cases hok : Lv.levelOk l with
  | false =>
    have HO := Lib.hid hok
    have HI : Hid (ifR l = none) := by show _ = _; simp [ifR, hok]
    clear hok
    go_enter Tryd.func75, Tryd.ntmps75
    go_wp2_with fail
    refine (levelOk_any w w.heap.size A n c l T pv hz (Nat.le_refl _) hl hn hE).mono ?_
    rintro e w1 ⟨rfl, hb1⟩
    rw [HO.out]
    go_wp2
    go_ret2
    rw [HI.out]
    exact ⟨⟨none, 0, rfl, World.ownsRow_nil _ _ _ _⟩, hb1⟩
  | true =>
    have HO := Lib.hid hok
    have HI : Hid (ifR l = some l) := by show _ = _; simp [ifR, hok]
    have HN := Lib.hid hl.1
    clear hok
    go_enter Tryd.func75, Tryd.ntmps75
    go_wp2_with fail
    refine (levelOk_any w w.heap.size A n c l T pv hz (Nat.le_refl _) hl hn hE).mono ?_
    rintro e w1 ⟨rfl, hb1⟩
    have HW := Lib.hid (own_below' ho hb1)
    rw [HO.out]
    clear ho hl
    go_wp2
    go_ret2
    rw [HI.out]
    refine ⟨⟨A, c, ?_, ?_⟩, hb1⟩
    · simp [HN.out]
    · have h := HW.out
      simpa [HN.out] using h

theorem sxs_succ (m : Nat) (l : List (Int × Int)) : l ++ sxs (m + 1) = (l ++ sxs m) ++ [(1, 0)] := by
  simp [sxs, List.replicate_succ']

theorem succR_if {l : List (Int × Int)} {m : Nat} (hok : Lv.levelOk l = true) : succR l (m : Int) = ifR (l ++ sxs m) := by
  unfold succR ifR
  rw [ok_sxs hok]
  by_cases h : l.length + m ≤ 24
  · rw [if_pos ⟨hok, by omega, by omega⟩, if_pos (by simpa using h)]
    simp
  · rw [if_neg (by omega), if_neg (by simpa using h)]

set_option maxRecDepth 100000 in
set_option maxHeartbeats 1600000 in
theorem specSucc_any (w : World) (B : Nat) (A : Option Addr) (n c : Nat) (l : List (Int × Int)) (k : Int) (hB : B ≤ w.heap.size)
    (hl : TokR w B A n l) (hn : n ≤ 1048576) :
    Calls Tryd.prog 105 #[.slice A n c, .int .i64 k] w (ResP w (succR l k)) := by
  obtain ⟨i0, hi, hz0, hz1, hz2⟩ := info_parts info_tok
  cases hok : Lv.levelOk l with
  | false =>
    have HO := Lib.hid hok
    have HP : Hid (succR l k = none) := by show _ = _; simp [succR, hok]
    clear hok
    go_enter Tryd.func105, Tryd.ntmps105
    go_wp2_with fail
    refine (specOk_any w B A n c l hB hl (by omega)).mono ?_
    rintro e w1 ⟨rfl, hb1⟩
    rw [HO.out]
    go_wp2
    go_ret2
    rw [HP.out]
    exact resP_none hb1
  | true =>
    have HO := Lib.hid hok
    have hln : 1 ≤ n ∧ n ≤ 24 := by
      have := hl.1
      simp [Lv.levelOk] at hok
      omega
    obtain ⟨hn1, hn24⟩ := hln
    by_cases hk0 : k < 0
    · have HP : Hid (succR l k = none) := by show _ = _; rw [succR, if_neg (by omega)]
      clear hok
      go_enter Tryd.func105, Tryd.ntmps105
      go_wp2_with fail
      refine (specOk_any w B A n c l hB hl (by omega)).mono ?_
      rintro e w1 ⟨rfl, hb1⟩
      rw [HO.out]
      go_wp2
      go_ret2
      rw [HP.out]
      exact resP_none hb1
    · by_cases hkn : 24 < k
      · have HP : Hid (succR l k = none) := by show _ = _; rw [succR, if_neg (by rw [hl.1]; omega)]
        clear hok
        go_enter Tryd.func105, Tryd.ntmps105
        go_wp2_with fail
        refine (specOk_any w B A n c l hB hl (by omega)).mono ?_
        rintro e w1 ⟨rfl, hb1⟩
        rw [HO.out]
        go_wp2
        go_ret2
        rw [HP.out]
        exact resP_none hb1
      · obtain ⟨m, rfl⟩ := Int.eq_ofNat_of_zero_le (show 0 ≤ k by omega)
        have HP := Lib.hid (succR_if (m := m) hok)
        have d0 : decide ((m : Int) < 0) = false := decide_eq_false (by omega)
        have d1 : decide ((24 : Int) < (m : Int)) = false := decide_eq_false (by omega)
        clear hok
        go_enter Tryd.func105, Tryd.ntmps105
        go_wp2_with fail
        refine (specOk_any w B A n c l hB hl (by omega)).mono ?_
        rintro e w1 ⟨rfl, hb1⟩
        rw [HO.out]
        have hz1' := hb1.size
        have hb1a : Below w.heap.size w (w1.alloc (.cells #[] 44)) := hb1.alloc hz1' _
        obtain ⟨q, rfl, hq⟩ := (hl.below (hb1a.mono hB)).tokA (by omega)
        have HL := Lib.hid hl.1
        have ho0 : OwnT (w1.alloc (.cells #[] 44)) w.heap.size (some ⟨w1.heap.size, 0, none⟩) 0 0 [] := World.ownsRow_made w1 #[] 0 hz1' (by simp [maxLen]) (by simp)
        have hcl := tokCells_len l
        rw [hl.1] at hcl
        have HCL := Lib.hid hcl
        clear hcl hl
        go_wp2_with (at_builtin; refine wpList_append_own _ rfl (.tmp 18) (.tmp 19) 24 rfl w.heap.size 44 i0 (.agg #[.int .i64 0, .int .i64 0]) 2 16 Tryd.underlying24 hi hz0 hz1 hz2 rfl (by decide) (.slice (some ⟨w1.heap.size, 0, none⟩) 0 0) 0 (tokCells []) rfl ho0 q n c (tokCells l) rfl HCL.out hq.2 (tokCells_one l) (by unfold maxLen; omega) (by omega) (by simp; omega) ?_; intro v' w3 hown' hgrow hnil)
        obtain ⟨g', cap', rfl⟩ : ∃ g' cap', v' = .slice (some ⟨g', 0, none⟩) n cap' := by
          rcases hown'.2 with ⟨h0, _⟩ | ⟨g', cap', _, h0, _⟩
          · have := (hnil.1 h0).1
            cases this
          · rw [Nat.zero_add] at h0; exact ⟨g', cap', h0⟩
        have HB3 : Hid (Below w.heap.size w w3) := hb1a.grown hgrow (by simp; omega) (fun k h => by have h' : w1.heap.size = k := (by simpa [Value.ownBlock] using h); omega)
        have HW0 : Hid (OwnT w3 w.heap.size (some ⟨g', 0, none⟩) (n + 0) cap' (l ++ sxs 0)) := by
          show OwnT _ _ _ _ _ _
          have h := hown'
          rw [tokCells_nil, List.nil_append, Nat.zero_add] at h
          simpa [sxs] using h
        clear hown' hgrow hnil ho0 hq hb1a hb1
        go_wp2
        go_loopw [1, 6] (fun i v wr => ∃ (j g c : Nat), j ≤ m ∧ i = .int .i64 ((m : Int) - (j : Int)) ∧ v = .slice (some ⟨g, 0, none⟩) (n + j) c ∧ OwnT wr w.heap.size (some ⟨g, 0, none⟩) (n + j) c (l ++ sxs j) ∧ Below w.heap.size w wr) (fun i _ _ => (intOf i).toNat)
        case atStart => exact ⟨0, g', cap', Nat.zero_le _, by simp, by simp, HW0.out, HB3.out⟩
        case round =>
          obtain ⟨j, g, c1, hj, rfl, rfl, hown, hbel⟩ := hrel
          have hszr := hbel.size
          by_cases hlt : j < m
          · have hpos : (0 : Int) < (m : Int) - (j : Int) := by omega
            go_wp2_with (at_builtin; refine wpList_append_own _ rfl (.tmp 25) (.tmp 27) 24 rfl w.heap.size 44 i0 (.agg #[.int .i64 0, .int .i64 0]) 2 16 Tryd.underlying24 hi hz0 hz1 hz2 rfl (by decide) (.slice (some ⟨g, 0, none⟩) (n + j) c1) (n + j) (tokCells (l ++ sxs j)) rfl (hown.alloc _) ⟨wr.heap.size, 0, none⟩ 1 1 (tokCells [(1, 0)]) rfl rfl (Blk.tokA2 _ _ _) (tokCells_one _) (by unfold maxLen; omega) (by omega) (by simp; omega) ?_; intro v' w4 hown' hgrow hnil)
            obtain ⟨g2, cap2, rfl⟩ : ∃ g' cap', v' = .slice (some ⟨g', 0, none⟩) (n + j + 1) cap' := by
              rcases hown'.2 with ⟨h0, _⟩ | ⟨g', cap', _, h0, _⟩
              · have := (hnil.1 h0).1
                cases this
              · exact ⟨g', cap', h0⟩
            have HB4 : Hid (Below w.heap.size w w4) := (hbel.alloc hszr _).grown hgrow (by simp; omega) (fun k h => (hown.lt k h).1)
            have HW : Hid (OwnT w4 w.heap.size (some ⟨g2, 0, none⟩) (n + (j + 1)) cap2 (l ++ sxs (j + 1))) := by
              show OwnT _ _ _ _ _ _
              unfold OwnT
              rw [sxs_succ, tokCells_append]
              exact hown'
            clear hown hown' hgrow hbel hnil
            go_wp2
            go_roundw
            case rel => exact ⟨j + 1, g2, cap2, by omega, by go_num, by simp [Nat.add_assoc], HW.out, HB4.out⟩
            case measure => simp [intOf]; omega
          · obtain rfl : j = m := by omega
            have hnp : ¬ ((0 : Int) < (j : Int) - (j : Int)) := by omega
            have hzz : (j : Int) - (j : Int) = 0 := by omega
            rw [hzz] at hnp ⊢
            have HO2 := Lib.hid hown
            clear hown hzz
            go_wp2_with fail
            refine (l01If_any wr w.heap.size _ (n + j) c1 (l ++ sxs j) (by omega) HO2.out).mono ?_
            rintro e w5 ⟨⟨A', c', rfl, ho5⟩, hb5⟩
            have HO5 := Lib.hid ho5
            have HB5 := Lib.hid (hbel.trans (hb5.mono hszr))
            clear ho5 hb5
            go_wp2
            go_ret2
            rw [HP.out]
            exact ⟨A', c', rfl, HO5.out, HB5.out⟩
end Go.Proofs.YtghoofgfimeedaaDoor

namespace Go.Proofs.YtghoofgfimeedaaDoor
open Go.RowKit

/-- LevelJoin's answer -/
def joinR (op : Int) (a b : List (Int × Int)) : Option (List (Int × Int)) :=
  if (op = 2 ∨ op = 3) ∧ Lv.levelOk a = true ∧ Lv.levelOk b = true then ifR (a ++ (b ++ [(op, 0)])) else none

theorem ok_len {l : List (Int × Int)} {n : Nat} (h : Lv.levelOk l = true) (hn : l.length = n) : 1 ≤ n ∧ n ≤ 24 := by
  simp [Lv.levelOk] at h
  omega

/-- three slices that are joined, the last one token -/
theorem parts3 {w2 : World} {B : Nat} {q0 q1 : Addr} {n0 c0 n1 c1 : Nat} {l0 l1 : List (Int × Int)} (op : Int) (hB : B ≤ w2.heap.size) (h0 : TokA w2 B q0 l0) (h1 : TokA w2 B q1 l1) (e0 : l0.length = n0) (e1 : l1.length = n1) :
    Parts ((w2.alloc (.cells #[.int .i64 op, .int .i64 0] 44)).alloc (.cells #[.slice (some q0) n0 c0, .slice (some q1) n1 c1, .slice (some ⟨w2.heap.size, 0, none⟩) 1 1] 24))
      (w2.heap.size + 2) (w2.heap.size + 1) (fun i => if i = 0 then q0 else if i = 1 then q1 else ⟨w2.heap.size, 0, none⟩) (fun i => if i = 0 then c0 else if i = 1 then c1 else 1) [l0, l1, [(op, 0)]] := by
  have hba : Below B w2 ((w2.alloc (.cells #[.int .i64 op, .int .i64 0] 44)).alloc (.cells #[.slice (some q0) n0 c0, .slice (some q1) n1 c1, .slice (some ⟨w2.heap.size, 0, none⟩) 1 1] 24)) :=
    ((Below.refl _ _).alloc hB _).alloc (by simp; omega) _
  have hbk := Blk.made (w2.alloc (.cells #[.int .i64 op, .int .i64 0] 44)) 24 #[.slice (some q0) n0 c0, .slice (some q1) n1 c1, .slice (some ⟨w2.heap.size, 0, none⟩) 1 1]
  simp only [World.size_alloc] at hbk
  refine ⟨by omega, fun i hi => ?_⟩
  have hi2 : i = 0 ∨ i = 1 ∨ i = 2 := by simp at hi; omega
  rcases hi2 with rfl | rfl | rfl
  · exact ⟨(hbk.cell 0).trans (by simp [e0]), ((h0.below hba).more (B' := w2.heap.size + 2) (by omega)).1, (h0.below hba).2⟩
  · exact ⟨(hbk.cell 1).trans (by simp [e1]), ((h1.below hba).more (B' := w2.heap.size + 2) (by omega)).1, (h1.below hba).2⟩
  · have hb2 : Below (w2.heap.size + 1) (w2.alloc (.cells #[.int .i64 op, .int .i64 0] 44)) ((w2.alloc (.cells #[.int .i64 op, .int .i64 0] 44)).alloc (.cells #[.slice (some q0) n0 c0, .slice (some q1) n1 c1, .slice (some ⟨w2.heap.size, 0, none⟩) 1 1] 24)) :=
      (Below.refl _ _).alloc (by simp) _
    have ht : TokA (w2.alloc (.cells #[.int .i64 op, .int .i64 0] 44)) (w2.heap.size + 1) ⟨w2.heap.size, 0, none⟩ [(op, 0)] := ⟨Nat.lt_succ_self _, Blk.tokA2 w2 op 0⟩
    exact ⟨(hbk.cell 2).trans rfl, ((ht.below hb2).more (B' := w2.heap.size + 2) (by omega)).1, (ht.below hb2).2⟩

set_option maxRecDepth 100000 in
set_option maxHeartbeats 1600000 in
theorem implJoin_any (w : World) (B : Nat) (op : Int) (A0 : Option Addr) (n0 c0 : Nat) (l0 : List (Int × Int)) (A1 : Option Addr) (n1 c1 : Nat) (l1 : List (Int × Int)) (T : TypeId) (pv : Value) (h0 : 0 < B) (hB : B ≤ w.heap.size)
    (hl0 : TokR w B A0 n0 l0) (hn0 : n0 ≤ 1048576) (hl1 : TokR w B A1 n1 l1) (hn1 : n1 ≤ 1048576) (hE : ErrAt w T pv) :
    Calls Tryd.prog 33 #[.int .i64 op, .slice A0 n0 c0, .slice A1 n1 c1] w (ResP w (joinR op l0 l1)) := by
  by_cases hop : op = 2 ∨ op = 3
  case neg =>
    have HP : Hid (joinR op l0 l1 = none) := by show _ = _; rw [joinR, if_neg (fun h => hop h.1)]
    have hp2 : (op != 2) = true := by simpa using (fun h => hop (.inl h) : ¬ (op = 2))
    have hp3 : (op != 3) = true := by simpa using (fun h => hop (.inr h) : ¬ (op = 3))
    clear hop
    go_enter Tryd.func33, Tryd.ntmps33
    go_wp2
    go_ret2
    rw [HP.out]
    exact resP_none (Below.refl _ _)
  case pos =>
    cases hok0 : Lv.levelOk l0 with
    | false =>
      have HO := Lib.hid hok0
      have HP : Hid (joinR op l0 l1 = none) := by show _ = _; rw [joinR, if_neg (fun h => by rw [hok0] at h; exact absurd h.2.1 (by decide))]
      clear hok0
      rcases hop with rfl | rfl
      all_goals
        go_enter Tryd.func33, Tryd.ntmps33
        go_wp2_with fail
        refine (levelOk_any w B A0 n0 c0 l0 T pv h0 hB hl0 (by omega) hE).mono ?_
        rintro e w1 ⟨rfl, hb1⟩
        rw [HO.out]
        go_wp2
        go_ret2
        rw [HP.out]
        exact resP_none hb1
    | true =>
      have HO := Lib.hid hok0
      cases hok1 : Lv.levelOk l1 with
      | false =>
        have HO1 := Lib.hid hok1
        have HP : Hid (joinR op l0 l1 = none) := by show _ = _; rw [joinR, if_neg (fun h => by rw [hok1] at h; exact absurd h.2.2 (by decide))]
        clear hok0 hok1
        rcases hop with rfl | rfl
        all_goals
          go_enter Tryd.func33, Tryd.ntmps33
          go_wp2_with fail
          refine (levelOk_any w B A0 n0 c0 l0 T pv h0 hB hl0 (by omega) hE).mono ?_
          rintro e w1 ⟨rfl, hb1⟩
          rw [HO.out]
          go_wp2_with fail
          refine (levelOk_any w1 B A1 n1 c1 l1 T pv h0 (Nat.le_trans hB hb1.size) (hl1.below (hb1.mono hB)) (by omega) (hE.below (hb1.mono hB) h0)).mono ?_
          rintro e w2 ⟨rfl, hb2⟩
          rw [HO1.out]
          go_wp2
          go_ret2
          rw [HP.out]
          exact resP_none (hb1.trans (hb2.mono hb1.size))
      | true =>
        have HO1 := Lib.hid hok1
        have HP : Hid (joinR op l0 l1 = ifR (l0 ++ (l1 ++ [(op, 0)]))) := by show _ = _; rw [joinR, if_pos ⟨hop, hok0, hok1⟩]
        obtain ⟨hn01, hn02⟩ := ok_len hok0 hl0.1
        obtain ⟨hn11, hn12⟩ := ok_len hok1 hl1.1
        clear hok0 hok1
        rcases hop with rfl | rfl
        all_goals
          go_enter Tryd.func33, Tryd.ntmps33
          go_wp2_with fail
          refine (levelOk_any w B A0 n0 c0 l0 T pv h0 hB hl0 (by omega) hE).mono ?_
          rintro e w1 ⟨rfl, hb1⟩
          rw [HO.out]
          go_wp2_with fail
          refine (levelOk_any w1 B A1 n1 c1 l1 T pv h0 (Nat.le_trans hB hb1.size) (hl1.below (hb1.mono hB)) (by omega) (hE.below (hb1.mono hB) h0)).mono ?_
          rintro e w2 ⟨rfl, hb2⟩
          rw [HO1.out]
          have hb12 := hb1.trans (hb2.mono hb1.size)
          have HS2 := Lib.hid hb12.size
          obtain ⟨q0, rfl, hq0⟩ := (hl0.below (hb12.mono hB)).tokA (by omega)
          obtain ⟨q1, rfl, hq1⟩ := (hl1.below (hb12.mono hB)).tokA (by omega)
          have HPt := fun op => Lib.hid (parts3 (c0 := c0) (c1 := c1) op (Nat.le_trans hB hb12.size) hq0 hq1 hl0.1 hl1.1)
          have HFn : ∀ op : Int, Hid ([l0, l1, [(op, 0)]].flatten.length = n0 + n1 + 1) := by intro op; show _ = _; simp [hl0.1, hl1.1]; omega
          have HFL : ∀ op : Int, Hid ([l0, l1, [(op, 0)]].flatten = l0 ++ (l1 ++ [(op, 0)])) := by intro op; show _ = _; simp
          have HBA := fun op : Int => Lib.hid ((hb12.alloc hb12.size (.cells #[.int .i64 op, .int .i64 0] 44)).alloc (by simp; exact Nat.le_succ_of_le hb12.size) (.cells #[.slice (some q0) n0 c0, .slice (some q1) n1 c1, .slice (some ⟨w2.heap.size, 0, none⟩) 1 1] 24))
          have HE : ∀ w3, Below w.heap.size w w3 → ErrAt w3 T pv := fun w3 h => hE.below (h.mono hB) h0
          clear hb1 hb2 hq0 hq1 hb12
          go_wp2_with fail
          refine (concat_any _ (w2.heap.size + 2) (w2.heap.size + 1) 3 _ _ [l0, l1, [(_, 0)]] (by simp) (HPt _).out (by simp) (by rw [(HFn _).out]; omega) (by rw [(HFn _).out]; omega)).mono ?_
          rintro e w3 ⟨g3, c3, rfl, ho3, hb3⟩
          rw [(HFn _).out] at ho3 ⊢
          rw [(HFL _).out] at ho3
          have HO3 := Lib.hid (own_base (base' := w.heap.size) ho3 (by have := HS2.out; simp; omega))
          have HB3 := Lib.hid ((HBA _).out.trans (hb3.mono (by have := HS2.out; simp; omega)))
          have hS3 := hb3.size
          have HE3 := HE _ HB3.out
          clear ho3 hb3 HBA HPt
          go_wp2_with fail
          refine (checked_any w3 w.heap.size _ (n0 + n1 + 1) c3 _ T pv (by simp at hS3; omega) (by omega) HO3.out HE3).mono ?_
          rintro e w4 ⟨⟨A', c', rfl, ho4⟩, hb4⟩
          have HO4 := Lib.hid ho4
          have HB4 := Lib.hid (HB3.out.trans (hb4.mono HB3.out.size))
          clear ho4 hb4
          go_wp2
          go_ret2
          rw [HP.out]
          exact ⟨A', c', rfl, HO4.out, HB4.out⟩

set_option maxRecDepth 100000 in
set_option maxHeartbeats 1600000 in
theorem specJoin_any (w : World) (B : Nat) (op : Int) (A0 : Option Addr) (n0 c0 : Nat) (l0 : List (Int × Int)) (A1 : Option Addr) (n1 c1 : Nat) (l1 : List (Int × Int)) (hB : B ≤ w.heap.size)
    (hl0 : TokR w B A0 n0 l0) (hn0 : n0 ≤ 1048576) (hl1 : TokR w B A1 n1 l1) (hn1 : n1 ≤ 1048576) :
    Calls Tryd.prog 34 #[.int .i64 op, .slice A0 n0 c0, .slice A1 n1 c1] w (ResP w (joinR op l0 l1)) := by
  obtain ⟨i0, hi, hz0, hz1, hz2⟩ := info_parts info_tok
  cases hok0 : Lv.levelOk l0 with
  | false =>
    have HO := Lib.hid hok0
    have HP : Hid (joinR op l0 l1 = none) := by show _ = _; rw [joinR, if_neg (fun h => by rw [hok0] at h; exact absurd h.2.1 (by decide))]
    clear hok0
    go_enter Tryd.func34, Tryd.ntmps34
    go_wp2_with fail
    refine (specOk_any w B A0 n0 c0 l0 hB hl0 (by omega)).mono ?_
    rintro e w1 ⟨rfl, hb1⟩
    rw [HO.out]
    go_wp2
    go_ret2
    rw [HP.out]
    exact resP_none hb1
  | true =>
    have HO := Lib.hid hok0
    cases hok1 : Lv.levelOk l1 with
    | false =>
      have HO1 := Lib.hid hok1
      have HP : Hid (joinR op l0 l1 = none) := by show _ = _; rw [joinR, if_neg (fun h => by rw [hok1] at h; exact absurd h.2.2 (by decide))]
      clear hok0 hok1
      go_enter Tryd.func34, Tryd.ntmps34
      go_wp2_with fail
      refine (specOk_any w B A0 n0 c0 l0 hB hl0 (by omega)).mono ?_
      rintro e w1 ⟨rfl, hb1⟩
      rw [HO.out]
      go_wp2_with fail
      refine (specOk_any w1 B A1 n1 c1 l1 (Nat.le_trans hB hb1.size) (hl1.below (hb1.mono hB)) (by omega)).mono ?_
      rintro e w2 ⟨rfl, hb2⟩
      rw [HO1.out]
      go_wp2
      go_ret2
      rw [HP.out]
      exact resP_none (hb1.trans (hb2.mono hb1.size))
    | true =>
      have HO1 := Lib.hid hok1
      by_cases hop : op = 2 ∨ op = 3
      case neg =>
        have HP : Hid (joinR op l0 l1 = none) := by show _ = _; rw [joinR, if_neg (fun h => hop h.1)]
        have hp2 : (op != 2) = true := by simpa using (fun h => hop (.inl h) : ¬ (op = 2))
        have hp3 : (op != 3) = true := by simpa using (fun h => hop (.inr h) : ¬ (op = 3))
        clear hop hok0 hok1
        go_enter Tryd.func34, Tryd.ntmps34
        go_wp2_with fail
        refine (specOk_any w B A0 n0 c0 l0 hB hl0 (by omega)).mono ?_
        rintro e w1 ⟨rfl, hb1⟩
        rw [HO.out]
        go_wp2_with fail
        refine (specOk_any w1 B A1 n1 c1 l1 (Nat.le_trans hB hb1.size) (hl1.below (hb1.mono hB)) (by omega)).mono ?_
        rintro e w2 ⟨rfl, hb2⟩
        rw [HO1.out]
        go_wp2
        go_ret2
        rw [HP.out]
        exact resP_none (hb1.trans (hb2.mono hb1.size))
      case pos =>
        have HP : Hid (joinR op l0 l1 = ifR (l0 ++ (l1 ++ [(op, 0)]))) := by show _ = _; rw [joinR, if_pos ⟨hop, hok0, hok1⟩]
        obtain ⟨hn01, hn02⟩ := ok_len hok0 hl0.1
        obtain ⟨hn11, hn12⟩ := ok_len hok1 hl1.1
        clear hok0 hok1
        have hcl0 := tokCells_len l0
        rw [hl0.1] at hcl0
        have HCL0 := Lib.hid hcl0
        have hcl1 := tokCells_len l1
        rw [hl1.1] at hcl1
        have HCL1 := Lib.hid hcl1
        clear hcl0 hcl1
        rcases hop with hop | hop
        · have hp2 : (op != 2) = false := by rw [hop]; rfl
          clear hop
          go_enter Tryd.func34, Tryd.ntmps34
          go_wp2_with fail
          refine (specOk_any w B A0 n0 c0 l0 hB hl0 (by omega)).mono ?_
          rintro e w1 ⟨rfl, hb1⟩
          rw [HO.out]
          go_wp2_with fail
          refine (specOk_any w1 B A1 n1 c1 l1 (Nat.le_trans hB hb1.size) (hl1.below (hb1.mono hB)) (by omega)).mono ?_
          rintro e w2 ⟨rfl, hb2⟩
          rw [HO1.out]
          have hb12 := hb1.trans (hb2.mono hb1.size)
          have hz2' := hb12.size
          have hb2a : Below w.heap.size w (w2.alloc (.cells #[] 44)) := hb12.alloc hz2' _
          obtain ⟨q0, rfl, hq0⟩ := (hl0.below (hb2a.mono hB)).tokA (by omega)
          have ho0 : OwnT (w2.alloc (.cells #[] 44)) w.heap.size (some ⟨w2.heap.size, 0, none⟩) 0 0 [] := World.ownsRow_made w2 #[] 0 hz2' (by simp [maxLen]) (by simp)
          clear hb1 hb2 hb12
          go_wp2_with (at_builtin; first
            | (refine wpList_append_own _ rfl (.tmp 24) (.tmp 25) 24 rfl w.heap.size 44 i0 (.agg #[.int .i64 0, .int .i64 0]) 2 16 Tryd.underlying24 hi hz0 hz1 hz2 rfl (by decide) (.slice (some ⟨w2.heap.size, 0, none⟩) 0 0) 0 (tokCells []) rfl ho0 q0 n0 c0 (tokCells l0) rfl HCL0.out hq0.2 (tokCells_one l0) (by unfold maxLen; omega) (by omega) (by simp; omega) ?_
               intro v' w3 hown' hgrow hnil
               obtain ⟨g', cap', rfl⟩ : ∃ g' cap', v' = .slice (some ⟨g', 0, none⟩) n0 cap' := by
                 rcases hown'.2 with ⟨h0, _⟩ | ⟨g', cap', _, h0, _⟩
                 · have := (hnil.1 h0).1
                   cases this
                 · rw [Nat.zero_add] at h0; exact ⟨g', cap', h0⟩
               have hb3 : Below w.heap.size w w3 := hb2a.grown hgrow (by simp; omega) (fun k h => by have h' : w2.heap.size = k := (by simpa [Value.ownBlock] using h); omega)
               have ho3 : OwnT w3 w.heap.size (some ⟨g', 0, none⟩) n0 cap' l0 := by
                 have h := hown'
                 rw [tokCells_nil, List.nil_append, Nat.zero_add] at h
                 exact h
               have hz3 := hb3.size
               clear hown' hgrow hnil ho0 hq0 hb2a
               obtain ⟨q1, rfl, hq1⟩ := (hl1.below (hb3.mono hB)).tokA (by omega))
            | (refine wpList_append_own _ rfl (.tmp 26) (.tmp 27) 24 rfl w.heap.size 44 i0 (.agg #[.int .i64 0, .int .i64 0]) 2 16 Tryd.underlying24 hi hz0 hz1 hz2 rfl (by decide) (.slice (some ⟨g', 0, none⟩) n0 cap') n0 (tokCells l0) rfl ho3 q1 n1 c1 (tokCells l1) rfl HCL1.out hq1.2 (tokCells_one l1) (by unfold maxLen; omega) (by omega) (by omega) ?_
               intro v' w4 hown' hgrow hnil
               obtain ⟨g2, cap2, rfl⟩ : ∃ g' cap', v' = .slice (some ⟨g', 0, none⟩) (n0 + n1) cap' := by
                 rcases hown'.2 with ⟨h0, _⟩ | ⟨g', cap', _, h0, _⟩
                 · have := (hnil.1 h0).1
                   cases this
                 · exact ⟨g', cap', h0⟩
               have hb4 : Below w.heap.size w w4 := hb3.grown hgrow (by omega) (fun k h => (ho3.lt k h).1)
               have ho4 : OwnT w4 w.heap.size (some ⟨g2, 0, none⟩) (n0 + n1) cap2 (l0 ++ l1) := by
                 unfold OwnT
                 rw [tokCells_append]
                 exact hown'
               have hz4 := hb4.size
               clear hown' hgrow hnil ho3 hq1 hb3)
            | (refine wpList_append_own _ rfl (.tmp 28) (.tmp 31) 24 rfl w.heap.size 44 i0 (.agg #[.int .i64 0, .int .i64 0]) 2 16 Tryd.underlying24 hi hz0 hz1 hz2 rfl (by decide) (.slice (some ⟨g2, 0, none⟩) (n0 + n1) cap2) (n0 + n1) (tokCells (l0 ++ l1)) rfl (ho4.alloc _) ⟨w4.heap.size, 0, none⟩ 1 1 (tokCells [(op, 0)]) rfl rfl (Blk.tokA2 _ _ _) (tokCells_one _) (by unfold maxLen; omega) (by omega) (by simp; omega) ?_
               intro v' w5 hown' hgrow hnil
               obtain ⟨g3, cap3, rfl⟩ : ∃ g' cap', v' = .slice (some ⟨g', 0, none⟩) (n0 + n1 + 1) cap' := by
                 rcases hown'.2 with ⟨h0, _⟩ | ⟨g', cap', _, h0, _⟩
                 · have := (hnil.1 h0).1
                   cases this
                 · exact ⟨g', cap', h0⟩
               have hb5 : Below w.heap.size w w5 := (hb4.alloc hz4 _).grown hgrow (by simp; omega) (fun k h => (ho4.lt k h).1)
               have HO5 : Hid (OwnT w5 w.heap.size (some ⟨g3, 0, none⟩) (n0 + n1 + 1) cap3 (l0 ++ (l1 ++ [(op, 0)]))) := by
                 show OwnT _ _ _ _ _ _
                 unfold OwnT
                 rw [← List.append_assoc, tokCells_append]
                 exact hown'
               clear hown' hgrow hnil ho4 hb4))
          go_wp2_with fail
          refine (l01If_any w5 w.heap.size _ (n0 + n1 + 1) cap3 _ (by omega) HO5.out).mono ?_
          rintro e w6 ⟨⟨A', c', rfl, ho6⟩, hb6⟩
          have HO6 := Lib.hid ho6
          have HB6 := Lib.hid (hb5.trans (hb6.mono hb5.size))
          clear ho6 hb6
          go_wp2
          go_ret2
          rw [HP.out]
          exact ⟨A', c', rfl, HO6.out, HB6.out⟩
        · have hp2 : (op != 2) = true := by rw [hop]; rfl
          have hp3 : (op != 3) = false := by rw [hop]; rfl
          clear hop
          go_enter Tryd.func34, Tryd.ntmps34
          go_wp2_with fail
          refine (specOk_any w B A0 n0 c0 l0 hB hl0 (by omega)).mono ?_
          rintro e w1 ⟨rfl, hb1⟩
          rw [HO.out]
          go_wp2_with fail
          refine (specOk_any w1 B A1 n1 c1 l1 (Nat.le_trans hB hb1.size) (hl1.below (hb1.mono hB)) (by omega)).mono ?_
          rintro e w2 ⟨rfl, hb2⟩
          rw [HO1.out]
          have hb12 := hb1.trans (hb2.mono hb1.size)
          have hz2' := hb12.size
          have hb2a : Below w.heap.size w (w2.alloc (.cells #[] 44)) := hb12.alloc hz2' _
          obtain ⟨q0, rfl, hq0⟩ := (hl0.below (hb2a.mono hB)).tokA (by omega)
          have ho0 : OwnT (w2.alloc (.cells #[] 44)) w.heap.size (some ⟨w2.heap.size, 0, none⟩) 0 0 [] := World.ownsRow_made w2 #[] 0 hz2' (by simp [maxLen]) (by simp)
          clear hb1 hb2 hb12
          go_wp2_with (at_builtin; first
            | (refine wpList_append_own _ rfl (.tmp 24) (.tmp 25) 24 rfl w.heap.size 44 i0 (.agg #[.int .i64 0, .int .i64 0]) 2 16 Tryd.underlying24 hi hz0 hz1 hz2 rfl (by decide) (.slice (some ⟨w2.heap.size, 0, none⟩) 0 0) 0 (tokCells []) rfl ho0 q0 n0 c0 (tokCells l0) rfl HCL0.out hq0.2 (tokCells_one l0) (by unfold maxLen; omega) (by omega) (by simp; omega) ?_
               intro v' w3 hown' hgrow hnil
               obtain ⟨g', cap', rfl⟩ : ∃ g' cap', v' = .slice (some ⟨g', 0, none⟩) n0 cap' := by
                 rcases hown'.2 with ⟨h0, _⟩ | ⟨g', cap', _, h0, _⟩
                 · have := (hnil.1 h0).1
                   cases this
                 · rw [Nat.zero_add] at h0; exact ⟨g', cap', h0⟩
               have hb3 : Below w.heap.size w w3 := hb2a.grown hgrow (by simp; omega) (fun k h => by have h' : w2.heap.size = k := (by simpa [Value.ownBlock] using h); omega)
               have ho3 : OwnT w3 w.heap.size (some ⟨g', 0, none⟩) n0 cap' l0 := by
                 have h := hown'
                 rw [tokCells_nil, List.nil_append, Nat.zero_add] at h
                 exact h
               have hz3 := hb3.size
               clear hown' hgrow hnil ho0 hq0 hb2a
               obtain ⟨q1, rfl, hq1⟩ := (hl1.below (hb3.mono hB)).tokA (by omega))
            | (refine wpList_append_own _ rfl (.tmp 26) (.tmp 27) 24 rfl w.heap.size 44 i0 (.agg #[.int .i64 0, .int .i64 0]) 2 16 Tryd.underlying24 hi hz0 hz1 hz2 rfl (by decide) (.slice (some ⟨g', 0, none⟩) n0 cap') n0 (tokCells l0) rfl ho3 q1 n1 c1 (tokCells l1) rfl HCL1.out hq1.2 (tokCells_one l1) (by unfold maxLen; omega) (by omega) (by omega) ?_
               intro v' w4 hown' hgrow hnil
               obtain ⟨g2, cap2, rfl⟩ : ∃ g' cap', v' = .slice (some ⟨g', 0, none⟩) (n0 + n1) cap' := by
                 rcases hown'.2 with ⟨h0, _⟩ | ⟨g', cap', _, h0, _⟩
                 · have := (hnil.1 h0).1
                   cases this
                 · exact ⟨g', cap', h0⟩
               have hb4 : Below w.heap.size w w4 := hb3.grown hgrow (by omega) (fun k h => (ho3.lt k h).1)
               have ho4 : OwnT w4 w.heap.size (some ⟨g2, 0, none⟩) (n0 + n1) cap2 (l0 ++ l1) := by
                 unfold OwnT
                 rw [tokCells_append]
                 exact hown'
               have hz4 := hb4.size
               clear hown' hgrow hnil ho3 hq1 hb3)
            | (refine wpList_append_own _ rfl (.tmp 28) (.tmp 31) 24 rfl w.heap.size 44 i0 (.agg #[.int .i64 0, .int .i64 0]) 2 16 Tryd.underlying24 hi hz0 hz1 hz2 rfl (by decide) (.slice (some ⟨g2, 0, none⟩) (n0 + n1) cap2) (n0 + n1) (tokCells (l0 ++ l1)) rfl (ho4.alloc _) ⟨w4.heap.size, 0, none⟩ 1 1 (tokCells [(op, 0)]) rfl rfl (Blk.tokA2 _ _ _) (tokCells_one _) (by unfold maxLen; omega) (by omega) (by simp; omega) ?_
               intro v' w5 hown' hgrow hnil
               obtain ⟨g3, cap3, rfl⟩ : ∃ g' cap', v' = .slice (some ⟨g', 0, none⟩) (n0 + n1 + 1) cap' := by
                 rcases hown'.2 with ⟨h0, _⟩ | ⟨g', cap', _, h0, _⟩
                 · have := (hnil.1 h0).1
                   cases this
                 · exact ⟨g', cap', h0⟩
               have hb5 : Below w.heap.size w w5 := (hb4.alloc hz4 _).grown hgrow (by simp; omega) (fun k h => (ho4.lt k h).1)
               have HO5 : Hid (OwnT w5 w.heap.size (some ⟨g3, 0, none⟩) (n0 + n1 + 1) cap3 (l0 ++ (l1 ++ [(op, 0)]))) := by
                 show OwnT _ _ _ _ _ _
                 unfold OwnT
                 rw [← List.append_assoc, tokCells_append]
                 exact hown'
               clear hown' hgrow hnil ho4 hb4))
          go_wp2_with fail
          refine (l01If_any w5 w.heap.size _ (n0 + n1 + 1) cap3 _ (by omega) HO5.out).mono ?_
          rintro e w6 ⟨⟨A', c', rfl, ho6⟩, hb6⟩
          have HO6 := Lib.hid ho6
          have HB6 := Lib.hid (hb5.trans (hb6.mono hb5.size))
          clear ho6 hb6
          go_wp2
          go_ret2
          rw [HP.out]
          exact ⟨A', c', rfl, HO6.out, HB6.out⟩
end Go.Proofs.YtghoofgfimeedaaDoor
