/- math/bits.Mul at small numbers; slices.Grow, Repeat and Concat over tokens. -/
import Derived.Test.YtijiohdddfdjfaaDoorMarks
import Derived.Lib.AppendZeros
import Derived.Laws.BitsAllLaws
import Derived.Laws.BitsLemmas
import Derived.Laws.CopyOwn
import Derived.RegionTactic
import Derived.BigRegion
namespace Go.Proofs.YtijiohdddfdjfaaDoor
open Go.RowKit

/-- a call gives back a slice of tokens of its own that is not nil -/
def ResT (w : World) (l : List (Int × Int)) (e : Ending) (w' : World) : Prop :=
  ∃ g c, e = .returned (.slice (some ⟨g, 0, none⟩) l.length c) ∧ OwnT w' w.heap.size (some ⟨g, 0, none⟩) l.length c l ∧ Below w.heap.size w w'

set_option maxRecDepth 100000 in
set_option maxHeartbeats 800000 in
theorem grow_nil (n : Nat) (h1 : 1 ≤ n) (hn : n ≤ 1000) (w : World) :
    Calls Tryd.prog 126 #[.slice none 0 0, .int .i64 n] w (ResT w []) := by
  obtain ⟨i0, hi, hz0, hz1, hz2⟩ := info_parts info_tok
  have hr := Lib.run_append_nil_zeros (P := Tryd.prog) w 24 3 24 66 i0 _ .i64 .i64 Tryd.underlying24 Tryd.underlying3 hi hz0 n (by omega) (by omega) (by omega) (by rw [hz2]; omega)
  have hge := grownCap_ge w n 0 66
  have hle := grownCap_le_maxLen w n 0 66 (by unfold maxLen; omega)
  generalize grownCap w n 0 66 = cp at hr hge hle
  obtain ⟨cur, hcur⟩ : ∃ cur, Builtin.zeroCells (Value.agg #[.int .i64 0, .int .i64 0]).cells n ++ Builtin.zeroCells (Value.agg #[.int .i64 0, .int .i64 0]).cells (cp - n) = cur := ⟨_, rfl⟩
  have hsz : cur.size = cp * 2 := by
    rw [← hcur, Array.size_append, size_zeroCells, size_zeroCells]
    have : (Value.agg #[.int .i64 0, .int .i64 0]).cells.size = 2 := rfl
    rw [this]; omega
  rw [hcur] at hr
  have HO : Hid (OwnT (w.drew.alloc (.cells cur 66)) w.heap.size (some ⟨w.heap.size, 0, none⟩) 0 cp []) :=
    World.ownsRow_made w.drew cur cp (Nat.le_refl _) hle hsz
  have HB : Hid (Below w.heap.size w (w.drew.alloc (.cells cur 66))) := (Below.refl _ _).drew.alloc (Nat.le_refl _) _
  have HR := Lib.hid hr
  clear hr hcur hsz hle hi hz0 hz1 hz2
  go_enter Tryd.func126, Tryd.ntmps126
  go_wp2_with (at_builtin; refine Lib.wpList_append_run _ rfl (.tmp 20) (.tmp 21) 24 3 rfl (.slice none 0 0) (.int .i64 n) rfl rfl _ _ HR.out ?_)
  go_wp2
  go_ret
  exact ⟨w.heap.size, cp, rfl, HO.out, HB.out⟩

/-- copy between rows whose elements have several cells -/
theorem run_copyN {P : Program} (w : World) (dT sT ty elem : TypeId) (g o dLen dCap : Nat) (a : Addr) (sLen sCap size : Nat) (cur : Array Value) (t : TypeId) (cs : List Value)
    (hu : P.underlying dT = some (.slice elem)) (i : TypeInfo) (hi : P.info? elem = some i) (hs : i.size = size)
    (hg : w.heap[g]? = some (.cells cur t (0, 0))) (hn : cs.length = Nat.min sLen dLen * size)
    (hsrc : ∀ j v, cs[j]? = some v → w.cell? (a.add j) = some v) (hfit : o + cs.length ≤ cur.size) (h1 : ∀ v ∈ cs, v.oneCell' = true) :
    (Builtin.copy_ #[dT, sT] ty #[.slice (some ⟨g, o, none⟩) dLen dCap, .slice (some a) sLen sCap]).run P w =
      .ok (goInt (Nat.min sLen dLen)) (w.setRow g (cur.toList.take o ++ cs ++ cur.toList.drop (o + cs.length)).toArray) := by
  have hf := run_firstCells_some (P := P) w size (Nat.min sLen dLen) a sLen sCap cs hn hsrc
  have hst := run_storeCells_at P g o t cs 0 cur w hg (by simpa using hfit) h1
  simp [Builtin.copy_, run_underlying hu, Builtin.lenOf, sizeOf, typeInfo, hi, hs, hf, hst]

/-- a token that is a successor, n times -/
def sxs (n : Nat) : List (Int × Int) := List.replicate n (1, 0)
theorem sxs_cells (n j : Nat) (h : j < n * 2) : (tokCells (sxs n))[j]? = some (.int .i64 (if j % 2 = 0 then 1 else 0)) := by
  have hl : (sxs n).length = n := by simp [sxs]
  have hg : ∀ k, k < n → (sxs n).getD k (0, 0) = (1, 0) := by
    intro k hk
    simp [sxs, List.getD_eq_getElem?_getD, hk]
  rcases Nat.mod_two_eq_zero_or_one j with h0 | h0
  · obtain ⟨k, rfl⟩ : ∃ k, j = k * 2 := ⟨j / 2, by omega⟩
    rw [(tokCells_at _ k (by omega)).1, hg k (by omega), if_pos h0]
  · obtain ⟨k, rfl⟩ : ∃ k, j = k * 2 + 1 := ⟨j / 2, by omega⟩
    rw [(tokCells_at _ k (by omega)).2, hg k (by omega), if_neg (by omega)]
theorem sxs_one (n : Nat) : ∀ v ∈ tokCells (sxs n), v.oneCell' = true := by
  intro v hv
  simp only [tokCells, List.mem_flatMap] at hv
  obtain ⟨t, _, ht⟩ := hv
  simp at ht
  rcases ht with rfl | rfl <;> rfl

/-- the first k of n tokens are successors -/
def Rep (w : World) (g n k : Nat) (wr : World) : Prop :=
  Below w.heap.size w wr ∧ ∃ cs, Blk wr g 66 cs ∧ cs.size = n * 2 ∧ ∀ j, j < k * 2 → cs[j]? = some (.int .i64 (if j % 2 = 0 then 1 else 0))

theorem rep_copy {w wr : World} {n k m : Nat} (h : Rep w w.heap.size n k wr) (hm : k + m ≤ n) (cs : Array Value) (hb : Blk wr w.heap.size 66 cs) :
    Rep w w.heap.size n (k + m) (wr.setRow w.heap.size (cs.toList.take (k * 2) ++ tokCells (sxs m) ++ cs.toList.drop (k * 2 + (tokCells (sxs m)).length)).toArray) := by
  obtain ⟨hbel, cs', hblk, hs, hc⟩ := h
  have e := Eq.trans (Eq.symm hblk) hb
  injection e with e
  injection e with e
  subst e
  have hlen : (tokCells (sxs m)).length = m * 2 := by rw [tokCells_len]; simp [sxs]
  refine ⟨below_setRow hbel (Nat.le_refl _) _, _, setRow_heap wr w.heap.size cs' _ 66 (0, 0) hblk, by simp [hlen, hs]; omega, ?_⟩
  intro j hj
  rw [List.getElem?_toArray, List.append_assoc]
  by_cases h1 : j < k * 2
  · rw [List.getElem?_append_left (by simp; omega), List.getElem?_take_of_lt h1, Array.getElem?_toList]
    exact hc j h1
  · rw [List.getElem?_append_right (by simp; omega)]
    have ht : (cs'.toList.take (k * 2)).length = k * 2 := by simp; omega
    rw [ht, List.getElem?_append_left (by rw [hlen]; omega), sxs_cells m (j - k * 2) (by omega), show (j - k * 2) % 2 = j % 2 by omega]

theorem rep_done {w wr : World} {n : Nat} (h : Rep w w.heap.size n n wr) (hn : n ≤ 1000) : OwnT wr w.heap.size (some ⟨w.heap.size, 0, none⟩) (sxs n).length n (sxs n) := by
  have hl : (sxs n).length = n := by simp [sxs]
  obtain ⟨hbel, cs, hblk, hs, hc⟩ := h
  rw [hl]
  refine ⟨by rw [tokCells_len, hl], .inr ⟨w.heap.size, n, cs, rfl, Nat.le_refl _, hblk, Nat.le_refl _, by unfold maxLen; omega, hs, ?_⟩⟩
  rw [← hs, List.take_of_length_le (by simp)]
  apply List.ext_getElem?
  intro i
  by_cases hi : i < n * 2
  · rw [sxs_cells n i hi, Array.getElem?_toList]
    exact hc i hi
  · rw [List.getElem?_eq_none (by simp; omega), List.getElem?_eq_none (by rw [tokCells_len, hl]; omega)]

/-- a slice value that is not nil, its cells those of the tokens l, below block B -/
def TokA (w : World) (B : Nat) (ad : Addr) (l : List (Int × Int)) : Prop := ad.block < B ∧ ∀ j u, (tokCells l)[j]? = some u → w.cell? (ad.add j) = some u
theorem TokA.below {w w' : World} {B : Nat} {ad : Addr} {l : List (Int × Int)} (h : TokA w B ad l) (hb : Below B w w') : TokA w' B ad l :=
  ⟨h.1, fun j u hu => by
    have hbl : (ad.add j).block = ad.block := by unfold Addr.add; split <;> rfl
    exact (hb.cell (by rw [hbl]; exact h.1)).trans (h.2 j u hu)⟩
theorem TokA.more {w : World} {B B' : Nat} {ad : Addr} {l : List (Int × Int)} (h : TokA w B ad l) (hB : B ≤ B') : TokA w B' ad l := ⟨by have := h.1; omega, h.2⟩
theorem TokR.tokA {w : World} {B : Nat} {A : Option Addr} {n : Nat} {l : List (Int × Int)} (h : TokR w B A n l) (hn : 0 < n) : ∃ ad, A = some ad ∧ TokA w B ad l := by
  obtain ⟨b, off, rfl, hb, hc⟩ := h.2 hn
  refine ⟨_, rfl, hb, fun j u hu => ?_⟩
  have hj : j < (tokCells l).length := (List.getElem?_eq_some_iff.1 hu).1
  rw [tokCells_len, h.1] at hj
  have hadd : (⟨b, off, none⟩ : Addr).add j = ⟨b, off + j, none⟩ := by
    unfold Addr.add
    by_cases h : j = 0
    · subst h; rfl
    · rw [if_neg h]
  rw [hadd]
  rcases Nat.mod_two_eq_zero_or_one j with h0 | h0
  · obtain ⟨k, rfl⟩ : ∃ k, j = k * 2 := ⟨j / 2, by omega⟩
    rw [(tokCells_at l k (by have := h.1; omega)).1] at hu
    rw [← hu]; exact (hc k (by omega)).1
  · obtain ⟨k, rfl⟩ : ∃ k, j = k * 2 + 1 := ⟨j / 2, by omega⟩
    rw [(tokCells_at l k (by have := h.1; omega)).2] at hu
    rw [← hu]; exact (hc k (by omega)).2
theorem OwnT.tokA {w : World} {base : Nat} {g n c : Nat} {l : List (Int × Int)} (h : OwnT w base (some ⟨g, 0, none⟩) n c l) : TokA w w.heap.size ⟨g, 0, none⟩ l :=
  ⟨(h.lt g rfl).2, fun j u hu => h.cells (g := g) rfl j u hu⟩
theorem tokCells_one (l : List (Int × Int)) : ∀ v ∈ tokCells l, v.oneCell' = true := by
  intro v hv
  simp only [tokCells, List.mem_flatMap] at hv
  obtain ⟨t, _, ht⟩ := hv
  simp at ht
  rcases ht with rfl | rfl <;> rfl
end Go.Proofs.YtijiohdddfdjfaaDoor
