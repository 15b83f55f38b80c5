/- math/bits.Mul at small numbers; slices.Grow, Repeat and Concat over tokens. -/
/- slices.Concat over slices of tokens. -/
/- LevelSucc of the program and of the reference model. -/
/- LevelJoin of the program and of the reference model. -/
import Derived.Test.YtmmhcpigcdlnmaaMarks
import Derived.Lib.AppendZeros
import Derived.Laws.BitsAllLaws
import Derived.Laws.BitsLemmas
import Derived.Laws.CopyOwn
import Derived.RegionTactic
import Derived.BigRegion
import Derived.Test.YtmmhcpigcdlnmaaSpec

namespace Go.Proofs.Ytmmhcpigcdlnmaa
open Go.RowKit

/-- copy between rows whose elements have several cells -/
theorem run_copyN {P : Program} (w : World) (dT sT ty elem : TypeId) (g o dLen dCap : Nat) (a : Addr) (sLen sCap size : Nat) (cur : Array Value) (t : TypeId) (cs : List Value)
    (hu : P.underlying dT = some (.slice elem)) (i : TypeInfo) (hi : P.info? elem = some i) (hs : i.size = size)
    (hg : w.heap[g]? = some (.cells cur t (0, 0))) (hn : cs.length = Nat.min sLen dLen * size)
    (hsrc : ∀ j v, cs[j]? = some v → w.cell? (a.add j) = some v) (hfit : o + cs.length ≤ cur.size) (h1 : ∀ v ∈ cs, v.oneCell' = true) :
    (Builtin.copy_ #[dT, sT] ty #[.slice (some ⟨g, o, none⟩) dLen dCap, .slice (some a) sLen sCap]).run P w =
      .ok (goInt (Nat.min sLen dLen)) (w.setRow g (cur.toList.take o ++ cs ++ cur.toList.drop (o + cs.length)).toArray) := by
  have hf := run_firstCells_some (P := P) w size (Nat.min sLen dLen) a sLen sCap cs hn hsrc
  have hst := run_storeCells_at P g o t cs 0 cur w hg (by simpa using hfit) h1
  simp [Builtin.copy_, run_underlying hu, Builtin.lenOf, sizeOf, typeInfo, hi, hs, hf, hst]

/-- a token that is a successor, n times -/
def sxs (n : Nat) : List (Int × Int) := List.replicate n (1, 0)
theorem sxs_cells (n j : Nat) (h : j < n * 2) : (tokCells (sxs n))[j]? = some (.int .i64 (if j % 2 = 0 then 1 else 0)) := by
  have hl : (sxs n).length = n := by simp [sxs]
  have hg : ∀ k, k < n → (sxs n).getD k (0, 0) = (1, 0) := by
    intro k hk
    simp [sxs, List.getD_eq_getElem?_getD, hk]
  rcases Nat.mod_two_eq_zero_or_one j with h0 | h0
  · obtain ⟨k, rfl⟩ : ∃ k, j = k * 2 := ⟨j / 2, by omega⟩
    rw [(tokCells_at _ k (by omega)).1, hg k (by omega), if_pos h0]
  · obtain ⟨k, rfl⟩ : ∃ k, j = k * 2 + 1 := ⟨j / 2, by omega⟩
    rw [(tokCells_at _ k (by omega)).2, hg k (by omega), if_neg (by omega)]
theorem sxs_one (n : Nat) : ∀ v ∈ tokCells (sxs n), v.oneCell' = true := by
  intro v hv
  simp only [tokCells, List.mem_flatMap] at hv
  obtain ⟨t, _, ht⟩ := hv
  simp at ht
  rcases ht with rfl | rfl <;> rfl

/-- a slice value that is not nil, its cells those of the tokens l, below block B -/
def TokA (w : World) (B : Nat) (ad : Addr) (l : List (Int × Int)) : Prop := ad.block < B ∧ ∀ j u, (tokCells l)[j]? = some u → w.cell? (ad.add j) = some u
theorem TokA.below {w w' : World} {B : Nat} {ad : Addr} {l : List (Int × Int)} (h : TokA w B ad l) (hb : Below B w w') : TokA w' B ad l :=
  ⟨h.1, fun j u hu => by
    have hbl : (ad.add j).block = ad.block := by unfold Addr.add; split <;> rfl
    exact (hb.cell (by rw [hbl]; exact h.1)).trans (h.2 j u hu)⟩
theorem TokA.more {w : World} {B B' : Nat} {ad : Addr} {l : List (Int × Int)} (h : TokA w B ad l) (hB : B ≤ B') : TokA w B' ad l := ⟨by have := h.1; omega, h.2⟩
theorem TokR.tokA {w : World} {B : Nat} {A : Option Addr} {n : Nat} {l : List (Int × Int)} (h : TokR w B A n l) (hn : 0 < n) : ∃ ad, A = some ad ∧ TokA w B ad l := by
  obtain ⟨b, off, rfl, hb, hc⟩ := h.2 hn
  refine ⟨_, rfl, hb, fun j u hu => ?_⟩
  have hj : j < (tokCells l).length := (List.getElem?_eq_some_iff.1 hu).1
  rw [tokCells_len, h.1] at hj
  have hadd : (⟨b, off, none⟩ : Addr).add j = ⟨b, off + j, none⟩ := by
    unfold Addr.add
    by_cases h : j = 0
    · subst h; rfl
    · rw [if_neg h]
  rw [hadd]
  rcases Nat.mod_two_eq_zero_or_one j with h0 | h0
  · obtain ⟨k, rfl⟩ : ∃ k, j = k * 2 := ⟨j / 2, by omega⟩
    rw [(tokCells_at l k (by have := h.1; omega)).1] at hu
    rw [← hu]; exact (hc k (by omega)).1
  · obtain ⟨k, rfl⟩ : ∃ k, j = k * 2 + 1 := ⟨j / 2, by omega⟩
    rw [(tokCells_at l k (by have := h.1; omega)).2] at hu
    rw [← hu]; exact (hc k (by omega)).2
theorem tokCells_one (l : List (Int × Int)) : ∀ v ∈ tokCells l, v.oneCell' = true := by
  intro v hv
  simp only [tokCells, List.mem_flatMap] at hv
  obtain ⟨t, _, ht⟩ := hv
  simp at ht
  rcases ht with rfl | rfl <;> rfl
end Go.Proofs.Ytmmhcpigcdlnmaa

namespace Go.Proofs.Ytmmhcpigcdlnmaa
open Go.RowKit

theorem flat_take {α : Type} (ls : List (List α)) (k : Nat) (hk : k < ls.length) : (ls.take (k + 1)).flatten = (ls.take k).flatten ++ ls.getD k [] := by
  rw [List.take_succ_eq_append_getElem hk, List.flatten_append]
  simp [List.getD_eq_getElem?_getD, List.getElem?_eq_getElem hk]
theorem flat_le {α : Type} (ls : List (List α)) (k : Nat) : (ls.take k).flatten.length ≤ ls.flatten.length := by
  have h : ls.flatten = (ls.take k).flatten ++ (ls.drop k).flatten := by rw [← List.flatten_append, List.take_append_drop]
  rw [h]; simp

/-- the slices that are joined: their values in a row at block gs, their tokens below B -/
def Parts (w : World) (B gs : Nat) (ad : Nat → Addr) (cp : Nat → Nat) (ls : List (List (Int × Int))) : Prop :=
  gs < B ∧ ∀ i, i < ls.length → w.cell? ⟨gs, i, none⟩ = some (.slice (some (ad i)) (ls.getD i []).length (cp i)) ∧ TokA w B (ad i) (ls.getD i [])
theorem Parts.below {w w' : World} {B gs : Nat} {ad : Nat → Addr} {cp : Nat → Nat} {ls : List (List (Int × Int))} (h : Parts w B gs ad cp ls) (hb : Below B w w') : Parts w' B gs ad cp ls :=
  ⟨h.1, fun i hi => ⟨(hb.cell (p := ⟨gs, i, none⟩) h.1).trans (h.2 i hi).1, (h.2 i hi).2.below hb⟩⟩

theorem own_some {w : World} {base g n c : Nat} {e : TypeId} {size : Nat} {v' : Value} {xs : List Value} (h : w.ownsRow base e size v' n xs) (hne : v' = .slice none 0 0 ↔ (Value.slice (some ⟨g, 0, none⟩) n c = .slice none 0 0 ∧ False)) :
    ∃ g' cap', v' = .slice (some ⟨g', 0, none⟩) n cap' := by
  rcases h.2 with ⟨h0, _⟩ | ⟨g', cap', _, h0, _⟩
  · exact absurd (hne.1 h0).2 (fun x => x)
  · exact ⟨g', cap', h0⟩

end Go.Proofs.Ytmmhcpigcdlnmaa

namespace Go.Proofs.Ytmmhcpigcdlnmaa
open Go.RowKit

theorem tkOk_sx : Lv.tkOk (1, 0) = true := by decide
theorem hts_sxs (n : Nat) (m : Int) (hm : 1 ≤ m) : Lv.hts (sxs n) m = some m := by
  induction n with
  | zero => rfl
  | succ n ih =>
    have : sxs (n + 1) = (1, 0) :: sxs n := rfl
    rw [this, Lv.hts, if_pos ⟨tkOk_sx, by simp [Lv.takes]; omega⟩]
    simpa [Lv.takes] using ih
theorem ok_sxs {l : List (Int × Int)} (h : Lv.levelOk l = true) (n : Nat) : Lv.levelOk (l ++ sxs n) = decide (l.length + n ≤ 24) := by
  simp only [Lv.levelOk, Bool.and_eq_true, decide_eq_true_eq] at h
  have hh : Lv.hts (l ++ sxs n) 0 = some 1 := by rw [Lv.hts_append, h.2, Option.bind_some, hts_sxs n 1 (by omega)]
  have hl : (sxs n).length = n := by simp [sxs]
  simp only [Lv.levelOk, hh, List.length_append, hl, decide_true, Bool.and_true]
  by_cases h24 : l.length + n ≤ 24
  · simp [h24]; omega
  · simp [h24]

/-- LevelSucc's answer -/
def succR (l : List (Int × Int)) (n : Int) : Option (List (Int × Int)) :=
  if Lv.levelOk l = true ∧ 0 ≤ n ∧ n ≤ 24 - (l.length : Int) then some (l ++ sxs n.toNat) else none

/-- what is given back is handed on, if it is a level -/
def ifR (l : List (Int × Int)) : Option (List (Int × Int)) := if Lv.levelOk l = true then some l else none

theorem sxs_succ (m : Nat) (l : List (Int × Int)) : l ++ sxs (m + 1) = (l ++ sxs m) ++ [(1, 0)] := by
  simp [sxs, List.replicate_succ']

theorem succR_if {l : List (Int × Int)} {m : Nat} (hok : Lv.levelOk l = true) : succR l (m : Int) = ifR (l ++ sxs m) := by
  unfold succR ifR
  rw [ok_sxs hok]
  by_cases h : l.length + m ≤ 24
  · rw [if_pos ⟨hok, by omega, by omega⟩, if_pos (by simpa using h)]
    simp
  · rw [if_neg (by omega), if_neg (by simpa using h)]

end Go.Proofs.Ytmmhcpigcdlnmaa

namespace Go.Proofs.Ytmmhcpigcdlnmaa
open Go.RowKit

/-- LevelJoin's answer -/
def joinR (op : Int) (a b : List (Int × Int)) : Option (List (Int × Int)) :=
  if (op = 2 ∨ op = 3) ∧ Lv.levelOk a = true ∧ Lv.levelOk b = true then ifR (a ++ (b ++ [(op, 0)])) else none

theorem ok_len {l : List (Int × Int)} {n : Nat} (h : Lv.levelOk l = true) (hn : l.length = n) : 1 ≤ n ∧ n ≤ 24 := by
  simp [Lv.levelOk] at h
  omega

end Go.Proofs.Ytmmhcpigcdlnmaa
