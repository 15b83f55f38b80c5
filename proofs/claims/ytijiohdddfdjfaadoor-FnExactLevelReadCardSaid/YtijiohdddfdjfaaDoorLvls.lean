/- Slices of levels: how they are read, substitution in plain lists, levelsOk of the program. -/
import Derived.Test.YtijiohdddfdjfaaDoorSucc
namespace Go.Proofs.YtijiohdddfdjfaaDoor
open Go.RowKit

/-- a slice of levels: n cells below block B, each a slice of tokens that lie below B -/
def LvlR (w : World) (B : Nat) (A : Option Addr) (n : Nat) (ls : List (List (Int × Int))) : Prop :=
  ls.length = n ∧ (0 < n → ∃ b off, A = some ⟨b, off, none⟩ ∧ b < B ∧ ∀ k, k < n → ∃ Ak nk ck, w.cell? ⟨b, off + k, none⟩ = some (.slice Ak nk ck) ∧ TokR w B Ak nk (ls.getD k []) ∧ (nk : Int) ≤ 9223372036854775807)

theorem LvlR.below {w w' : World} {B : Nat} {A : Option Addr} {n : Nat} {ls : List (List (Int × Int))} (h : LvlR w B A n ls) (hb : Below B w w') : LvlR w' B A n ls :=
  ⟨h.1, fun h0 => by
    obtain ⟨b, off, rfl, hB, hc⟩ := h.2 h0
    refine ⟨b, off, rfl, hB, fun k hk => ?_⟩
    obtain ⟨Ak, nk, ck, c, t, m⟩ := hc k hk
    exact ⟨Ak, nk, ck, (hb.cell (p := ⟨b, off + k, none⟩) hB).trans c, t.below hb, m⟩⟩
theorem LvlR.more {w : World} {B B' : Nat} {A : Option Addr} {n : Nat} {ls : List (List (Int × Int))} (h : LvlR w B A n ls) (hB : B ≤ B') : LvlR w B' A n ls :=
  ⟨h.1, fun h0 => by
    obtain ⟨b, off, rfl, hb, hc⟩ := h.2 h0
    refine ⟨b, off, rfl, by omega, fun k hk => ?_⟩
    obtain ⟨Ak, nk, ck, c, t, m⟩ := hc k hk
    exact ⟨Ak, nk, ck, c, t.more hB, m⟩⟩

/-- the tokens of all levels together -/
def tot (ls : List (List (Int × Int))) : Nat := (ls.map List.length).sum
def bulk (ls : List (List (Int × Int))) : Nat := ls.length + tot ls
theorem tot_take (ls : List (List (Int × Int))) (k : Nat) (hk : k < ls.length) : tot (ls.take (k + 1)) = tot (ls.take k) + (ls.getD k []).length := by
  unfold tot
  rw [List.take_succ_eq_append_getElem hk, List.map_append, List.sum_append]
  congr 1
  simp [List.getD_eq_getElem?_getD, List.getElem?_eq_getElem hk]
theorem tot_le (ls : List (List (Int × Int))) (k : Nat) : tot (ls.take k) ≤ tot ls := by
  unfold tot
  have h : ls.map List.length = (ls.take k).map List.length ++ (ls.drop k).map List.length := by rw [← List.map_append, List.take_append_drop]
  rw [h, List.sum_append]; exact Nat.le_add_right _ _
theorem tot_get (ls : List (List (Int × Int))) (k : Nat) (hk : k < ls.length) : (ls.getD k []).length ≤ tot ls := by
  have h1 := tot_take ls k hk
  have h2 := tot_le ls (k + 1)
  omega

/-- what stands for one token -/
def piece (ls : List (List (Int × Int))) (t : Int × Int) : Option (List (Int × Int)) := if t.1 = 4 then (if t.2 < (ls.length : Int) then some (ls.getD t.2.toNat []) else none) else some [t]
def sub (ls : List (List (Int × Int))) : List (Int × Int) → Option (List (Int × Int))
  | [] => some []
  | t :: r => (piece ls t).bind fun p => (sub ls r).map fun q => p ++ q
theorem sub_append (ls : List (List (Int × Int))) (a b : List (Int × Int)) : sub ls (a ++ b) = (sub ls a).bind fun p => (sub ls b).map fun q => p ++ q := by
  induction a with
  | nil => simp [sub]
  | cons t r ih =>
    simp only [List.cons_append, sub, ih]
    cases piece ls t with
    | none => rfl
    | some p =>
      cases sub ls r with
      | none => rfl
      | some q => cases sub ls b <;> simp
theorem sub_take {ls : List (List (Int × Int))} {l : List (Int × Int)} {k : Nat} {a p : List (Int × Int)} (hk : k < l.length) (ha : sub ls (l.take k) = some a) (hp : piece ls (l.getD k (0, 0)) = some p) : sub ls (l.take (k + 1)) = some (a ++ p) := by
  have hg : l.getD k (0, 0) = l[k] := by simp [List.getD_eq_getElem?_getD, List.getElem?_eq_getElem hk]
  rw [hg] at hp
  rw [List.take_succ_eq_append_getElem hk, sub_append, ha]
  simp [sub, hp]
theorem sub_none {ls : List (List (Int × Int))} {l : List (Int × Int)} {k : Nat} (hk : k < l.length) (hp : piece ls (l.getD k (0, 0)) = none) : sub ls l = none := by
  have hg : l.getD k (0, 0) = l[k] := by simp [List.getD_eq_getElem?_getD, List.getElem?_eq_getElem hk]
  rw [hg] at hp
  rw [← List.take_append_drop k l, sub_append, List.drop_eq_getElem_cons hk]
  cases sub ls (List.take k l) with
  | none => rfl
  | some a => simp [sub, hp]

/-- LevelSubst's answer -/
def substR (l : List (Int × Int)) (ls : List (List (Int × Int))) : Option (List (Int × Int)) :=
  if Lv.levelOk l = true ∧ ls.all Lv.levelOk = true then (sub ls l).bind ifR else none

theorem hts_all {l : List (Int × Int)} {n m : Int} (h : Lv.hts l n = some m) : ∀ t ∈ l, Lv.tkOk t = true := by
  induction l generalizing n with
  | nil => intro t ht; cases ht
  | cons t r ih =>
    rw [Lv.hts] at h
    by_cases hc : Lv.tkOk t = true ∧ Lv.takes t.1 ≤ n
    · rw [if_pos hc] at h
      intro u hu
      rcases List.mem_cons.1 hu with rfl | hu
      · exact hc.1
      · exact ih h u hu
    · rw [if_neg hc] at h; cases h
/-- a token of a level is right: the number of a parameter is 0 .. 4 -/
theorem ok_tk {l : List (Int × Int)} (h : Lv.levelOk l = true) {k : Nat} (hk : k < l.length) {a b : Int} (hg : l.getD k (0, 0) = (a, b)) : 0 ≤ b ∧ b < 5 := by
  simp only [Lv.levelOk, Bool.and_eq_true, decide_eq_true_eq] at h
  have hm : (a, b) ∈ l := by
    rw [← hg, List.getD_eq_getElem?_getD, List.getElem?_eq_getElem hk]
    exact List.getElem_mem hk
  have := hts_all h.2 _ hm
  simp [Lv.tkOk] at this
  omega
theorem all_get {ls : List (List (Int × Int))} {k : Nat} (h : ls.all Lv.levelOk = true) (hk : k < ls.length) : Lv.levelOk (ls.getD k []) = true := by
  rw [List.getD_eq_getElem?_getD, List.getElem?_eq_getElem hk]
  exact List.all_eq_true.1 h _ (List.getElem_mem hk)
theorem all_of {ls : List (List (Int × Int))} (h : ∀ j, j < ls.length → Lv.levelOk (ls.getD j []) = true) : ls.all Lv.levelOk = true := by
  rw [List.all_eq_true]
  intro x hx
  obtain ⟨i, hi, rfl⟩ := List.mem_iff_getElem.1 hx
  have := h i hi
  rwa [List.getD_eq_getElem?_getD, List.getElem?_eq_getElem hi] at this
theorem not_all {ls : List (List (Int × Int))} {k : Nat} (hk : k < ls.length) (h : Lv.levelOk (ls.getD k []) = false) : ls.all Lv.levelOk = false := by
  cases he : ls.all Lv.levelOk with
  | false => rfl
  | true => rw [all_get he hk] at h; cases h

end Go.Proofs.YtijiohdddfdjfaaDoor
