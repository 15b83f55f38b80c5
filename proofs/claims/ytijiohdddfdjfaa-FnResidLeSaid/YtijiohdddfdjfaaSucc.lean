/- LevelSucc of the program and of the reference model. -/
import Derived.Test.YtijiohdddfdjfaaConcat
import Derived.Test.YtijiohdddfdjfaaSpec
namespace Go.Proofs.Ytijiohdddfdjfaa
open Go.RowKit

theorem tkOk_sx : Lv.tkOk (1, 0) = true := by decide
theorem hts_sxs (n : Nat) (m : Int) (hm : 1 ≤ m) : Lv.hts (sxs n) m = some m := by
  induction n with
  | zero => rfl
  | succ n ih =>
    have : sxs (n + 1) = (1, 0) :: sxs n := rfl
    rw [this, Lv.hts, if_pos ⟨tkOk_sx, by simp [Lv.takes]; omega⟩]
    simpa [Lv.takes] using ih
theorem ok_sxs {l : List (Int × Int)} (h : Lv.levelOk l = true) (n : Nat) : Lv.levelOk (l ++ sxs n) = decide (l.length + n ≤ 24) := by
  simp only [Lv.levelOk, Bool.and_eq_true, decide_eq_true_eq] at h
  have hh : Lv.hts (l ++ sxs n) 0 = some 1 := by rw [Lv.hts_append, h.2, Option.bind_some, hts_sxs n 1 (by omega)]
  have hl : (sxs n).length = n := by simp [sxs]
  simp only [Lv.levelOk, hh, List.length_append, hl, decide_true, Bool.and_true]
  by_cases h24 : l.length + n ≤ 24
  · simp [h24]; omega
  · simp [h24]

/-- LevelSucc's answer -/
def succR (l : List (Int × Int)) (n : Int) : Option (List (Int × Int)) :=
  if Lv.levelOk l = true ∧ 0 ≤ n ∧ n ≤ 24 - (l.length : Int) then some (l ++ sxs n.toNat) else none

/-- what is given back is handed on, if it is a level -/
def ifR (l : List (Int × Int)) : Option (List (Int × Int)) := if Lv.levelOk l = true then some l else none

theorem sxs_succ (m : Nat) (l : List (Int × Int)) : l ++ sxs (m + 1) = (l ++ sxs m) ++ [(1, 0)] := by
  simp [sxs, List.replicate_succ']

theorem succR_if {l : List (Int × Int)} {m : Nat} (hok : Lv.levelOk l = true) : succR l (m : Int) = ifR (l ++ sxs m) := by
  unfold succR ifR
  rw [ok_sxs hok]
  by_cases h : l.length + m ≤ 24
  · rw [if_pos ⟨hok, by omega, by omega⟩, if_pos (by simpa using h)]
    simp
  · rw [if_neg (by omega), if_neg (by simpa using h)]

end Go.Proofs.Ytijiohdddfdjfaa
