/- LevelEval and LevelOk: the deferred closure, the run, the env's look. -/
import Derived.Test.YtijiohdddfdjfaaAct
import Derived.Laws.IdiomCopy
namespace Go.Proofs.Ytijiohdddfdjfaa
open Go.RowKit

theorem eval_none_of_run {env : List Int} {l : List (Int × Int)} (h : Lv.run env l [] = none) : Lv.eval env l = none := by
  unfold Lv.eval; split
  · rw [h]
  · rfl
theorem eval_none_of_two {env : List Int} {l : List (Int × Int)} {st : List Int} (h : Lv.run env l [] = some st) (hs : st.length ≠ 1) : Lv.eval env l = none := by
  unfold Lv.eval; split
  · rw [h]
    match st, hs with
    | [], _ => rfl
    | [_], h => exact absurd rfl h
    | _ :: _ :: _, _ => rfl
  · rfl
theorem eval_none_of_len {env : List Int} {l : List (Int × Int)} (h : l.length = 0 ∨ 24 < l.length) : Lv.eval env l = none := by
  unfold Lv.eval
  rw [if_neg]
  intro hk
  simp [Lv.levelOk] at hk
  omega

end Go.Proofs.Ytijiohdddfdjfaa
