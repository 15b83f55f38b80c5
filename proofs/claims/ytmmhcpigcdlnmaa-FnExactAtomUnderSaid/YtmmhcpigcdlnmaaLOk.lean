/- LevelEval and LevelOk: the deferred closure, the run, the env's look. -/
/- LevelEval and LevelOk, for every argument. -/
/- LevelOk and LevelOff of the program, for every argument. -/
import Derived.Test.YtmmhcpigcdlnmaaAct
import Derived.Laws.IdiomCopy
import Derived.Laws.CopyOwn
import Derived.Defers

namespace Go.Proofs.Ytmmhcpigcdlnmaa
open Go.RowKit

theorem eval_none_of_run {env : List Int} {l : List (Int × Int)} (h : Lv.run env l [] = none) : Lv.eval env l = none := by
  unfold Lv.eval; split
  · rw [h]
  · rfl
theorem eval_none_of_two {env : List Int} {l : List (Int × Int)} {st : List Int} (h : Lv.run env l [] = some st) (hs : st.length ≠ 1) : Lv.eval env l = none := by
  unfold Lv.eval; split
  · rw [h]
    match st, hs with
    | [], _ => rfl
    | [_], h => exact absurd rfl h
    | _ :: _ :: _, _ => rfl
  · rfl
theorem eval_none_of_len {env : List Int} {l : List (Int × Int)} (h : l.length = 0 ∨ 24 < l.length) : Lv.eval env l = none := by
  unfold Lv.eval
  rw [if_neg]
  intro hk
  simp [Lv.levelOk] at hk
  omega

end Go.Proofs.Ytmmhcpigcdlnmaa

namespace Go.Proofs.Ytmmhcpigcdlnmaa
open Go.RowKit

/-- LevelEval's answer -/
def evalR (env : List Int) (l : List (Int × Int)) : Option Int := if envOk env = true then Lv.eval env l else none

/-- an answer as the pair of its values -/
def evalV : Option Int → Value
  | some v => .tuple #[.int .i64 v, .bool true]
  | none => .tuple #[.int .i64 0, .bool false]

end Go.Proofs.Ytmmhcpigcdlnmaa

namespace Go.Proofs.Ytmmhcpigcdlnmaa
open Go.RowKit

def zeros : List Int := [0, 0, 0, 0, 0]
theorem evalR_zeros (l : List (Int × Int)) : (evalR zeros l).isSome = Lv.levelOk l := by
  have hz : envOk zeros = true := by decide
  simp only [evalR, hz, if_true, Lv.eval]
  cases h : Lv.levelOk l with
  | false => simp
  | true =>
    obtain ⟨v, hv⟩ := Lv.run_of_ok (env := zeros) h
    simp [hv]

/-- the two results of an answer -/
theorem evalV_form (r : Option Int) : evalV r = .tuple #[.int .i64 (r.getD 0), .bool r.isSome] := by cases r <;> rfl

/-- how many of the tokens are successors -/
def succs (l : List (Int × Int)) : Int := ((l.filter fun t => t.1 == 1).length : Int)
theorem succs_snoc (l : List (Int × Int)) (k : Nat) (hk : k < l.length) : succs (l.take (k + 1)) = succs (l.take k) + if (l.getD k (0, 0)).1 = 1 then 1 else 0 := by
  rw [List.take_succ_eq_append_getElem hk]
  simp only [succs, List.filter_append, List.length_append, List.getD_eq_getElem?_getD, List.getElem?_eq_getElem hk, Option.getD_some]
  by_cases h : l[k].1 = 1 <;> simp [h]
theorem succs_bd (l : List (Int × Int)) : 0 ≤ succs l ∧ succs l ≤ l.length := by
  unfold succs
  have := List.length_filter_le (fun t : Int × Int => t.1 == 1) l
  omega
def offR (l : List (Int × Int)) : Int := if Lv.levelOk l = true then succs l else -1
end Go.Proofs.Ytmmhcpigcdlnmaa
