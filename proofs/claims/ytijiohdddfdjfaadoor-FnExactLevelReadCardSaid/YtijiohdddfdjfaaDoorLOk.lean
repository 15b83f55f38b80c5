/- LevelOk and LevelOff of the program, for every argument. -/
import Derived.Test.YtijiohdddfdjfaaDoorLEval
namespace Go.Proofs.YtijiohdddfdjfaaDoor
open Go.RowKit

def zeros : List Int := [0, 0, 0, 0, 0]
theorem evalR_zeros (l : List (Int × Int)) : (evalR zeros l).isSome = Lv.levelOk l := by
  have hz : envOk zeros = true := by decide
  simp only [evalR, hz, if_true, Lv.eval]
  cases h : Lv.levelOk l with
  | false => simp
  | true =>
    obtain ⟨v, hv⟩ := Lv.run_of_ok (env := zeros) h
    simp [hv]

/-- the two results of an answer -/
theorem evalV_form (r : Option Int) : evalV r = .tuple #[.int .i64 (r.getD 0), .bool r.isSome] := by cases r <;> rfl

set_option maxHeartbeats 400000 in
theorem levelOk_any (w : World) (B : Nat) (A : Option Addr) (n c : Nat) (l : List (Int × Int)) (T : TypeId) (pv : Value) (h0 : 0 < B) (hB : B ≤ w.heap.size)
    (hl : TokR w B A n l) (hn : (n : Int) ≤ 140737488355328) (hE : ErrAt w T pv) :
    Calls Tryd.prog 47 #[.slice A n c] w fun e w' => e = .returned (.bool (Lv.levelOk l)) ∧ Below w.heap.size w w' := by
  have hmk : ∀ w, (Instr.makeSlice 27 (.int .i64 5) (.int .i64 5)).run Tryd.prog w = .ok (.slice (some ⟨w.heap.size, 0, none⟩) 5 5) (w.alloc (.cells #[.int .i64 0, .int .i64 0, .int .i64 0, .int .i64 0, .int .i64 0] 3)) := fun _ => by kernel_rfl
  have hb1 : Below w.heap.size w (w.alloc (.cells #[.int .i64 0, .int .i64 0, .int .i64 0, .int .i64 0, .int .i64 0] 3)) := (Below.refl _ _).alloc (Nat.le_refl _) _
  have HI : Hid (IntR (w.alloc (.cells #[.int .i64 0, .int .i64 0, .int .i64 0, .int .i64 0, .int .i64 0] 3)) (w.heap.size + 1) (some ⟨w.heap.size, 0, none⟩) 5 zeros) := by
    refine ⟨rfl, fun _ => ⟨w.heap.size, 0, rfl, by omega, fun k hk => ?_⟩⟩
    rw [(Blk.made w 3 #[.int .i64 0, .int .i64 0, .int .i64 0, .int .i64 0, .int .i64 0]).cell]
    match k, hk with
    | 0, _ => rfl
    | 1, _ => rfl
    | 2, _ => rfl
    | 3, _ => rfl
    | 4, _ => rfl
  have HT := Lib.hid ((hl.below (hb1.mono hB)).more (B' := w.heap.size + 1) (by omega))
  have HE := Lib.hid (hE.below (hb1.mono hB) h0)
  have HB := Lib.hid hb1
  clear hb1
  go_enter Tryd.func47, Tryd.ntmps47
  go_wp2_with fail
  refine (levelEval_any _ (w.heap.size + 1) A (some ⟨w.heap.size, 0, none⟩) n c 5 5 zeros l T pv (by omega) (by simp) HT.out hn HI.out (by omega) HE.out).mono ?_
  rintro e w' ⟨rfl, hb⟩
  have HBB := Lib.hid (HB.out.trans (hb.mono (by simp)))
  clear hb
  rw [evalV_form, evalR_zeros]
  go_wp2
  go_ret
  exact ⟨rfl, HBB.out⟩

/-- how many of the tokens are successors -/
def succs (l : List (Int × Int)) : Int := ((l.filter fun t => t.1 == 1).length : Int)
theorem succs_snoc (l : List (Int × Int)) (k : Nat) (hk : k < l.length) : succs (l.take (k + 1)) = succs (l.take k) + if (l.getD k (0, 0)).1 = 1 then 1 else 0 := by
  rw [List.take_succ_eq_append_getElem hk]
  simp only [succs, List.filter_append, List.length_append, List.getD_eq_getElem?_getD, List.getElem?_eq_getElem hk, Option.getD_some]
  by_cases h : l[k].1 = 1 <;> simp [h]
theorem succs_bd (l : List (Int × Int)) : 0 ≤ succs l ∧ succs l ≤ l.length := by
  unfold succs
  have := List.length_filter_le (fun t : Int × Int => t.1 == 1) l
  omega
def offR (l : List (Int × Int)) : Int := if Lv.levelOk l = true then succs l else -1
end Go.Proofs.YtijiohdddfdjfaaDoor
