/- Plain facts on levels: evaluation of a join and of successors. -/
import Derived.Test.YtgbdojenenfgfaaDoorSubMath
import Derived.Test.YtgbdojenenfgfaaDoorJoin
namespace Go.Proofs.YtgbdojenenfgfaaDoor

theorem eval_run {env : List Int} {l : List (Int × Int)} {v : Int} (hok : Lv.levelOk l = true) (h : Lv.eval env l = some v) : Lv.run env l [] = some [v] := by
  obtain ⟨u, hu⟩ := Lv.run_of_ok (env := env) hok
  unfold Lv.eval at h
  rw [if_pos hok, hu] at h
  simp only at h
  injection h with h
  rw [hu, h]
theorem eval_some {env : List Int} {l : List (Int × Int)} (hok : Lv.levelOk l = true) : ∃ v, Lv.eval env l = some v := by
  obtain ⟨u, hu⟩ := Lv.run_of_ok (env := env) hok
  exact ⟨u, by unfold Lv.eval; rw [if_pos hok, hu]⟩
theorem eval_join {env : List Int} {op : Int} {a b q : List (Int × Int)} {x y : Int} (hj : joinR op a b = some q) (hx : Lv.eval env a = some x) (hy : Lv.eval env b = some y) :
    (op = 2 ∨ op = 3) ∧ Lv.levelOk q = true ∧ Lv.eval env q = some (if op = 3 ∧ y = 0 then 0 else max x y) := by
  unfold joinR at hj
  split at hj
  · rename_i hk
    unfold ifR at hj
    split at hj
    · rename_i hq
      injection hj with hj
      subst hj
      refine ⟨hk.1, hq, ?_⟩
      have hrx := eval_run hk.2.1 hx
      have hry := eval_run hk.2.2 hy
      have h2 := run_frame b [] [y] [x] hry
      simp only [List.nil_append, List.cons_append] at h2
      unfold Lv.eval
      rw [if_pos hq, Lv.run_append, hrx, Option.bind_some, Lv.run_append, h2, Option.bind_some]
      have hst : Lv.run env [(op, 0)] [y, x] = some [if op = 3 ∧ y = 0 then 0 else max x y] := by
        rcases hk.1 with rfl | rfl
        · simp [Lv.run, Lv.step, Lv.tkOk]
        · simp [Lv.run, Lv.step, Lv.tkOk]
      rw [hst]
    · cases hj
  · cases hj
theorem run_sxs (env : List Int) (n : Nat) : ∀ v : Int, Lv.run env (sxs n) [v] = some [v + n] := by
  induction n with
  | zero => intro v; simp [sxs, Lv.run]
  | succ n ih =>
    intro v
    have : sxs (n + 1) = (1, 0) :: sxs n := rfl
    rw [this]
    simp only [Lv.run]
    have hs : Lv.step env (1, 0) [v] = some [v + 1] := by simp [Lv.step, Lv.tkOk]
    rw [hs, Option.bind_some, ih (v + 1)]
    congr 2
    omega
theorem eval_succ {env : List Int} {b q : List (Int × Int)} {n : Nat} {y : Int} (hs : succR b (n : Int) = some q) (hy : Lv.eval env b = some y) : Lv.levelOk b = true ∧ Lv.levelOk q = true ∧ Lv.eval env q = some (y + n) ∧ succs q = succs b + n := by
  unfold succR at hs
  split at hs
  · rename_i hk
    injection hs with hs
    rw [Int.toNat_natCast] at hs
    subst hs
    have hq : Lv.levelOk (b ++ sxs n) = true := by rw [ok_sxs hk.1]; simp; omega
    refine ⟨hk.1, hq, ?_, ?_⟩
    · unfold Lv.eval
      rw [if_pos hq, Lv.run_append, eval_run hk.1 hy, Option.bind_some, run_sxs]
    · unfold succs
      rw [List.filter_append, List.length_append]
      have : (sxs n).filter (fun t => t.1 == 1) = sxs n := by
        unfold sxs
        rw [List.filter_replicate]
        simp
      rw [this]
      simp [sxs]
  · cases hs
end Go.Proofs.YtgbdojenenfgfaaDoor
