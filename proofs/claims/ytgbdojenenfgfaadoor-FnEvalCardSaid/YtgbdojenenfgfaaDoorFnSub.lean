/- The law FnSubst: the walk. -/
import Derived.Test.YtgbdojenenfgfaaDoorDraw3
import Derived.Test.YtgbdojenenfgfaaDoorSubMath
import Derived.Test.YtgbdojenenfgfaaDoorFnMono
import Derived.Test.YtgbdojenenfgfaaDoorSpecSubst
namespace Go.Proofs.YtgbdojenenfgfaaDoor
open Go.RowKit

theorem substR_some {l q : List (Int × Int)} {ls : List (List (Int × Int))} (h : substR l ls = some q) : Lv.levelOk l = true ∧ ls.all Lv.levelOk = true ∧ sub ls l = some q ∧ Lv.levelOk q = true := by
  unfold substR at h
  split at h
  · rename_i hk
    cases hs : sub ls l with
    | none => rw [hs] at h; cases h
    | some a =>
      rw [hs, Option.bind_some] at h
      unfold ifR at h
      split at h
      · rename_i ha
        injection h with h
        subst h
        exact ⟨hk.1, hk.2, rfl, ha⟩
      · cases h
  · cases h
theorem eval_pos {env : List Int} {l : List (Int × Int)} {v : Int} (he : ∀ x ∈ env, 0 ≤ x ∧ x ≤ 5) (hok : Lv.levelOk l = true) (h : Lv.eval env l = some v) : 0 ≤ v ∧ v ≤ 29 := by
  obtain ⟨u, hu⟩ := Lv.run_of_ok (env := env) hok
  obtain ⟨u', _, hl⟩ := run_mono (e1 := env) (e2 := env) (fun i => ⟨(getD_mem he (by omega) i).1, Int.le_refl _⟩) l [] [] [u] trivial hu
  have hv : v = u := by
    unfold Lv.eval at h
    rw [if_pos hok, hu] at h
    simp only at h
    injection h with h
    exact h.symm
  subst hv
  have h1 := eval_bound (b := 5) (by omega) (fun x hx => (he x hx).2) h
  have h2 := (succs_bd l).2
  have h3 := (level_len hok rfl).2
  match u', hl with
  | [_], hl => exact ⟨hl.1, by omega⟩
theorem innerV_bd {env : List Int} {ls : List (List (Int × Int))} (he : ∀ x ∈ env, 0 ≤ x ∧ x ≤ 5) (hall : ls.all Lv.levelOk = true) (p : Nat) : 0 ≤ innerV env ls p ∧ innerV env ls p ≤ 29 := by
  unfold innerV
  split
  · rename_i hp
    have hok := all_get hall hp
    obtain ⟨u, hu⟩ := Lv.run_of_ok (env := env) hok
    have hv : Lv.eval env (ls.getD p []) = some u := by unfold Lv.eval; rw [if_pos hok, hu]
    rw [hv]
    exact eval_pos he hok hv
  · omega

end Go.Proofs.YtgbdojenenfgfaaDoor
