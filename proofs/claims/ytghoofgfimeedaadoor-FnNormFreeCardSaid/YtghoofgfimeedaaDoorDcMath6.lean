/- Plain facts: joins that are short enough; how OpImax and OpMax hang together. -/
import Derived.Test.YtghoofgfimeedaaDoorDcMath5

namespace Go.Proofs.YtghoofgfimeedaaDoor.Dc
open Go.Proofs.YtghoofgfimeedaaDoor.Nm

/-- a join of levels that together are short enough is a level -/
theorem join_some {op : Int} {a b : List (Int × Int)} (hop : op = 2 ∨ op = 3) (ha : Lv.levelOk a = true) (hb : Lv.levelOk b = true) (hl : a.length + b.length + 1 ≤ 24) : ∃ q, joinR op a b = some q ∧ q.length = a.length + b.length + 1 := by
  obtain ⟨x, hx⟩ := Lv.run_of_ok (env := []) ha
  obtain ⟨y, hy⟩ := Lv.run_of_ok (env := []) hb
  have h2 := run_frame b [] [y] [x] hy
  simp only [List.nil_append, List.cons_append] at h2
  have hok : Lv.levelOk (a ++ (b ++ [(op, 0)])) = true := by
    refine Lv.ok_of_run (env := []) (v := if op = 3 ∧ y = 0 then 0 else max x y) (by simp; omega) (by simp; omega) ?_
    rw [Lv.run_append, hx, Option.bind_some, Lv.run_append, h2, Option.bind_some]
    rcases hop with rfl | rfl
    · simp [Lv.run, Lv.step, Lv.tkOk]
    · simp [Lv.run, Lv.step, Lv.tkOk]
  refine ⟨a ++ (b ++ [(op, 0)]), ?_, by simp; omega⟩
  unfold joinR
  rw [if_pos ⟨hop, ha, hb⟩]
  unfold ifR
  rw [if_pos hok]
/-- both joins are levels, or none -/
theorem join_both {a b m : List (Int × Int)} (h : joinR 2 a b = some m) : ∃ i, joinR 3 a b = some i := by
  obtain ⟨ha, hb, hm⟩ := join_parts h
  have hl : m.length = a.length + b.length + 1 := by
    unfold joinR at h
    split at h
    · unfold ifR at h
      split at h
      · injection h with h; rw [← h]; simp; omega
      · cases h
    · cases h
  obtain ⟨q, hq, _⟩ := join_some (op := 3) (.inr rfl) ha hb (by have := (ok_two hm).2; omega)
  exact ⟨q, hq⟩
theorem join_none {a b : List (Int × Int)} (h : joinR 2 a b = none) : joinR 3 a b = none := by
  cases e : joinR 3 a b with
  | none => rfl
  | some q =>
    obtain ⟨ha, hb, hq⟩ := join_parts e
    have hl : q.length = a.length + b.length + 1 := by
      unfold joinR at e
      split at e
      · unfold ifR at e
        split at e
        · injection e with e; rw [← e]; simp; omega
        · cases e
      · cases e
    obtain ⟨m, hm, _⟩ := join_some (op := 2) (.inl rfl) ha hb (by have := (ok_two hq).2; omega)
    rw [hm] at h
    cases h
theorem succ_some {b : List (Int × Int)} (hb : Lv.levelOk b = true) (hl : b.length + 1 ≤ 24) : ∃ q, succR b 1 = some q ∧ q.length = b.length + 1 ∧ Lv.levelOk q = true ∧ ∀ env, ev env q = ev env b + 1 := by
  refine ⟨b ++ sxs 1, ?_, by simp [sxs], ?_⟩
  · unfold succR
    rw [if_pos ⟨hb, by omega, by omega⟩]
    rfl
  · have h : succR b ((1 : Nat) : Int) = some (b ++ sxs 1) := by
      unfold succR
      rw [if_pos ⟨hb, by omega, by omega⟩]
      rfl
    refine ⟨(eval_succ h (ev_some (env := []) hb)).2.1, fun env => ?_⟩
    have h1 := eval_succ h (ev_some (env := env) hb)
    have h2 := ev_some (env := env) h1.2.1
    rw [h1.2.2.1] at h2
    injection h2 with h2
    rw [← h2]
    rfl
/-- OpImax with a positive second level is OpMax -/
theorem imax_pos {a b s i m : List (Int × Int)} (hb : Lv.levelOk b = true) (he : ∀ env, ev env s = ev env b + 1) (hi : joinR 3 a s = some i) (hm : joinR 2 a s = some m) : eqR i m = true := by
  refine (eq_sem (join_parts hi).2.2 (join_parts hm).2.2).2 fun env h5 hp => ?_
  have := ev_nonneg h5 hp hb
  rw [ev_join hi, ev_join hm, he env, if_neg (by omega), if_neg (by omega)]
/-- OpImax with 0 is 0 -/
theorem imax_zero {a n : List (Int × Int)} (hn : joinR 3 a [(0, 0)] = some n) : cstR n = 0 := by
  refine cst_zero (join_parts hn).2.2 fun env _ _ => ?_
  have hz : ev env [(0, 0)] = 0 := rfl
  rw [ev_join hn, if_pos ⟨rfl, hz⟩]
theorem imax_assoc {a b c bc left ab right : List (Int × Int)} (h1 : joinR 3 b c = some bc) (h2 : joinR 3 a bc = some left) (h3 : joinR 2 a b = some ab) (h4 : joinR 3 ab c = some right) : eqR left right = true := by
  refine (eq_sem (join_parts h2).2.2 (join_parts h4).2.2).2 fun env h5 hp => ?_
  have ha := ev_nonneg h5 hp (join_parts h2).1
  have hb := ev_nonneg h5 hp (join_parts h1).1
  have hc := ev_nonneg h5 hp (join_parts h1).2.1
  rw [ev_join h2, ev_join h4, ev_join h1, ev_join h3]
  generalize ev env a = x at *
  generalize ev env b = y at *
  generalize ev env c = z at *
  simp only [show ¬ ((2 : Int) = 3) by decide, false_and, if_false, true_and]
  split <;> split <;> (try split) <;> omega
end Go.Proofs.YtghoofgfimeedaaDoor.Dc
