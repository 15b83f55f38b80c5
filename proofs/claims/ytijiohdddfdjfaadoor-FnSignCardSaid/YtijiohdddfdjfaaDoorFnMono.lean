/- The law FnMonotone: the plain fact and the walk. -/
import Derived.Test.YtijiohdddfdjfaaDoorDraw2
import Derived.Test.YtijiohdddfdjfaaDoorSpecEval
namespace Go.Proofs.YtijiohdddfdjfaaDoor
open Go.RowKit

/-- two stacks of one height, the first nowhere higher, nothing below zero -/
def LeS : List Int → List Int → Prop
  | [], [] => True
  | a :: s, b :: t => 0 ≤ a ∧ a ≤ b ∧ LeS s t
  | _, _ => False

theorem step_mono {e1 e2 : List Int} {t : Int × Int} {s s' u : List Int} (he : ∀ i, 0 ≤ e1.getD i 0 ∧ e1.getD i 0 ≤ e2.getD i 0) (hs : LeS s u) (h : Lv.step e1 t s = some s') : ∃ u', Lv.step e2 t u = some u' ∧ LeS s' u' := by
  unfold Lv.step at h ⊢
  by_cases hok : Lv.tkOk t = true
  · rw [if_pos hok] at h ⊢
    by_cases h0 : t.1 = 0
    · rw [if_pos h0] at h ⊢
      injection h with h
      subst h
      exact ⟨_, rfl, by omega, by omega, hs⟩
    · rw [if_neg h0] at h ⊢
      by_cases h4 : t.1 = 4
      · rw [if_pos h4] at h ⊢
        injection h with h
        subst h
        exact ⟨_, rfl, (he _).1, (he _).2, hs⟩
      · rw [if_neg h4] at h ⊢
        by_cases h1 : t.1 = 1
        · rw [if_pos h1] at h ⊢
          match s, u, hs, h with
          | a :: s, b :: u, hs, h =>
            simp only at h ⊢
            injection h with h
            subst h
            exact ⟨_, rfl, by have := hs.1; omega, by have := hs.2.1; omega, hs.2.2⟩
        · rw [if_neg h1] at h ⊢
          match s, u, hs, h with
          | b :: a :: s, d :: c :: u, hs, h =>
            simp only at h ⊢
            injection h with h
            subst h
            obtain ⟨q1, q2, q3, q4, q5⟩ := hs
            refine ⟨_, rfl, ?_, ?_, q5⟩
            · split <;> omega
            · by_cases h3 : t.1 = 3
              · by_cases hb : b = 0
                · rw [if_pos ⟨h3, hb⟩]
                  split <;> omega
                · rw [if_neg (fun hh => hb hh.2), if_neg (fun hh => by omega)]
                  omega
              · rw [if_neg (fun hh => h3 hh.1), if_neg (fun hh => h3 hh.1)]
                omega
          | [b], [d], hs, h => simp at h
          | [], [], hs, h => simp at h
  · rw [if_neg hok] at h; cases h
theorem run_mono {e1 e2 : List Int} (he : ∀ i, 0 ≤ e1.getD i 0 ∧ e1.getD i 0 ≤ e2.getD i 0) : ∀ (l : List (Int × Int)) (s u s' : List Int), LeS s u → Lv.run e1 l s = some s' → ∃ u', Lv.run e2 l u = some u' ∧ LeS s' u' := by
  intro l
  induction l with
  | nil =>
    intro s u s' hs h
    simp only [Lv.run] at h ⊢
    injection h with h
    subst h
    exact ⟨u, rfl, hs⟩
  | cons t r ih =>
    intro s u s' hs h
    simp only [Lv.run] at h ⊢
    cases hq : Lv.step e1 t s with
    | none => rw [hq] at h; cases h
    | some s1 =>
      rw [hq, Option.bind_some] at h
      obtain ⟨u1, hu, hl⟩ := step_mono he hs hq
      rw [hu, Option.bind_some]
      exact ih s1 u1 s' hl h
theorem eval_mono {e1 e2 : List Int} {l : List (Int × Int)} (hok : Lv.levelOk l = true) (he : ∀ i, 0 ≤ e1.getD i 0 ∧ e1.getD i 0 ≤ e2.getD i 0) : ∃ v u, Lv.eval e1 l = some v ∧ Lv.eval e2 l = some u ∧ v ≤ u := by
  obtain ⟨v, hv⟩ := Lv.run_of_ok (env := e1) hok
  obtain ⟨u', hu, hl⟩ := run_mono he l [] [] [v] trivial hv
  match u', hu, hl with
  | [u], hu, hl => exact ⟨v, u, by unfold Lv.eval; rw [if_pos hok, hv], by unfold Lv.eval; rw [if_pos hok, hu], hl.2.1⟩

theorem env_all {env : List Int} {m : Int} (h5 : env.length = 5) (h : ∀ j, j < 5 → 0 ≤ env.getD j 0 ∧ env.getD j 0 ≤ m) : ∀ x ∈ env, 0 ≤ x ∧ x ≤ m := by
  intro x hx
  obtain ⟨i, hi, rfl⟩ := List.mem_iff_getElem.1 hx
  have := h i (by omega)
  rwa [List.getD_eq_getElem?_getD, List.getElem?_eq_getElem hi] at this

end Go.Proofs.YtijiohdddfdjfaaDoor
