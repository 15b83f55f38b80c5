/- Whether a level is 0 hangs on the sign of the env alone. -/
import Derived.Test.YtijiohdddfdjfaaSgLev
namespace Go.Proofs.Ytijiohdddfdjfaa
open Go.RowKit

/-- two stacks of one height, nothing below zero, with zeros at the same places -/
def ZeS : List Int → List Int → Prop
  | [], [] => True
  | a :: s, b :: t => (0 ≤ a ∧ 0 ≤ b ∧ (a = 0 ↔ b = 0)) ∧ ZeS s t
  | _, _ => False

theorem step_zero {e1 e2 : List Int} {t : Int × Int} {s s' u : List Int} (he : ∀ i, 0 ≤ e1.getD i 0 ∧ 0 ≤ e2.getD i 0 ∧ (e1.getD i 0 = 0 ↔ e2.getD i 0 = 0)) (hs : ZeS s u) (h : Lv.step e1 t s = some s') : ∃ u', Lv.step e2 t u = some u' ∧ ZeS s' u' := by
  unfold Lv.step at h ⊢
  by_cases hok : Lv.tkOk t = true
  · rw [if_pos hok] at h ⊢
    by_cases h0 : t.1 = 0
    · rw [if_pos h0] at h ⊢
      injection h with h
      subst h
      exact ⟨_, rfl, by omega, hs⟩
    · rw [if_neg h0] at h ⊢
      by_cases h4 : t.1 = 4
      · rw [if_pos h4] at h ⊢
        injection h with h
        subst h
        exact ⟨_, rfl, he _, hs⟩
      · rw [if_neg h4] at h ⊢
        by_cases h1 : t.1 = 1
        · rw [if_pos h1] at h ⊢
          match s, u, hs, h with
          | a :: s, b :: u, hs, h =>
            simp only at h ⊢
            injection h with h
            subst h
            exact ⟨_, rfl, by have := hs.1; omega, hs.2⟩
        · rw [if_neg h1] at h ⊢
          match s, u, hs, h with
          | b :: a :: s, d :: c :: u, hs, h =>
            simp only at h ⊢
            injection h with h
            subst h
            obtain ⟨q1, q2, q3⟩ := hs
            refine ⟨_, rfl, ?_, q3⟩
            by_cases h3 : t.1 = 3
            · by_cases hb : b = 0
              · rw [if_pos ⟨h3, hb⟩, if_pos ⟨h3, q1.2.2.1 hb⟩]
                omega
              · rw [if_neg (fun hh => hb hh.2), if_neg (fun hh => hb (q1.2.2.2 hh.2))]
                omega
            · rw [if_neg (fun hh => h3 hh.1), if_neg (fun hh => h3 hh.1)]
              omega
          | [b], [d], hs, h => simp at h
          | [], [], hs, h => simp at h
  · rw [if_neg hok] at h; cases h
theorem run_zero {e1 e2 : List Int} (he : ∀ i, 0 ≤ e1.getD i 0 ∧ 0 ≤ e2.getD i 0 ∧ (e1.getD i 0 = 0 ↔ e2.getD i 0 = 0)) : ∀ (l : List (Int × Int)) (s u s' : List Int), ZeS s u → Lv.run e1 l s = some s' → ∃ u', Lv.run e2 l u = some u' ∧ ZeS s' u' := by
  intro l
  induction l with
  | nil =>
    intro s u s' hs h
    simp only [Lv.run] at h ⊢
    injection h with h
    subst h
    exact ⟨u, rfl, hs⟩
  | cons t r ih =>
    intro s u s' hs h
    simp only [Lv.run] at h ⊢
    cases hq : Lv.step e1 t s with
    | none => rw [hq] at h; cases h
    | some s1 =>
      rw [hq, Option.bind_some] at h
      obtain ⟨u1, hu, hl⟩ := step_zero he hs hq
      rw [hu, Option.bind_some]
      exact ih s1 u1 s' hl h

namespace Sg
theorem bits_has {env : List Int} (h5 : env.length = 5) (k : Nat) (hk : k < 5) : has (bits env) k = decide (0 < env.getD k 0) := by
  match env, h5 with
  | [a, b, c, d, e], _ =>
    have key : ∀ x0 x1 x2 x3 x4 : Bool, ∀ k : Fin 5, has (((if x0 then 1 else 0) + 2 * ((if x1 then 1 else 0) + 2 * ((if x2 then 1 else 0) + 2 * ((if x3 then 1 else 0) + 2 * ((if x4 then 1 else 0) + 2 * 0))))) : Int) (k : Nat) = [x0, x1, x2, x3, x4].getD k false := by decide +kernel
    have := key (decide (a > 0)) (decide (b > 0)) (decide (c > 0)) (decide (d > 0)) (decide (e > 0)) ⟨k, hk⟩
    simp only [decide_eq_true_eq] at this
    simp only [bits]
    rw [this]
    rcases (show k = 0 ∨ k = 1 ∨ k = 2 ∨ k = 3 ∨ k = 4 by omega) with rfl | rfl | rfl | rfl | rfl <;> rfl
theorem bits_sign {env : List Int} (h5 : env.length = 5) : isSign (bits env) = true := by
  have h1 := bits_nonneg env
  have h2 := bits_lt env
  rw [h5] at h2
  simp [isSign]; omega
theorem least_zero {env : List Int} (h : envOk env = true) (i : Nat) : 0 ≤ (least (bits env)).getD i 0 ∧ 0 ≤ env.getD i 0 ∧ ((least (bits env)).getD i 0 = 0 ↔ env.getD i 0 = 0) := by
  have hm := envOk_mem h
  by_cases hi : i < 5
  · have hv : 0 ≤ env.getD i 0 := by
      rw [List.getD_eq_getElem?_getD, List.getElem?_eq_getElem (by omega)]
      exact (hm.2 _ (List.getElem_mem _)).1
    rw [least_get _ i hi]
    unfold bit
    rw [bits_has hm.1 i hi]
    by_cases hp : 0 < env.getD i 0
    · rw [decide_eq_true hp, if_pos rfl]; omega
    · rw [decide_eq_false hp, if_neg (by decide)]; omega
  · have e1 : (least (bits env)).getD i 0 = 0 := by
      rw [List.getD_eq_getElem?_getD, List.getElem?_eq_none (by rw [least_len]; omega)]; rfl
    have e2 : env.getD i 0 = 0 := by
      rw [List.getD_eq_getElem?_getD, List.getElem?_eq_none (by rw [hm.1]; omega)]; rfl
    rw [e1, e2]; omega
end Sg

theorem lsg_eval {env : List Int} {l : List (Int × Int)} (h : envOk env = true) (hok : Lv.levelOk l = true) : ∃ v, evalR env l = some v ∧ lsgR l (Sg.bits env) = min 1 v := by
  have hm := envOk_mem h
  obtain ⟨u, hu⟩ := Lv.run_of_ok (env := Sg.least (Sg.bits env)) hok
  obtain ⟨s', hs, hz⟩ := run_zero (Sg.least_zero h) l [] [] [u] trivial hu
  match s', hs, hz with
  | [v], hs, hz =>
    refine ⟨v, by simp [evalR, h, Lv.eval, hok, hs], ?_⟩
    rw [lsgR_some (Sg.bits_sign hm.1) (v := u) (by simp [evalR, Sg.least_ok, Lv.eval, hok, hu])]
    have := hz.1
    omega
theorem lsg_not {env : List Int} {l : List (Int × Int)} (hok : Lv.levelOk l = false) : evalR env l = none ∧ lsgR l (Sg.bits env) = -1 :=
  ⟨evalR_not_ok hok, lsgR_none (evalR_not_ok hok)⟩
end Go.Proofs.Ytijiohdddfdjfaa
