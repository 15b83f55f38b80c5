/- Plain facts on levels: evaluation behind a substitution. -/
import Derived.Test.YtgbdojenenfgfaaDoorLvls
import Derived.Test.YtgbdojenenfgfaaDoorParMath
namespace Go.Proofs.YtgbdojenenfgfaaDoor

theorem step_frame {env : List Int} {t : Int × Int} {s s' : List Int} (st : List Int) (h : Lv.step env t s = some s') : Lv.step env t (s ++ st) = some (s' ++ st) := by
  unfold Lv.step at h ⊢
  by_cases hok : Lv.tkOk t = true
  · rw [if_pos hok] at h ⊢
    by_cases h0 : t.1 = 0
    · rw [if_pos h0] at h ⊢
      injection h with h
      subst h
      rfl
    · rw [if_neg h0] at h ⊢
      by_cases h4 : t.1 = 4
      · rw [if_pos h4] at h ⊢
        injection h with h
        subst h
        rfl
      · rw [if_neg h4] at h ⊢
        by_cases h1 : t.1 = 1
        · rw [if_pos h1] at h ⊢
          match s, h with
          | a :: s, h =>
            simp only [List.cons_append] at h ⊢
            injection h with h
            subst h
            rfl
        · rw [if_neg h1] at h ⊢
          match s, h with
          | b :: a :: s, h =>
            simp only [List.cons_append] at h ⊢
            injection h with h
            subst h
            rfl
  · rw [if_neg hok] at h; cases h
theorem run_frame {env : List Int} : ∀ (l : List (Int × Int)) (s s' st : List Int), Lv.run env l s = some s' → Lv.run env l (s ++ st) = some (s' ++ st) := by
  intro l
  induction l with
  | nil =>
    intro s s' st h
    simp only [Lv.run] at h ⊢
    injection h with h
    rw [h]
  | cons t r ih =>
    intro s s' st h
    simp only [Lv.run] at h ⊢
    cases hq : Lv.step env t s with
    | none => rw [hq] at h; cases h
    | some s1 =>
      rw [hq, Option.bind_some] at h
      rw [step_frame st hq, Option.bind_some]
      exact ih s1 s' st h
/-- the value of the level that stands for parameter p -/
def innerV (env : List Int) (ls : List (List (Int × Int))) (p : Nat) : Int := if p < ls.length then (Lv.eval env (ls.getD p [])).getD 0 else 0

theorem run_sub {env inner : List Int} {ls : List (List (Int × Int))} (hall : ls.all Lv.levelOk = true) (hin : ∀ p, p < 5 → inner.getD p 0 = innerV env ls p) :
    ∀ (l q : List (Int × Int)) (st st' : List Int), (∀ t ∈ l, Lv.tkOk t = true) → sub ls l = some q → Lv.run inner l st = some st' → Lv.run env q st = some st' := by
  intro l
  induction l with
  | nil =>
    intro q st st' _ hs h
    simp only [sub] at hs
    injection hs with hs
    subst hs
    exact h
  | cons t r ih =>
    intro q st st' hok hs h
    simp only [sub] at hs
    cases hp : piece ls t with
    | none => rw [hp] at hs; cases hs
    | some p =>
      rw [hp, Option.bind_some] at hs
      cases hr : sub ls r with
      | none => rw [hr] at hs; cases hs
      | some q' =>
        rw [hr, Option.map_some] at hs
        injection hs with hs
        subst hs
        simp only [Lv.run] at h
        cases hq : Lv.step inner t st with
        | none => rw [hq] at h; cases h
        | some s1 =>
          rw [hq, Option.bind_some] at h
          rw [Lv.run_append]
          have ht := hok t (List.mem_cons_self ..)
          have key : Lv.run env p st = some s1 := by
            unfold piece at hp
            by_cases h4 : t.1 = 4
            · rw [if_pos h4] at hp
              by_cases hb : t.2 < (ls.length : Int)
              · rw [if_pos hb] at hp
                injection hp with hp
                have h05 : 0 ≤ t.2 ∧ t.2 < 5 := by simp [Lv.tkOk] at ht; omega
                have hlt : t.2.toNat < ls.length := by omega
                have hlv := all_get hall hlt
                rw [hp] at hlv
                obtain ⟨v, hv⟩ := Lv.run_of_ok (env := env) hlv
                have hf := run_frame p [] [v] st hv
                simp only [List.nil_append, List.cons_append] at hf
                rw [hf]
                have hs1 : s1 = inner.getD t.2.toNat 0 :: st := by
                  unfold Lv.step at hq
                  rw [if_pos ht, if_neg (by omega), if_pos h4] at hq
                  injection hq with hq
                  exact hq.symm
                rw [hs1, hin t.2.toNat (by omega)]
                unfold innerV
                rw [if_pos hlt, hp]
                unfold Lv.eval
                rw [if_pos hlv, hv]
                rfl
              · rw [if_neg hb] at hp; cases hp
            · rw [if_neg h4] at hp
              injection hp with hp
              subst hp
              simp only [Lv.run]
              rw [step_congr (e2 := inner) (fun h => absurd h h4), hq, Option.bind_some]
          rw [key, Option.bind_some]
          exact ih q' s1 st' (fun u hu => hok u (List.mem_cons_of_mem _ hu)) hr h
theorem eval_sub {env inner : List Int} {ls : List (List (Int × Int))} {l q : List (Int × Int)} (hl : Lv.levelOk l = true) (hall : ls.all Lv.levelOk = true) (hq : Lv.levelOk q = true) (hin : ∀ p, p < 5 → inner.getD p 0 = innerV env ls p) (hs : sub ls l = some q) :
    ∃ v, Lv.eval inner l = some v ∧ Lv.eval env q = some v := by
  obtain ⟨v, hv⟩ := Lv.run_of_ok (env := inner) hl
  have hall' : ∀ t ∈ l, Lv.tkOk t = true := by
    have h := hl
    simp only [Lv.levelOk, Bool.and_eq_true, decide_eq_true_eq] at h
    exact hts_all h.2
  have := run_sub hall hin l q [] [v] hall' hs hv
  exact ⟨v, by unfold Lv.eval; rw [if_pos hl, hv], by unfold Lv.eval; rw [if_pos hq, this]⟩
end Go.Proofs.YtgbdojenenfgfaaDoor
