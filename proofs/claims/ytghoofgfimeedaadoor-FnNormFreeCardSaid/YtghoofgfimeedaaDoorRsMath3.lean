/- Whether a level is 0 hangs on the sign of the env alone. -/
/- Plain facts: a residual is right for its sign and has the values of its level for the envs of that sign. -/
import Derived.Test.YtghoofgfimeedaaDoorSgLev
import Derived.Test.YtghoofgfimeedaaDoorOwnO

namespace Go.Proofs.YtghoofgfimeedaaDoor
open Go.RowKit

/-- two stacks of one height, nothing below zero, with zeros at the same places -/
def ZeS : List Int → List Int → Prop
  | [], [] => True
  | a :: s, b :: t => (0 ≤ a ∧ 0 ≤ b ∧ (a = 0 ↔ b = 0)) ∧ ZeS s t
  | _, _ => False

theorem step_zero {e1 e2 : List Int} {t : Int × Int} {s s' u : List Int} (he : ∀ i, 0 ≤ e1.getD i 0 ∧ 0 ≤ e2.getD i 0 ∧ (e1.getD i 0 = 0 ↔ e2.getD i 0 = 0)) (hs : ZeS s u) (h : Lv.step e1 t s = some s') : ∃ u', Lv.step e2 t u = some u' ∧ ZeS s' u' := by
  unfold Lv.step at h ⊢
  by_cases hok : Lv.tkOk t = true
  · rw [if_pos hok] at h ⊢
    by_cases h0 : t.1 = 0
    · rw [if_pos h0] at h ⊢
      injection h with h
      subst h
      exact ⟨_, rfl, by omega, hs⟩
    · rw [if_neg h0] at h ⊢
      by_cases h4 : t.1 = 4
      · rw [if_pos h4] at h ⊢
        injection h with h
        subst h
        exact ⟨_, rfl, he _, hs⟩
      · rw [if_neg h4] at h ⊢
        by_cases h1 : t.1 = 1
        · rw [if_pos h1] at h ⊢
          match s, u, hs, h with
          | a :: s, b :: u, hs, h =>
            simp only at h ⊢
            injection h with h
            subst h
            exact ⟨_, rfl, by have := hs.1; omega, hs.2⟩
        · rw [if_neg h1] at h ⊢
          match s, u, hs, h with
          | b :: a :: s, d :: c :: u, hs, h =>
            simp only at h ⊢
            injection h with h
            subst h
            obtain ⟨q1, q2, q3⟩ := hs
            refine ⟨_, rfl, ?_, q3⟩
            by_cases h3 : t.1 = 3
            · by_cases hb : b = 0
              · rw [if_pos ⟨h3, hb⟩, if_pos ⟨h3, q1.2.2.1 hb⟩]
                omega
              · rw [if_neg (fun hh => hb hh.2), if_neg (fun hh => hb (q1.2.2.2 hh.2))]
                omega
            · rw [if_neg (fun hh => h3 hh.1), if_neg (fun hh => h3 hh.1)]
              omega
          | [b], [d], hs, h => simp at h
          | [], [], hs, h => simp at h
  · rw [if_neg hok] at h; cases h
theorem run_zero {e1 e2 : List Int} (he : ∀ i, 0 ≤ e1.getD i 0 ∧ 0 ≤ e2.getD i 0 ∧ (e1.getD i 0 = 0 ↔ e2.getD i 0 = 0)) : ∀ (l : List (Int × Int)) (s u s' : List Int), ZeS s u → Lv.run e1 l s = some s' → ∃ u', Lv.run e2 l u = some u' ∧ ZeS s' u' := by
  intro l
  induction l with
  | nil =>
    intro s u s' hs h
    simp only [Lv.run] at h ⊢
    injection h with h
    subst h
    exact ⟨u, rfl, hs⟩
  | cons t r ih =>
    intro s u s' hs h
    simp only [Lv.run] at h ⊢
    cases hq : Lv.step e1 t s with
    | none => rw [hq] at h; cases h
    | some s1 =>
      rw [hq, Option.bind_some] at h
      obtain ⟨u1, hu, hl⟩ := step_zero he hs hq
      rw [hu, Option.bind_some]
      exact ih s1 u1 s' hl h

namespace Sg
theorem bits_has {env : List Int} (h5 : env.length = 5) (k : Nat) (hk : k < 5) : has (bits env) k = decide (0 < env.getD k 0) := by
  match env, h5 with
  | [a, b, c, d, e], _ =>
    have key : ∀ x0 x1 x2 x3 x4 : Bool, ∀ k : Fin 5, has (((if x0 then 1 else 0) + 2 * ((if x1 then 1 else 0) + 2 * ((if x2 then 1 else 0) + 2 * ((if x3 then 1 else 0) + 2 * ((if x4 then 1 else 0) + 2 * 0))))) : Int) (k : Nat) = [x0, x1, x2, x3, x4].getD k false := by decide +kernel
    have := key (decide (a > 0)) (decide (b > 0)) (decide (c > 0)) (decide (d > 0)) (decide (e > 0)) ⟨k, hk⟩
    simp only [decide_eq_true_eq] at this
    simp only [bits]
    rw [this]
    rcases (show k = 0 ∨ k = 1 ∨ k = 2 ∨ k = 3 ∨ k = 4 by omega) with rfl | rfl | rfl | rfl | rfl <;> rfl
theorem bits_sign {env : List Int} (h5 : env.length = 5) : isSign (bits env) = true := by
  have h1 := bits_nonneg env
  have h2 := bits_lt env
  rw [h5] at h2
  simp [isSign]; omega
theorem least_zero {env : List Int} (h : envOk env = true) (i : Nat) : 0 ≤ (least (bits env)).getD i 0 ∧ 0 ≤ env.getD i 0 ∧ ((least (bits env)).getD i 0 = 0 ↔ env.getD i 0 = 0) := by
  have hm := envOk_mem h
  by_cases hi : i < 5
  · have hv : 0 ≤ env.getD i 0 := by
      rw [List.getD_eq_getElem?_getD, List.getElem?_eq_getElem (by omega)]
      exact (hm.2 _ (List.getElem_mem _)).1
    rw [least_get _ i hi]
    unfold bit
    rw [bits_has hm.1 i hi]
    by_cases hp : 0 < env.getD i 0
    · rw [decide_eq_true hp, if_pos rfl]; omega
    · rw [decide_eq_false hp, if_neg (by decide)]; omega
  · have e1 : (least (bits env)).getD i 0 = 0 := by
      rw [List.getD_eq_getElem?_getD, List.getElem?_eq_none (by rw [least_len]; omega)]; rfl
    have e2 : env.getD i 0 = 0 := by
      rw [List.getD_eq_getElem?_getD, List.getElem?_eq_none (by rw [hm.1]; omega)]; rfl
    rw [e1, e2]; omega
end Sg

theorem lsg_eval {env : List Int} {l : List (Int × Int)} (h : envOk env = true) (hok : Lv.levelOk l = true) : ∃ v, evalR env l = some v ∧ lsgR l (Sg.bits env) = min 1 v := by
  have hm := envOk_mem h
  obtain ⟨u, hu⟩ := Lv.run_of_ok (env := Sg.least (Sg.bits env)) hok
  obtain ⟨s', hs, hz⟩ := run_zero (Sg.least_zero h) l [] [] [u] trivial hu
  match s', hs, hz with
  | [v], hs, hz =>
    refine ⟨v, by simp [evalR, h, Lv.eval, hok, hs], ?_⟩
    rw [lsgR_some (Sg.bits_sign hm.1) (v := u) (by simp [evalR, Sg.least_ok, Lv.eval, hok, hu])]
    have := hz.1
    omega
theorem lsg_not {env : List Int} {l : List (Int × Int)} (hok : Lv.levelOk l = false) : evalR env l = none ∧ lsgR l (Sg.bits env) = -1 :=
  ⟨evalR_not_ok hok, lsgR_none (evalR_not_ok hok)⟩
end Go.Proofs.YtghoofgfimeedaaDoor

namespace Go.Proofs.YtghoofgfimeedaaDoor.Nm
open Go.Proofs.YtghoofgfimeedaaDoor.Lv

/-- the residual of atoms for a sign is one -/
theorem rnorm_rok {s : Int} {a : List At} (hs : Sg.isSign s = true) (h0 : a ≠ []) (hp : Pst s a) (h : AllOk a) : ROk s (rnorm a) := by
  refine ⟨hs, List.length_pos_iff.2 (rnorm_ne h0 h), rnorm_allOk h, incr_of_sorted (rnorm_sorted a), fun k hk => hp.rnorm _ (mem_getD hk), fun e => ?_⟩
  have hs := rnorm_sorted a
  rw [exceeds_mem]
  match hr : rnorm a, hs, e with
  | [], _, _ => intro x hx; simp at hx
  | q :: r, hs, e =>
    intro x hx
    simp only [List.drop_one, List.tail_cons] at hx
    have e' : q.1 = -1 := e
    have hq : q ∈ rnorm a := by rw [hr]; simp
    have hx' : x ∈ rnorm a := by rw [hr]; simp [hx]
    have hlt : q.1 < x.1 := (List.pairwise_cons.1 hs).1 x hx
    obtain ⟨_, _, q3, q4⟩ := mem_rnorm.1 hq
    obtain ⟨_, x2, x3, x4⟩ := mem_rnorm.1 hx'
    rw [e'] at q3 q4
    simp [keepR] at q3
    have hm := most_le a 5 x.1 (by omega) (by simpa using x2)
    have hc := keepR_cases x3
    have hn := best_nonneg h hc
    show x.2 < q.2 - 1
    have hmo : mo a = most a 5 + 1 := by unfold mo; rw [if_neg (by omega)]
    omega

/-- an env of a sign -/
def EnvOf (s : Int) (env : List Int) : Prop := Pos env ∧ (∀ p : Int, Sg.has s p = true → 1 ≤ env.getD p.toNat 0) ∧ (∀ p : Int, 0 ≤ p → p < 5 → Sg.has s p = false → env.getD p.toNat 0 = 0)
theorem has_bd {s p : Int} (h : Sg.has s p = true) : 0 ≤ p ∧ p < 5 := by unfold Sg.has at h; simp at h; omega
theorem value_rnorm {s : Int} {env : List Int} (he : EnvOf s env) {l : List At} (hp : Pst s l) (h : AllOk l) : value env (rnorm l) = value env l := by
  apply Int.le_antisymm
  · exact value_le (value_ge _ _) fun a ha => value_mem (rnorm_sub ha)
  · refine value_le (value_ge _ _) fun a ha => ?_
    obtain ⟨p, x⟩ := a
    have hb := h.mem ha
    have hbm := best_mem ha
    simp only at hb
    by_cases ep : p = -1
    · subst ep
      by_cases hm : mo l < best (-1) l
      · have h1 : ((-1 : Int), best (-1) l) ∈ rnorm l := mem_rnorm.2 ⟨by simp, by simp, by simp [keepR, hm], rfl⟩
        have h2 := value_mem (env := env) h1
        simp [val] at h2 ⊢
        omega
      · have hne : most l 5 ≠ -1 := by intro e; unfold mo at hm; rw [if_pos e] at hm; omega
        have hmo : mo l = most l 5 + 1 := by unfold mo; rw [if_neg hne]
        obtain ⟨q, q1, q2, q3⟩ := most_at l 5 hne
        have g := most_ge l 5
        have h1 : (q, best q l) ∈ rnorm l := mem_rnorm.2 ⟨by simp; omega, by simp; omega, by simp [keepR, show q ≠ -1 by omega]; omega, rfl⟩
        have h2 := value_mem (env := env) h1
        have hq := hp _ (rnorm_sub h1)
        simp only at hq
        have h4 : 1 ≤ env.getD q.toNat 0 := by
          rcases hq with e | e
          · omega
          · exact he.2.1 q e
        simp only [val, if_true] at h2 ⊢
        simp only [show ¬ q = -1 by omega, if_false] at h2
        omega
    · have h1 : (p, best p l) ∈ rnorm l := mem_rnorm.2 ⟨by simp; omega, by simp; omega, by simp [keepR, ep]; omega, rfl⟩
      have h2 := value_mem (env := env) h1
      simp only [val, ep, if_false] at h2 ⊢
      omega
theorem value_zero' {s : Int} {env : List Int} (he : EnvOf s env) {a : List At} (hp : Pst s a) (hok : AllOk a) : value env a = 0 ↔ zeroL a = true := by
  rw [zeroL_iff]
  constructor
  · intro h x hx
    have hv := value_mem (env := env) hx
    have hm := hok.mem hx
    rw [h] at hv
    obtain ⟨p, y⟩ := x
    unfold val at hv
    simp only at hv hm
    rcases hp _ hx with e | e
    · simp only at e
      subst e
      rw [if_pos rfl] at hv
      have : y = 0 := by omega
      rw [this]
    · simp only at e
      have hl := he.2.1 p e
      have hb := has_bd e
      rw [if_neg (by omega)] at hv
      omega
  · intro h
    have h1 := value_ge env a
    have h2 := value_le (env := env) (l := a) (v := 0) (by omega) (fun x hx => by rw [h x hx]; simp [val])
    omega
theorem wstep_val {s : Int} {env : List Int} (he : EnvOf s env) {t : Tk} {k : Nat} {st st' : List (List At)} (hk : k ≤ 999) (hf : WFine s k st) (h : wstep s t st = some st') : Lv.step env t (st.map (value env)) = some (st'.map (value env)) := by
  have hok : tkOk t = true := by
    unfold wstep at h
    split at h
    · assumption
    · cases h
  unfold wstep at h
  unfold Lv.step
  rw [if_pos hok] at h ⊢
  split at h
  · rename_i e
    cases h
    rw [if_pos e]
    simp [value, val]
  · rename_i e
    rw [if_neg e]
    split at h
    · rename_i e4
      cases h
      rw [if_pos e4]
      have h2 : 0 ≤ t.2 ∧ t.2 < 5 := by simp [tkOk] at hok; omega
      have hg := he.1.get t.2.toNat
      simp only [List.map_cons, Option.some.injEq, List.cons.injEq, and_true]
      unfold pl
      cases hh : Sg.has s t.2 with
      | true =>
        simp only [Bool.true_eq_false, and_false, if_false, value, val, show ¬ t.2 = -1 by omega]
        omega
      | false =>
        simp only [h2.1, and_self, if_true, value, val, he.2.2 t.2 h2.1 h2.2 hh]
        rfl
    · rename_i e4
      rw [if_neg e4]
      split at h
      · rename_i e1
        rw [if_pos e1]
        split at h
        · cases h
          rename_i a r
          have ha := hf a (by simp)
          simp only [List.map_cons]
          rw [value_up he.1 ha.1 (hf.allOk (by omega) (by simp)) (by omega)]
        · cases h
      · rename_i e1
        rw [if_neg e1]
        split at h
        · cases h
          rename_i b a r
          have hb := hf b (by simp)
          have hz := value_zero' he hb.2.1 (hf.allOk (by omega) (by simp))
          simp only [List.map_cons, Option.some.injEq, List.cons.injEq, and_true]
          by_cases hc : t.1 = 3 ∧ zeroL b = true
          · rw [if_pos hc, if_pos ⟨hc.1, hz.2 hc.2⟩]
            simp [value, val]
          · rw [if_neg hc, if_neg (fun hh => hc ⟨hh.1, hz.1 hh.2⟩), value_append]
        · cases h
theorem wrun_val {s : Int} {env : List Int} (he : EnvOf s env) {l : List Tk} {st : List (List At)} (hl : l.length ≤ 24) (h : wrun s l [] = some st) : Lv.run env l [] = some (st.map (value env)) := by
  have H : ∀ (l : List Tk) (k : Nat) (u st : List (List At)), k + l.length ≤ 999 → WFine s k u → wrun s l u = some st → Lv.run env l (u.map (value env)) = some (st.map (value env)) := by
    intro l
    induction l with
    | nil => intro k u st _ _ h; cases h; rfl
    | cons t r ih =>
      intro k u st hk hf h
      simp only [wrun] at h
      simp only [List.length_cons] at hk
      cases hs : wstep s t u with
      | none => rw [hs] at h; cases h
      | some u' =>
        rw [hs] at h
        simp only [Lv.run]
        rw [wstep_val he (k := k) (by omega) hf hs, Option.bind_some]
        exact ih (k + 1) u' st (by omega) (wfine_step hf hs) h
  exact H l 0 [] st (by omega) (by intro a ha; simp at ha) h
/-- the residual has the values of the level -/
theorem eval_resid {s : Int} {env : List Int} (he : EnvOf s env) {l : List Tk} (h : levelOk l = true) : Lv.eval env l = some (value env (rnorm (wl s l))) := by
  obtain ⟨a, ha⟩ := wrun_one (s := s) h
  have h' := h
  simp only [levelOk, Bool.and_eq_true, decide_eq_true_eq] at h'
  have hr := wrun_val he (by omega) ha
  have hf := wfine_run (k := 0) (fun a ha => by simp at ha) ha
  have hfa := hf a (by simp)
  have e := Lv.eval_of_run (env := env) (l := l) (v := value env a) (by omega) (by omega) (by simpa using hr)
  rw [e, wl_of ha, value_rnorm he hfa.2.1 (hf.allOk (by omega) (by simp))]
/-- the sign of an env of a sign -/
theorem sgR_of {s : Int} {env : List Int} (hs : Sg.isSign s = true) (hok : envOk env = true) (he : EnvOf s env) : Sg.sgR env = s := by
  have hm := envOk_mem hok
  unfold Sg.sgR
  rw [if_pos hok]
  have hb := fun k hk => Sg.bits_has hm.1 k hk
  have hv : ∀ k : Nat, k < 5 → decide (0 < env.getD k 0) = Sg.has s k := by
    intro k hk
    cases hh : Sg.has s k with
    | true => have := he.2.1 k hh; simp only [Int.toNat_natCast] at this; exact decide_eq_true (by omega)
    | false => have := he.2.2 k (by omega) (by omega) hh; simp only [Int.toNat_natCast] at this; exact decide_eq_false (by omega)
  have h1 := Sg.bits_sign hm.1
  have key : ∀ x y : Fin 32, (∀ k : Fin 5, Sg.has ((x : Nat) : Int) ((k : Nat) : Int) = Sg.has ((y : Nat) : Int) ((k : Nat) : Int)) → x = y := by decide +kernel
  have hbx : 0 ≤ Sg.bits env ∧ Sg.bits env ≤ 31 := by simpa [Sg.isSign] using h1
  have hsx : 0 ≤ s ∧ s ≤ 31 := by simpa [Sg.isSign] using hs
  have hk := key ⟨(Sg.bits env).toNat, by omega⟩ ⟨s.toNat, by omega⟩ (fun k => by
    have e1 : (((Sg.bits env).toNat : Nat) : Int) = Sg.bits env := by omega
    have e2 : ((s.toNat : Nat) : Int) = s := by omega
    simp only [e1, e2]
    rw [hb k k.2, hv k k.2])
  have := congrArg Fin.val hk
  simp only at this
  omega
end Go.Proofs.YtghoofgfimeedaaDoor.Nm
