/- Plain facts on levels: evaluation looks at the parameters alone, and is bounded. -/
import Derived.Test.YtijiohdddfdjfaaDoorParams3
import Derived.Test.YtijiohdddfdjfaaDoorOff
namespace Go.Proofs.YtijiohdddfdjfaaDoor

theorem step_congr {e1 e2 : List Int} {t : Int × Int} {st : List Int} (h : t.1 = 4 → e1.getD t.2.toNat 0 = e2.getD t.2.toNat 0) : Lv.step e1 t st = Lv.step e2 t st := by
  unfold Lv.step
  by_cases h4 : t.1 = 4
  · rw [h h4]
  · simp [h4]
theorem run_congr {e1 e2 : List Int} {l : List (Int × Int)} (h : ∀ t ∈ l, t.1 = 4 → e1.getD t.2.toNat 0 = e2.getD t.2.toNat 0) : ∀ st, Lv.run e1 l st = Lv.run e2 l st := by
  induction l with
  | nil => intro st; rfl
  | cons t r ih =>
    intro st
    simp only [Lv.run]
    rw [step_congr (h t (List.mem_cons_self ..))]
    congr 1
    funext s
    exact ih (fun u hu => h u (List.mem_cons_of_mem _ hu)) s
theorem eval_congr {e1 e2 : List Int} {l : List (Int × Int)} (h : ∀ t ∈ l, t.1 = 4 → e1.getD t.2.toNat 0 = e2.getD t.2.toNat 0) : Lv.eval e1 l = Lv.eval e2 l := by
  unfold Lv.eval
  rw [run_congr h]

theorem getD_le {env : List Int} {b : Int} (hb : 0 ≤ b) (henv : ∀ x ∈ env, x ≤ b) (i : Nat) : env.getD i 0 ≤ b := by
  rw [List.getD_eq_getElem?_getD]
  cases hg : env[i]? with
  | none => simpa using hb
  | some x => simpa using henv x (List.mem_of_getElem? hg)
theorem step_bound {env : List Int} {t : Int × Int} {st st' : List Int} {b : Int} (hb : 0 ≤ b) (henv : ∀ x ∈ env, x ≤ b) (hst : ∀ x ∈ st, x ≤ b) (h : Lv.step env t st = some st') :
    ∀ x ∈ st', x ≤ b + if t.1 = 1 then 1 else 0 := by
  unfold Lv.step at h
  split at h
  · split at h
    · rename_i h0
      injection h with h
      subst h
      intro x hx
      rw [if_neg (by omega)]
      rcases List.mem_cons.1 hx with rfl | hx
      · omega
      · have := hst x hx; omega
    · split at h
      · rename_i h4
        injection h with h
        subst h
        intro x hx
        rw [if_neg (by omega)]
        rcases List.mem_cons.1 hx with rfl | hx
        · have := getD_le hb henv t.2.toNat; omega
        · have := hst x hx; omega
      · split at h
        · rename_i h1
          rw [if_pos h1]
          cases st with
          | nil => cases h
          | cons a s =>
            simp only at h
            injection h with h
            subst h
            intro x hx
            rcases List.mem_cons.1 hx with rfl | hx
            · have := hst a (List.mem_cons_self ..); omega
            · have := hst x (List.mem_cons_of_mem _ hx); omega
        · rename_i h1
          rw [if_neg h1]
          match st, h with
          | c :: a :: s, h =>
            simp only at h
            injection h with h
            subst h
            intro x hx
            have h2 := hst c (List.mem_cons_self ..)
            have h3 := hst a (List.mem_cons_of_mem _ (List.mem_cons_self ..))
            rcases List.mem_cons.1 hx with rfl | hx
            · split
              · omega
              · omega
            · have := hst x (List.mem_cons_of_mem _ (List.mem_cons_of_mem _ hx)); omega
  · cases h
theorem run_bound {env : List Int} : ∀ (l : List (Int × Int)) (st st' : List Int) (b : Int), 0 ≤ b → (∀ x ∈ env, x ≤ b) → (∀ x ∈ st, x ≤ b) → Lv.run env l st = some st' → ∀ x ∈ st', x ≤ b + succs l := by
  intro l
  induction l with
  | nil =>
    intro st st' b hb henv hst h x hx
    simp only [Lv.run] at h
    injection h with h
    subst h
    have := hst x hx
    simpa [succs] using this
  | cons t r ih =>
    intro st st' b hb henv hst h x hx
    simp only [Lv.run] at h
    cases hs : Lv.step env t st with
    | none => rw [hs] at h; cases h
    | some s =>
      rw [hs, Option.bind_some] at h
      have h1 := step_bound hb henv hst hs
      have hc : succs (t :: r) = succs r + if t.1 = 1 then 1 else 0 := by
        unfold succs
        by_cases e : t.1 = 1 <;> simp [e]
      have h2 := ih s st' (b + if t.1 = 1 then 1 else 0) (by split <;> omega) (fun y hy => by have := henv y hy; split <;> omega) h1 h x hx
      rw [hc]
      omega
theorem eval_bound {env : List Int} {l : List (Int × Int)} {v b : Int} (hb : 0 ≤ b) (henv : ∀ x ∈ env, x ≤ b) (h : Lv.eval env l = some v) : v ≤ b + succs l := by
  unfold Lv.eval at h
  split at h
  · cases hr : Lv.run env l [] with
    | none => rw [hr] at h; cases h
    | some s =>
      rw [hr] at h
      match s, h with
      | [u], h =>
        simp only at h
        injection h with h
        subst h
        exact run_bound l [] [u] b hb henv (fun x hx => by cases hx) hr u (List.mem_cons_self ..)
  · cases h

theorem prms_get {l : List (Int × Int)} {k : Nat} (hk : k < (prms l).length) : ∃ q : Nat, q < 5 ∧ (prms l).getD k 0 = (q : Int) := by
  have hm : (prms l).getD k 0 ∈ prms l := by
    rw [List.getD_eq_getElem?_getD, List.getElem?_eq_getElem hk]
    exact List.getElem_mem hk
  generalize (prms l).getD k 0 = p at hm
  unfold prms at hm
  split at hm
  · unfold prmsTo at hm
    obtain ⟨q, hq, rfl⟩ := List.mem_map.1 hm
    exact ⟨q, List.mem_range.1 (List.mem_filter.1 hq).1, rfl⟩
  · cases hm
theorem prms_mem {l : List (Int × Int)} {q : Nat} (hok : Lv.levelOk l = true) (hq : q < 5) (h : (4, (q : Int)) ∈ l) : ∃ k, k < (prms l).length ∧ (prms l).getD k 0 = (q : Int) := by
  have hm : (q : Int) ∈ prms l := by
    unfold prms
    rw [if_pos hok]
    unfold prmsTo
    refine List.mem_map.2 ⟨q, List.mem_filter.2 ⟨List.mem_range.2 hq, by simpa using h⟩, rfl⟩
  obtain ⟨k, hk, e⟩ := List.mem_iff_getElem.1 hm
  exact ⟨k, hk, by rw [List.getD_eq_getElem?_getD, List.getElem?_eq_getElem hk]; exact e⟩
end Go.Proofs.YtijiohdddfdjfaaDoor
