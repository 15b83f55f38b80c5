/- Plain facts: a trimmed level has its values, and no parameter of it is idle; a level of one value. -/
import Derived.Test.YtghoofgfimeedaaDoorDcMath4
import Derived.Test.YtghoofgfimeedaaDoorSubMath
import Derived.Test.YtghoofgfimeedaaDoorNFree2

namespace Go.Proofs.YtghoofgfimeedaaDoor.Dc
open Go.Proofs.YtghoofgfimeedaaDoor.Nm

/-- what LevelIdle answers -/
noncomputable def idleR (l : List (Int × Int)) : List Int := (prms l).filter (mergeR l)
/-- the tokens with the parameters of I made 0 -/
noncomputable def trimT (I : List Int) (t : Int × Int) : Int × Int := if t.1 = 4 ∧ I.contains t.2 = true then (0, 0) else t
noncomputable def trimL (I : List Int) (l : List (Int × Int)) : List (Int × Int) := l.map (trimT I)
/-- what LevelTrim answers -/
noncomputable def trimR (l : List (Int × Int)) : Option (List (Int × Int)) := if Lv.levelOk l = true then some (trimL (idleR l) l) else none
theorem tk_zero : Lv.tkOk (0, 0) = true := by decide
theorem trimT_ok (I : List Int) {t : Int × Int} (h : Lv.tkOk t = true) : Lv.tkOk (trimT I t) = true ∧ Lv.takes (trimT I t).1 = Lv.takes t.1 := by
  unfold trimT
  split
  · rename_i e
    refine ⟨tk_zero, ?_⟩
    rw [e.1]; decide
  · exact ⟨h, rfl⟩
theorem hts_trim (I : List Int) {l : List (Int × Int)} : ∀ {n m : Int}, Lv.hts l n = some m → Lv.hts (trimL I l) n = some m := by
  induction l with
  | nil => exact fun h => h
  | cons t r ih =>
    intro n m h
    simp only [Lv.hts] at h
    split at h
    · rename_i hc
      have := trimT_ok I hc.1
      simp only [trimL, List.map_cons, Lv.hts]
      rw [this.2, if_pos ⟨this.1, hc.2⟩]
      exact ih h
    · cases h
theorem trim_ok (I : List Int) {l : List (Int × Int)} (h : Lv.levelOk l = true) : Lv.levelOk (trimL I l) = true := by
  simp only [Lv.levelOk, Bool.and_eq_true, decide_eq_true_eq] at h ⊢
  refine ⟨?_, hts_trim I h.2⟩
  simpa [trimL] using h.1
/-- an env with the parameters of I made 0 -/
noncomputable def zeroAt (I : List Int) (env : List Int) : List Int := (List.range 5).map fun (i : Nat) => if I.contains (i : Int) = true then 0 else env.getD i 0
theorem zeroAt_len (I env : List Int) : (zeroAt I env).length = 5 := by simp [zeroAt]
theorem zeroAt_get (I env : List Int) {i : Nat} (hi : i < 5) : (zeroAt I env).getD i 0 = if I.contains (i : Int) = true then 0 else env.getD i 0 := by
  simp [zeroAt, List.getD_eq_getElem?_getD, hi]
theorem zeroAt_pos {I env : List Int} (hp : Pos env) : Pos (zeroAt I env) := fun x hx => by
  simp only [zeroAt, List.mem_map] at hx
  obtain ⟨i, _, rfl⟩ := hx
  split
  · omega
  · exact hp.get i
theorem run_trim (I env : List Int) {l : List (Int × Int)} (hl : ∀ t ∈ l, Lv.tkOk t = true) : ∀ st, Lv.run env (trimL I l) st = Lv.run (zeroAt I env) l st := by
  induction l with
  | nil => exact fun _ => rfl
  | cons t r ih =>
    intro st
    simp only [trimL, List.map_cons, Lv.run]
    have ht := hl t (by simp)
    have hs : Lv.step env (trimT I t) st = Lv.step (zeroAt I env) t st := by
      unfold trimT
      by_cases h4 : t.1 = 4
      · have hb : 0 ≤ t.2 ∧ t.2 < 5 := by simp [Lv.tkOk] at ht; omega
        have hg := zeroAt_get I env (i := t.2.toNat) (by omega)
        rw [show ((t.2.toNat : Nat) : Int) = t.2 by omega] at hg
        by_cases hc : I.contains t.2 = true
        · rw [if_pos ⟨h4, hc⟩]
          rw [if_pos hc] at hg
          simp only [Lv.step, ht, tk_zero, h4, if_true, hg, show ¬ ((4 : Int) = 0) by decide, if_false]
        · rw [if_neg (fun h => hc h.2)]
          rw [if_neg hc] at hg
          simp only [Lv.step, ht, h4, if_true, hg, show ¬ ((4 : Int) = 0) by decide, if_false]
      · rw [if_neg (fun h => h4 h.1)]
        simp only [Lv.step, h4, if_false]
    rw [hs]
    cases Lv.step (zeroAt I env) t st with
    | none => rfl
    | some s => exact ih (fun t ht => hl t (by simp [ht])) s
theorem levelOk_tok {l : List (Int × Int)} (h : Lv.levelOk l = true) : ∀ t ∈ l, Lv.tkOk t = true := by
  simp only [Lv.levelOk, Bool.and_eq_true, decide_eq_true_eq] at h
  exact hts_tk h.2
theorem ev_trim (I env : List Int) {l : List (Int × Int)} (h : Lv.levelOk l = true) : ev env (trimL I l) = ev (zeroAt I env) l := by
  simp only [ev, Lv.eval, h, trim_ok I h, if_true, run_trim I env (levelOk_tok h)]
theorem merge_bd {l : List (Int × Int)} {p : Int} (h : mergeR l p = true) : 0 ≤ p ∧ p < 5 := by
  simp only [mergeR, decide_eq_true_eq] at h
  exact ⟨h.2.1, h.2.2.1⟩
theorem ev_zeroAt {l : List (Int × Int)} {env : List Int} (h5 : env.length = 5) (hp : Pos env) : ∀ {I : List Int}, (∀ p ∈ I, mergeR l p = true) → ev (zeroAt I env) l = ev env l := by
  intro I
  induction I with
  | nil =>
    intro _
    have : zeroAt [] env = env := by
      apply List.ext_getElem (by rw [zeroAt_len, h5])
      intro i h1 h2
      have := zeroAt_get [] env (i := i) (by omega)
      rw [List.getD_eq_getElem?_getD, List.getElem?_eq_getElem h1, List.getD_eq_getElem?_getD, List.getElem?_eq_getElem h2] at this
      simpa using this
    rw [this]
  | cons p I ih =>
    intro h
    rw [← ih fun q hq => h q (by simp [hq])]
    have hm := h p (by simp)
    obtain ⟨P, rfl⟩ : ∃ P : Nat, p = (P : Int) := ⟨p.toNat, by have := merge_bd hm; omega⟩
    refine merge_free hm (zeroAt_len _ _) (zeroAt_len _ _) (zeroAt_pos hp) (zeroAt_pos hp) fun q hq => ?_
    by_cases h5 : q < 5
    · rw [zeroAt_get _ _ h5, zeroAt_get _ _ h5]
      have : ((P : Int) :: I).contains (q : Int) = I.contains (q : Int) := by
        simp only [List.contains_cons, Bool.or_eq_right_iff_imp, beq_iff_eq]
        omega
      rw [this]
    · have l1 := zeroAt_len ((P : Int) :: I) env
      have l2 := zeroAt_len I env
      rw [List.getD_eq_getElem?_getD, List.getD_eq_getElem?_getD, List.getElem?_eq_none (by omega), List.getElem?_eq_none (by omega)]
theorem idle_merge {l : List (Int × Int)} : ∀ p ∈ idleR l, mergeR l p = true := fun _ hp => (List.mem_filter.1 hp).2
/-- a trimmed level has the values of the level -/
theorem trim_value {l : List (Int × Int)} (h : Lv.levelOk l = true) {env : List Int} (h5 : env.length = 5) (hp : Pos env) : ev env (trimL (idleR l) l) = ev env l := by
  rw [ev_trim _ _ h, ev_zeroAt h5 hp idle_merge]
/-- a level does not depend on its idle parameters -/
theorem idle_value {l : List (Int × Int)} {e1 e2 : List Int} (h15 : e1.length = 5) (h25 : e2.length = 5) (hp1 : Pos e1) (hp2 : Pos e2) (h : ∀ i : Nat, i < 5 → (idleR l).contains (i : Int) = false → e1.getD i 0 = e2.getD i 0) : ev e1 l = ev e2 l := by
  rw [← ev_zeroAt (l := l) h15 hp1 idle_merge, ← ev_zeroAt (l := l) h25 hp2 idle_merge]
  congr 1
  apply List.map_congr_left
  intro i hi
  have hi5 : i < 5 := by simpa using hi
  cases hc : (idleR l).contains (i : Int) with
  | true => rfl
  | false => simp only [if_neg (show ¬ (false = true) by decide)]; exact h i hi5 hc
theorem trim_eq {l : List (Int × Int)} (h : Lv.levelOk l = true) : eqR (trimL (idleR l) l) l = true :=
  (eq_sem (trim_ok _ h) h).2 fun _ h5 hp => trim_value h h5 hp
theorem mem_prms {l : List (Int × Int)} (h : Lv.levelOk l = true) {p : Int} : p ∈ prms l ↔ 0 ≤ p ∧ p < 5 ∧ (4, p) ∈ l := by
  simp only [prms, h, if_true, prmsTo, List.mem_map, List.mem_filter, List.mem_range, decide_eq_true_eq]
  constructor
  · rintro ⟨q, ⟨h1, h2⟩, rfl⟩
    exact ⟨by simp, by simp; omega, h2⟩
  · rintro ⟨h0, h5, hm⟩
    exact ⟨p.toNat, ⟨by omega, by rw [show ((p.toNat : Nat) : Int) = p by omega]; exact hm⟩, by simp; omega⟩
/-- no parameter of a trimmed level is idle -/
theorem trim_idle {l : List (Int × Int)} (h : Lv.levelOk l = true) : idleR (trimL (idleR l) l) = [] := by
  rw [show idleR (trimL (idleR l) l) = (prms (trimL (idleR l) l)).filter (mergeR (trimL (idleR l) l)) from rfl, List.filter_eq_nil_iff]
  intro p hp hm
  obtain ⟨h0, h5, hin⟩ := (mem_prms (trim_ok _ h)).1 hp
  obtain ⟨P, rfl⟩ : ∃ P : Nat, p = (P : Int) := ⟨p.toNat, by omega⟩
  have hP : P < 5 := by omega
  have hml : mergeR l (P : Int) = true := (merge_sem h hP).2 fun e1 e2 a b c d e => by
    have := (merge_sem (trim_ok _ h) hP).1 hm e1 e2 a b c d e
    rwa [trim_value h a c, trim_value h b d] at this
  simp only [trimL, List.mem_map] at hin
  obtain ⟨t, ht, e⟩ := hin
  unfold trimT at e
  split at e
  · injection e with e1
    exact absurd e1 (by decide)
  · rename_i hn
    subst e
    refine hn ⟨rfl, ?_⟩
    rw [List.contains_iff_mem]
    exact List.mem_filter.2 ⟨(mem_prms h).2 ⟨h0, h5, ht⟩, hml⟩

/-- the residual for the sign 0 is a number -/
theorem rs_zero {l : List (Int × Int)} (h : Lv.levelOk l = true) : ∃ k, 0 ≤ k ∧ rs l 0 = [(-1, k)] := by
  have hr := rs_rok h (s := 0) (by decide)
  have hno : ∀ x ∈ rs l 0, x.1 = -1 := fun x hx => by
    obtain ⟨k, hk, rfl⟩ := getD_of_mem hx
    rcases hr.2.2.2.2.1 k hk with e | e
    · exact e
    · have hb := has_bd e
      have : ∀ P : Fin 5, Sg.has 0 ((P : Nat) : Int) = false := by decide +kernel
      have := this ⟨((rs l 0).getD k (0, 0)).1.toNat, by omega⟩
      simp only at this
      rw [show ((((rs l 0).getD k (0, 0)).1.toNat : Nat) : Int) = ((rs l 0).getD k (0, 0)).1 by omega, e] at this
      cases this
  have hs := hr.2.2.2.1.sorted
  have hl := hr.2.1
  have hok := hr.2.2.1
  generalize rs l 0 = q at hno hs hl hok
  match q, hno, hs, hl, hok with
  | [x], hno, _, _, hok =>
    refine ⟨x.2, (hok.mem (a := x) (by simp)).2.2.1, ?_⟩
    rw [← hno x (by simp)]
  | x :: y :: t, hno, hs, _, _ =>
    have h1 := (List.pairwise_cons.1 hs).1 y (by simp)
    have h2 := hno x (by simp)
    have h3 := hno y (by simp)
    omega
open Classical in
/-- what LevelConst answers -/
noncomputable def cstR (l : List (Int × Int)) : Int := if Lv.levelOk l = true ∧ ∀ S : Nat, S < 32 → rs l S = rs l 0 then ((rs l 0).getD 0 (0, 0)).2 else -1
theorem cst_value {l : List (Int × Int)} (h0 : 0 ≤ cstR l) {env : List Int} (h5 : env.length = 5) (hp : Pos env) : ev env l = cstR l := by
  unfold cstR at h0 ⊢
  split
  · rename_i h
    obtain ⟨S, hS, he⟩ := sign_of h5 hp
    obtain ⟨k, hk, e⟩ := rs_zero h.1
    rw [ev_resid he h.1, h.2 S hS, e]
    simp [value, val]
    omega
  · rename_i h
    rw [if_neg h] at h0
    omega
theorem rok_zero {S : Nat} (hS : S < 32) : ROk (S : Int) [((-1 : Int), (0 : Int))] := by
  refine ⟨isSign_nat hS, by simp, allOk_of_mem fun x hx => ?_, ?_, fun k hk => ?_, fun _ => ?_⟩
  · simp at hx
    subst hx
    exact (atOk_iff _).2 (by simp)
  · exact fun k h0 hk => by simp at hk; omega
  · simp at hk
    subst hk
    exact .inl rfl
  · exact exceeds_mem.2 fun a ha => by simp at ha
theorem cst_zero {l : List (Int × Int)} (h : Lv.levelOk l = true) (hz : ∀ env : List Int, env.length = 5 → Pos env → ev env l = 0) : cstR l = 0 := by
  have key : ∀ S : Nat, S < 32 → rs l S = [((-1 : Int), (0 : Int))] := fun S hS => resid_unique (rs_rok h (isSign_nat hS)) (rok_zero hS) fun env h5 he => by
    rw [← ev_resid he h, hz env h5 he.1]
    simp [value, val]
  unfold cstR
  rw [if_pos ⟨h, fun S hS => by rw [key S hS]; exact (key 0 (by omega)).symm⟩]
  have := key 0 (by omega)
  simp only [Int.ofNat_zero] at this
  rw [show rs l 0 = [((-1 : Int), (0 : Int))] from this]
  rfl
end Go.Proofs.YtghoofgfimeedaaDoor.Dc
