/- Plain facts: residuals are canonical; joins are compared; a parameter that is idle. -/
/- Plain facts: a parameter without influence is told by SignMerge; a trimmed level; a level of one value. -/
/- Plain facts: the first place where a level does not fit below another one, sign by sign and atom by atom. -/
import Derived.Test.YtghoofgfimeedaaDoorDcMath
import Derived.Test.YtghoofgfimeedaaDoorMgMath

namespace Go.Proofs.YtghoofgfimeedaaDoor.Dc
open Go.Proofs.YtghoofgfimeedaaDoor.Nm

theorem rok_num {s : Int} {a : List At} (ha : ROk s a) {u z r : Int} (hx : ((-1 : Int), u) ∈ a) (hz : (r, z) ∈ a) (hr : r ≠ -1) : z + 1 < u := by
  have hs := ha.2.2.2.1.sorted
  match a, ha, hx, hz, hs with
  | [], _, hx, _, _ => simp at hx
  | q :: t, ha, hx, hz, hs =>
    have hq : q = (-1, u) := by
      rcases List.mem_cons.1 hx with e | e
      · exact e.symm
      · have h1 := (List.pairwise_cons.1 hs).1 _ e
        have h2 := (ha.2.2.1.mem (a := q) (by simp)).1
        simp only at h1
        omega
    subst hq
    have hzt : (r, z) ∈ t := by
      rcases List.mem_cons.1 hz with e | e
      · injection e with e1; exact absurd e1 hr
      · exact e
    have h1 := exceeds_mem.1 (ha.2.2.2.2.2 rfl) (r, z) (by simpa using hzt)
    have h2 : z < u - 1 := h1
    omega
theorem rok_one {s : Int} {a : List At} (ha : ROk s a) {p u v : Int} (hx : (p, u) ∈ a) (hy : (p, v) ∈ a) : u = v := by
  have hs := ha.2.2.2.1.sorted
  have e1 := best_of_sorted hs hx (by have := (ha.2.2.1.mem hx).2.2.1; simp at this; omega)
  have e2 := best_of_sorted hs hy (by have := (ha.2.2.1.mem hy).2.2.1; simp at this; omega)
  omega
theorem fit_mem {x : At} {b : List At} (h : ratomLe x b) : ∃ y ∈ b, RFits x y := by
  obtain ⟨k, hk, hf⟩ := h
  exact ⟨_, Nm.mem_getD hk, hf⟩
/-- what is at most each other is one -/
theorem resid_antisymm {s : Int} {a b : List At} (ha : ROk s a) (hb : ROk s b) (h1 : ∀ k, k < a.length → ratomLe (a.getD k (0, 0)) b) (h2 : ∀ k, k < b.length → ratomLe (b.getD k (0, 0)) a) : a = b := by
  have H : ∀ {a b : List At}, ROk s a → ROk s b → (∀ k, k < a.length → ratomLe (a.getD k (0, 0)) b) → (∀ k, k < b.length → ratomLe (b.getD k (0, 0)) a) → ∀ x ∈ a, x ∈ b := by
    intro a b ha hb h1 h2 x hx
    obtain ⟨k, hk, rfl⟩ := getD_of_mem hx
    obtain ⟨y, hy, f1⟩ := fit_mem (h1 k hk)
    obtain ⟨j, hj, rfl⟩ := getD_of_mem hy
    obtain ⟨z, hz, f2⟩ := fit_mem (h2 j hj)
    generalize a.getD k (0, 0) = x at hx f1 ⊢
    generalize b.getD j (0, 0) = y at hy f1 f2
    obtain ⟨p, u⟩ := x
    obtain ⟨q, v⟩ := y
    obtain ⟨r, t⟩ := z
    simp only [RFits] at f1 f2
    rcases f1 with ⟨rfl, l1⟩ | ⟨rfl, l0, l1⟩
    · rcases f2 with ⟨rfl, l2⟩ | ⟨rfl, l3, l2⟩
      · have := rok_one ha hx hz
        rw [show u = v by omega]; exact hy
      · have := rok_num ha hx hz (by omega); omega
    · rcases f2 with ⟨rfl, l2⟩ | ⟨rfl, l3, l2⟩
      · have := rok_num ha hx hz (by omega); omega
      · omega
  exact sorted_ext ha.2.2.2.1.sorted hb.2.2.2.1.sorted fun x => ⟨H ha hb h1 h2 x, H hb ha h2 h1 x⟩
/-- residuals with the same values are one -/
theorem resid_unique {s : Int} {a b : List At} (ha : ROk s a) (hb : ROk s b) (h : ∀ env : List Int, env.length = 5 → EnvOf s env → value env a = value env b) : a = b :=
  resid_antisymm ha hb ((resid_sem ha hb).2 fun env h5 he => by rw [h env h5 he]; exact Int.le_refl _) ((resid_sem hb ha).2 fun env h5 he => by rw [h env h5 he]; exact Int.le_refl _)

theorem ev_some {env : List Int} {l : List (Int × Int)} (h : Lv.levelOk l = true) : Lv.eval env l = some (ev env l) := by
  obtain ⟨v, hv⟩ := eval_some (env := env) h
  unfold ev
  rw [hv]
  rfl
theorem join_parts {op : Int} {a b q : List (Int × Int)} (h : joinR op a b = some q) : Lv.levelOk a = true ∧ Lv.levelOk b = true ∧ Lv.levelOk q = true := by
  unfold joinR at h
  split at h
  · rename_i hk
    unfold ifR at h
    split at h
    · rename_i hq
      injection h with h
      subst h
      exact ⟨hk.2.1, hk.2.2, hq⟩
    · cases h
  · cases h
theorem ev_join {env : List Int} {op : Int} {a b q : List (Int × Int)} (h : joinR op a b = some q) : ev env q = if op = 3 ∧ ev env b = 0 then 0 else max (ev env a) (ev env b) := by
  obtain ⟨ha, hb, _⟩ := join_parts h
  have := (eval_join h (ev_some (env := env) ha) (ev_some hb)).2.2
  unfold ev at this ⊢
  rw [this]
  rfl
theorem ev_nonneg {env : List Int} (h5 : env.length = 5) (hp : Pos env) {l : List (Int × Int)} (h : Lv.levelOk l = true) : 0 ≤ ev env l := by
  obtain ⟨S, _, he⟩ := sign_of h5 hp
  rw [ev_resid he h]
  exact value_ge _ _
theorem le_max {a b m : List (Int × Int)} (h : joinR 2 a b = some m) : leR a m = true ∧ leR b m = true := by
  obtain ⟨ha, hb, hm⟩ := join_parts h
  refine ⟨(le_sem ha hm).2 fun env _ _ => ?_, (le_sem hb hm).2 fun env _ _ => ?_⟩ <;> rw [ev_join h, if_neg (by omega)] <;> omega
theorem max_le {a b m c : List (Int × Int)} (h : joinR 2 a b = some m) : leR m c = (leR a c && leR b c) := by
  obtain ⟨ha, hb, hm⟩ := join_parts h
  cases hc : Lv.levelOk c with
  | false =>
    have no : ∀ x, leR x c = false := fun x => by
      cases e : leR x c with
      | false => rfl
      | true => have := ((leR_iff x c).1 e).2.1; rw [hc] at this; cases this
    rw [no, no, no]
    rfl
  | true =>
    rw [Bool.eq_iff_iff, Bool.and_eq_true, le_sem hm hc, le_sem ha hc, le_sem hb hc]
    constructor
    · intro hh
      refine ⟨fun env h5 hp => ?_, fun env h5 hp => ?_⟩ <;> (have := hh env h5 hp; rw [ev_join h, if_neg (by omega)] at this; omega)
    · rintro ⟨h1, h2⟩ env h5 hp
      rw [ev_join h, if_neg (by omega)]
      have := h1 env h5 hp
      have := h2 env h5 hp
      omega
theorem imax_le {a b m i : List (Int × Int)} (h2 : joinR 2 a b = some m) (h3 : joinR 3 a b = some i) : leR i m = true ∧ leR b i = true := by
  obtain ⟨ha, hb, hm⟩ := join_parts h2
  obtain ⟨_, _, hi⟩ := join_parts h3
  refine ⟨(le_sem hi hm).2 fun env h5 hp => ?_, (le_sem hb hi).2 fun env h5 hp => ?_⟩
  · have e2 := ev_join (env := env) h2
    rw [if_neg (by omega)] at e2
    rw [e2, ev_join h3]
    have := ev_nonneg h5 hp ha
    split <;> omega
  · rw [ev_join h3]
    split
    · rename_i e; omega
    · omega
/-- LevelEq's answer -/
noncomputable def eqR (a b : List (Int × Int)) : Bool := leR a b && leR b a
theorem eq_sem {a b : List (Int × Int)} (ha : Lv.levelOk a = true) (hb : Lv.levelOk b = true) : eqR a b = true ↔ ∀ env : List Int, env.length = 5 → Pos env → ev env a = ev env b := by
  unfold eqR
  rw [Bool.and_eq_true, le_sem ha hb, le_sem hb ha]
  exact ⟨fun h env h5 hp => Int.le_antisymm (h.1 env h5 hp) (h.2 env h5 hp), fun h => ⟨fun env h5 hp => Int.le_of_eq (h env h5 hp), fun env h5 hp => Int.le_of_eq (h env h5 hp).symm⟩⟩

/-- two envs that agree but at p -/
def But (p : Nat) (e1 e2 : List Int) : Prop := ∀ q, q ≠ p → e1.getD q 0 = e2.getD q 0
theorem value_but {p : Nat} {e1 e2 : List Int} (h : But p e1 e2) {l : List At} (hn : ∀ x ∈ l, x.1 ≠ (p : Int)) (hl : ∀ x ∈ l, -1 ≤ x.1) : value e1 l = value e2 l := by
  have H : ∀ x ∈ l, val e1 x = val e2 x := fun x hx => by
    have h1 := hn x hx
    have h2 := hl x hx
    simp only [val]
    split
    · rfl
    · rw [h x.1.toNat (by omega)]
  apply Int.le_antisymm
  · exact value_le (value_ge _ _) fun x hx => by rw [H x hx]; exact value_mem hx
  · exact value_le (value_ge _ _) fun x hx => by rw [← H x hx]; exact value_mem hx
theorem hasP_all {l : List At} {p : Int} (h : hasP l p = false) : ∀ x ∈ l, x.1 ≠ p := fun x hx e => by
  obtain ⟨k, hk, rfl⟩ := getD_of_mem hx
  rw [hasP_yes hk e] at h
  cases h
/-- the signs of two envs that agree but at P: one, or one and the other with the bit turned -/
theorem sign_but {P : Nat} (hP : P < 5) {e1 e2 : List Int} (hb : But P e1 e2) {S1 S2 : Nat} (h1 : S1 < 32) (h2 : S2 < 32) (he1 : EnvOf (S1 : Int) e1) (he2 : EnvOf (S2 : Int) e2) : S2 = S1 ∨ S2 = S1 ^^^ 2 ^ P := by
  have key : ∀ P : Fin 5, ∀ x y : Fin 32, (∀ k : Fin 5, k ≠ P → Sg.has ((x : Nat) : Int) ((k : Nat) : Int) = Sg.has ((y : Nat) : Int) ((k : Nat) : Int)) → (y : Nat) = x ∨ (y : Nat) = (x : Nat) ^^^ 2 ^ (P : Nat) := by decide +kernel
  refine key ⟨P, hP⟩ ⟨S1, h1⟩ ⟨S2, h2⟩ fun k hk => ?_
  have hkP : (k : Nat) ≠ P := fun e => hk (Fin.ext e)
  have hg := hb k hkP
  simp only
  cases ha : Sg.has (S1 : Int) ((k : Nat) : Int) with
  | true =>
    cases hc : Sg.has (S2 : Int) ((k : Nat) : Int) with
    | true => rfl
    | false =>
      have a1 := he1.2.1 _ ha
      have a2 := he2.2.2 _ (by omega) (by omega) hc
      simp only [Int.toNat_natCast] at a1 a2
      omega
  | false =>
    cases hc : Sg.has (S2 : Int) ((k : Nat) : Int) with
    | false => rfl
    | true =>
      have a1 := he1.2.2 _ (by omega) (by omega) ha
      have a2 := he2.2.1 _ hc
      simp only [Int.toNat_natCast] at a1 a2
      omega
/-- a parameter that SignMerge tells has no influence -/
theorem merge_free {l : List (Int × Int)} {P : Nat} (h : mergeR l P = true) {e1 e2 : List Int} (h15 : e1.length = 5) (h25 : e2.length = 5) (hp1 : Pos e1) (hp2 : Pos e2) (hb : But P e1 e2) : ev e1 l = ev e2 l := by
  simp only [mergeR, decide_eq_true_eq, Int.toNat_natCast] at h
  obtain ⟨hok, _, hP, hall⟩ := h
  obtain ⟨S1, hS1, he1⟩ := sign_of h15 hp1
  obtain ⟨S2, hS2, he2⟩ := sign_of h25 hp2
  have hr := rs_rok hok (isSign_nat hS1)
  have hv : value e1 (rs l S1) = value e2 (rs l S1) := value_but hb (hasP_all (hall S1 hS1).1) fun x hx => (hr.2.2.1.mem hx).1
  rw [ev_resid he1 hok, ev_resid he2 hok, hv]
  rcases sign_but (by omega) hb hS1 hS2 he1 he2 with rfl | rfl
  · rfl
  · rw [show rs l ((S1 ^^^ 2 ^ P : Nat) : Int) = rs l S1 from (hall S1 hS1).2.symm]
end Go.Proofs.YtghoofgfimeedaaDoor.Dc

namespace Go.Proofs.YtghoofgfimeedaaDoor.Dc
open Go.Proofs.YtghoofgfimeedaaDoor.Nm

theorem bit_same (S : Nat) (hS : S < 32) (P : Nat) (hP : P < 5) (hh : Sg.has (S : Int) (P : Int) = false) (k : Nat) (hk : k < 5) (hne : k ≠ P) : Sg.has ((S + 2 ^ P : Nat) : Int) (k : Int) = Sg.has (S : Int) (k : Int) := by
  have key : ∀ S : Fin 32, ∀ P k : Fin 5, Sg.has ((S : Nat) : Int) ((P : Nat) : Int) = false → k ≠ P → Sg.has (((S : Nat) + 2 ^ (P : Nat) : Nat) : Int) ((k : Nat) : Int) = Sg.has ((S : Nat) : Int) ((k : Nat) : Int) := by decide +kernel
  exact key ⟨S, hS⟩ ⟨P, hP⟩ ⟨k, hk⟩ hh (fun e => hne (congrArg Fin.val e))
theorem set_get (env : List Int) (h5 : env.length = 5) (P : Nat) (hP : P < 5) (v : Int) (q : Nat) : (env.set P v).getD q 0 = if q = P then v else env.getD q 0 := by
  rw [List.getD_eq_getElem?_getD, List.getElem?_set]
  by_cases e : P = q
  · subst e
    simp [h5, hP]
  · rw [if_neg e, if_neg (fun h => e h.symm), ← List.getD_eq_getElem?_getD]
theorem set_pos {env : List Int} (hp : Pos env) (P : Nat) {v : Int} (hv : 0 ≤ v) : Pos (env.set P v) := fun x hx => by
  rcases List.mem_or_eq_of_mem_set hx with h | h
  · exact hp x h
  · rw [h]; exact hv
theorem set_but (env : List Int) (h5 : env.length = 5) (P : Nat) (hP : P < 5) (v : Int) : But P (env.set P v) env := fun q hq => by
  rw [set_get env h5 P hP v q, if_neg hq]
/-- an env of a sign, with the parameter raised -/
theorem set_env {S P : Nat} (hS : S < 32) (hP : P < 5) (hh : Sg.has (S : Int) (P : Int) = false) {env : List Int} (h5 : env.length = 5) (he : EnvOf (S : Int) env) {v : Int} (hv : 1 ≤ v) : EnvOf ((S + 2 ^ P : Nat) : Int) (env.set P v) := by
  refine ⟨set_pos he.1 P (by omega), fun p hp => ?_, fun p h0 hp5 hp => ?_⟩
  · have hb := has_bd hp
    rw [set_get env h5 P hP v p.toNat]
    split
    · exact hv
    · rename_i e
      have := bit_same S hS P hP hh p.toNat (by omega) e
      rw [show ((p.toNat : Nat) : Int) = p by omega, hp] at this
      exact he.2.1 p this.symm
  · rw [set_get env h5 P hP v p.toNat]
    split
    · rename_i e
      have := (bit_off S hS P hP hh).2.2
      rw [show p = (P : Int) by omega, this] at hp
      cases hp
    · rename_i e
      have := bit_same S hS P hP hh p.toNat (by omega) e
      rw [show ((p.toNat : Nat) : Int) = p by omega, hp] at this
      exact he.2.2 p h0 hp5 this.symm
theorem gpeak_but (N M s : Int) (P : Nat) : But P (gpeak N s P) (gpeak M s P) := fun q hq => by
  by_cases h : q < 5
  · rw [gpeak_get _ _ _ _ h, gpeak_get _ _ _ _ h, if_neg (show ¬ (q : Int) = (P : Int) by omega), if_neg (show ¬ (q : Int) = (P : Int) by omega)]
  · have l1 : (gpeak N s P).length ≤ q := by rw [gpeak_len]; omega
    have l2 : (gpeak M s P).length ≤ q := by rw [gpeak_len]; omega
    rw [List.getD_eq_getElem?_getD, List.getD_eq_getElem?_getD, List.getElem?_eq_none l1, List.getElem?_eq_none l2]
/-- a parameter without influence is told -/
theorem free_merge {l : List (Int × Int)} {P : Nat} (hok : Lv.levelOk l = true) (hP : P < 5)
    (h : ∀ e1 e2 : List Int, e1.length = 5 → e2.length = 5 → Pos e1 → Pos e2 → But P e1 e2 → ev e1 l = ev e2 l) : mergeR l P = true := by
  refine merge_half hok hP fun S hS hh => ?_
  obtain ⟨hS2, _, hb2⟩ := bit_off S hS P hP hh
  have hr2 := rs_rok hok (isSign_nat hS2)
  have hr := rs_rok hok (isSign_nat hS)
  have hno : ∀ x ∈ rs l ((S + 2 ^ P : Nat) : Int), x.1 ≠ (P : Int) := by
    intro x hx e
    have g1 := gpeak_env (N := 100) (s := ((S + 2 ^ P : Nat) : Int)) (p := P) (by omega)
    have g2 := gpeak_env (N := 1) (s := ((S + 2 ^ P : Nat) : Int)) (p := P) (by omega)
    have hv := h _ _ (gpeak_len 100 _ P) (gpeak_len 1 _ P) g1.1 g2.1 (gpeak_but 100 1 _ P)
    rw [ev_resid g1 hok, ev_resid g2 hok] at hv
    have h1 := value_mem (env := gpeak 100 ((S + 2 ^ P : Nat) : Int) P) hx
    have h2 : 100 ≤ val (gpeak 100 ((S + 2 ^ P : Nat) : Int) P) x := by
      have hxo := (hr2.2.2.1.mem hx).2.2.1
      simp only [val]
      rw [if_neg (by omega), e, Int.toNat_natCast, gpeak_get _ _ _ _ hP, if_pos hb2, if_pos rfl]
      omega
    have h3 : value (gpeak 1 ((S + 2 ^ P : Nat) : Int) P) (rs l ((S + 2 ^ P : Nat) : Int)) ≤ 25 := by
      refine value_le (by omega) fun y hy => ?_
      have hyo := rs_small (s := ((S + 2 ^ P : Nat) : Int)) hok y hy
      have hyb := hr2.2.2.1.mem hy
      simp only [val]
      split
      · omega
      · rw [gpeak_get _ _ _ _ (by omega)]
        split
        · split <;> omega
        · omega
    omega
  have hr3 : ROk (S : Int) (rs l ((S + 2 ^ P : Nat) : Int)) := by
    refine ⟨isSign_nat hS, hr2.2.1, hr2.2.2.1, hr2.2.2.2.1, fun k hk => ?_, hr2.2.2.2.2.2⟩
    rcases hr2.2.2.2.2.1 k hk with e | e
    · exact .inl e
    · right
      have hb := has_bd e
      have hne := hno _ (Nm.mem_getD hk)
      have := bit_same S hS P hP hh ((rs l ((S + 2 ^ P : Nat) : Int)).getD k (0, 0)).1.toNat (by omega) (by omega)
      rw [show (((((rs l ((S + 2 ^ P : Nat) : Int)).getD k (0, 0)).1.toNat) : Nat) : Int) = ((rs l ((S + 2 ^ P : Nat) : Int)).getD k (0, 0)).1 by omega, e] at this
      exact this.symm
  refine ⟨hasP_no fun k hk => hno _ (Nm.mem_getD hk), resid_unique hr hr3 fun env h5 he => ?_⟩
  have he2 := set_env hS hP hh h5 he (v := 1) (by omega)
  have hs5 : (env.set P 1).length = 5 := by simpa using h5
  have hv := h (env.set P 1) env hs5 h5 he2.1 he.1 (set_but env h5 P hP 1)
  rw [← ev_resid he hok, ← hv, ev_resid he2 hok]
  exact value_but (set_but env h5 P hP 1) hno fun x hx => (hr2.2.2.1.mem hx).1
/-- SignMerge tells just the parameters without influence -/
theorem merge_sem {l : List (Int × Int)} {P : Nat} (hok : Lv.levelOk l = true) (hP : P < 5) :
    mergeR l P = true ↔ ∀ e1 e2 : List Int, e1.length = 5 → e2.length = 5 → Pos e1 → Pos e2 → But P e1 e2 → ev e1 l = ev e2 l :=
  ⟨fun h _ _ a b c d e => merge_free h a b c d e, free_merge hok hP⟩
end Go.Proofs.YtghoofgfimeedaaDoor.Dc

namespace Go.Proofs.YtghoofgfimeedaaDoor.Dc
open Go.Proofs.YtghoofgfimeedaaDoor.Nm

/-- the Param of the first atom for which no atom of b serves -/
noncomputable def misL (b : List At) : List At → Option Int
  | [] => none
  | x :: t => if ratomLeB x b = true then misL b t else some x.1
theorem misL_none {b l : List At} : misL b l = none ↔ ∀ k, k < l.length → ratomLe (l.getD k (0, 0)) b := by
  induction l with
  | nil => simp [misL]
  | cons x t ih =>
    simp only [misL]
    constructor
    · intro h k hk
      split at h
      · rename_i h1
        cases k with
        | zero => exact (ratomLeB_iff _ _).1 h1
        | succ k => exact ih.1 h k (by simpa using hk)
      · cases h
    · intro h
      have h0 : ratomLe x b := h 0 (by simp)
      rw [if_pos ((ratomLeB_iff _ _).2 h0)]
      exact ih.2 fun k hk => h (k + 1) (by simpa using hk)
theorem misL_mem {b l : List At} {p : Int} (h : misL b l = some p) : ∃ x ∈ l, x.1 = p := by
  induction l with
  | nil => cases h
  | cons x t ih =>
    simp only [misL] at h
    split at h
    · obtain ⟨y, hy, e⟩ := ih h
      exact ⟨y, by simp [hy], e⟩
    · injection h with h
      exact ⟨x, by simp, h⟩
theorem drop_get {l : List At} {k : Nat} (hk : k < l.length) : l.drop k = l.getD k (0, 0) :: l.drop (k + 1) := by
  rw [List.drop_eq_getElem_cons hk, List.getD_eq_getElem?_getD, List.getElem?_eq_getElem hk, Option.getD_some]
theorem misL_go {b l : List At} {k : Nat} (hk : k < l.length) (h : ratomLeB (l.getD k (0, 0)) b = true) : misL b (l.drop k) = misL b (l.drop (k + 1)) := by
  rw [drop_get hk, misL, if_pos h]
theorem misL_hit {b l : List At} {k : Nat} (hk : k < l.length) (h : ratomLeB (l.getD k (0, 0)) b = false) : misL b (l.drop k) = some (l.getD k (0, 0)).1 := by
  rw [drop_get hk, misL, if_neg (by rw [h]; decide)]
theorem misL_end {b l : List At} {k : Nat} (hk : l.length ≤ k) : misL b (l.drop k) = none := by
  rw [List.drop_eq_nil_of_le hk, misL]

/-- the first sign, from S on, at which a, raised by u, does not fit below b, and the Param -/
noncomputable def misS (u : Int) (a b : List (Int × Int)) : Nat → Nat → Option (Nat × Int)
  | _, 0 => none
  | S, f + 1 =>
    match misL (rs b S) (up u (rs a S)) with
    | some p => some (S, p)
    | none => misS u a b (S + 1) f
noncomputable def misR (u : Int) (a b : List (Int × Int)) : Option (Nat × Int) := misS u a b 0 32
theorem misS_hit {u : Int} {a b : List (Int × Int)} {S : Nat} {p : Int} (hS : S < 32) (h : misL (rs b S) (up u (rs a S)) = some p) : misS u a b S (32 - S) = some (S, p) := by
  rw [show 32 - S = (32 - (S + 1)) + 1 by omega, misS, h]
theorem misS_go {u : Int} {a b : List (Int × Int)} {S : Nat} (hS : S < 32) (h : misL (rs b S) (up u (rs a S)) = none) : misS u a b S (32 - S) = misS u a b (S + 1) (32 - (S + 1)) := by
  rw [show 32 - S = (32 - (S + 1)) + 1 by omega, misS, h]
theorem misS_end {u : Int} {a b : List (Int × Int)} {S : Nat} (hS : 32 ≤ S) : misS u a b S (32 - S) = none := by
  rw [show 32 - S = 0 by omega, misS]
theorem misS_none {u : Int} {a b : List (Int × Int)} : ∀ {f S : Nat}, misS u a b S f = none ↔ ∀ T, S ≤ T → T < S + f → misL (rs b T) (up u (rs a T)) = none := by
  intro f
  induction f with
  | zero => intro S; simp only [misS, true_iff]; omega
  | succ f ih =>
    intro S
    simp only [misS]
    constructor
    · intro h T h1 h2
      split at h
      · cases h
      · rename_i h0
        by_cases e : T = S
        · rw [e]; exact h0
        · exact ih.1 h T (by omega) (by omega)
    · intro h
      rw [h S (by omega) (by omega)]
      exact ih.2 fun T h1 h2 => h T (by omega) (by omega)
theorem misS_some {u : Int} {a b : List (Int × Int)} {p : Int} {T : Nat} : ∀ {f S : Nat}, misS u a b S f = some (T, p) → S ≤ T ∧ T < S + f ∧ misL (rs b T) (up u (rs a T)) = some p := by
  intro f
  induction f with
  | zero => intro S h; cases h
  | succ f ih =>
    intro S h
    simp only [misS] at h
    split at h
    · rename_i h0
      injection h with h
      injection h with e1 e2
      subst e1; subst e2
      exact ⟨by omega, by omega, h0⟩
    · have := ih h
      exact ⟨by omega, by omega, this.2.2⟩
theorem misR_bd {u : Int} {a b : List (Int × Int)} {p : Int} {T : Nat} (ha : Lv.levelOk a = true) (h : misR u a b = some (T, p)) : T < 32 ∧ (p = -1 ∨ 0 ≤ p ∧ p < 5) := by
  obtain ⟨_, h2, h3⟩ := misS_some h
  refine ⟨by omega, ?_⟩
  obtain ⟨x, hx, rfl⟩ := misL_mem h3
  simp only [up, List.mem_map] at hx
  obtain ⟨y, hy, rfl⟩ := hx
  have := (rs_rok ha (isSign_nat (S := T) (by omega))).2.2.1.mem hy
  simp only
  omega

/-- what atMost answers -/
noncomputable def atR (u : Int) (a b : List (Int × Int)) : Bool := Lv.levelOk a && Lv.levelOk b && (misR u a b).isNone
theorem up_zero (l : List At) : up 0 l = l := by
  induction l with
  | nil => rfl
  | cons x t ih => simp only [up, List.map_cons, Int.add_zero] at ih ⊢; rw [ih]
theorem fits_sem {s : Int} {a b : List At} (ha : Pst s a) (hao : AllOk a) (hb : ROk s b) : (∀ k, k < a.length → ratomLe (a.getD k (0, 0)) b) ↔ ∀ env : List Int, env.length = 5 → EnvOf s env → value env a ≤ value env b := by
  constructor
  · exact fun h env _ he => rle_value he hb h
  · intro h k hk
    apply Classical.byContradiction
    intro hn
    have hx := Nm.mem_getD hk
    have hax := hao.mem hx
    have h1 := peak_gt (N := 2000) (M := 1000) hb (fun y hy => (hb.2.2.1.mem hy).2.2.2) (by omega) (by omega) hax.1 hax.2.1 hax.2.2.1 (ha _ hx) hn
    have h2 := h _ (gpeak_len 2000 s _) (gpeak_env (s := s) (p := (a.getD k (0, 0)).1) (by omega : (1 : Int) ≤ 2000))
    have h3 := value_mem (env := gpeak 2000 s (a.getD k (0, 0)).1) hx
    omega
theorem misR_none {u : Int} {a b : List (Int × Int)} : misR u a b = none ↔ ∀ T : Nat, T < 32 → ∀ k, k < (up u (rs a T)).length → ratomLe ((up u (rs a T)).getD k (0, 0)) (rs b T) := by
  unfold misR
  rw [misS_none]
  constructor
  · exact fun h T hT => misL_none.1 (h T (by omega) (by omega))
  · exact fun h T _ hT => misL_none.2 (h T (by omega))
theorem le_at (a b : List (Int × Int)) : atR 0 a b = leR a b := by
  rw [Bool.eq_iff_iff, leR_iff, atR]
  simp only [Bool.and_eq_true, Option.isNone_iff_eq_none, misR_none, up_zero]
  constructor
  · rintro ⟨⟨ha, hb⟩, h⟩
    exact ⟨ha, hb, fun S hS => (residLe_iff _ _ _).2 ⟨rs_rok ha (isSign_nat hS), rs_rok hb (isSign_nat hS), h S hS⟩⟩
  · rintro ⟨ha, hb, h⟩
    exact ⟨⟨ha, hb⟩, fun S hS => ((residLe_iff _ _ _).1 (h S hS)).2.2⟩
theorem less_at (a b : List (Int × Int)) : atR 1 a b = lessR a b := by
  rw [Bool.eq_iff_iff, lessR_iff, atR]
  simp only [Bool.and_eq_true, Option.isNone_iff_eq_none, misR_none]
  have key : Lv.levelOk a = true → Lv.levelOk b = true → ∀ S : Nat, S < 32 → ((∀ k, k < (up 1 (rs a S)).length → ratomLe ((up 1 (rs a S)).getD k (0, 0)) (rs b S)) ↔ residLe (S : Int) (rnorm (up 1 (rs a S))) (rs b S) = true) := by
    intro ha hb S hS
    have hs := isSign_nat hS
    have hr := rs_rok ha hs
    have hp : Pst (S : Int) (rs a S) := (wl_fine2 (s := (S : Int)) ha).2.1.rnorm
    have hao := up_small hr.2.2.1 (rs_small (s := (S : Int)) ha)
    have hl := less_rok ha hs
    have hrb := rs_rok hb hs
    rw [residLe_iff, fits_sem (hp.up 1) hao hrb]
    constructor
    · intro h
      refine ⟨hl, hrb, (resid_sem hl hrb).2 fun env h5 he => ?_⟩
      rw [value_rnorm he (hp.up 1) hao]
      exact h env h5 he
    · rintro ⟨_, _, h⟩ env h5 he
      have := (resid_sem hl hrb).1 h env h5 he
      rwa [value_rnorm he (hp.up 1) hao] at this
  constructor
  · rintro ⟨⟨ha, hb⟩, h⟩
    exact ⟨ha, hb, fun S hS => (key ha hb S hS).1 (h S hS)⟩
  · rintro ⟨ha, hb, h⟩
    exact ⟨⟨ha, hb⟩, fun S hS => (key ha hb S hS).2 (h S hS)⟩

/-- the env that Counter gives back -/
def cenv (S : Nat) (p : Int) : List Int := if 0 ≤ p then (Sg.least (S : Int)).set p.toNat 100 else Sg.least (S : Int)
theorem cenv_len (S : Nat) (p : Int) : (cenv S p).length = 5 := by unfold cenv; split <;> simp [Sg.least_len]
noncomputable def ctrR (a b : List (Int × Int)) : Option (List Int) := if Lv.levelOk a = true ∧ Lv.levelOk b = true then (misR 0 a b).map fun x => cenv x.1 x.2 else none
end Go.Proofs.YtghoofgfimeedaaDoor.Dc
