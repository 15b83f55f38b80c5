/- Plain facts on norms: values, comparison, joins and successors of norms. -/
import Derived.Test.YtmmhcpigcdlnmaaNMath2
namespace Go.Proofs.Ytmmhcpigcdlnmaa.Nm

theorem value_mem {env : List Int} {l : List At} {a : At} (h : a ∈ l) : val env a ≤ value env l := by
  induction l with
  | nil => simp at h
  | cons b r ih =>
    simp only [value]
    rcases List.mem_cons.1 h with rfl | h
    · omega
    · have := ih h; omega
theorem value_le {env : List Int} {l : List At} {v : Int} (h0 : 0 ≤ v) (h : ∀ a ∈ l, val env a ≤ v) : value env l ≤ v := by
  induction l with
  | nil => simpa [value] using h0
  | cons b r ih =>
    simp only [value]
    have := h b (by simp)
    have := ih (fun a ha => h a (List.mem_cons_of_mem _ ha))
    omega
/-- all numbers of an env are 0 or more -/
def Pos (env : List Int) : Prop := ∀ x ∈ env, 0 ≤ x
theorem Pos.get {env : List Int} (h : Pos env) (k : Nat) : 0 ≤ env.getD k 0 := by
  rw [List.getD_eq_getElem?_getD]
  cases hg : env[k]? with
  | none => simp
  | some y => exact h y (List.mem_of_getElem? hg)
theorem val_ge {env : List Int} (hp : Pos env) (a : At) : a.2 ≤ val env a := by
  unfold val
  have := hp.get a.1.toNat
  split <;> omega
theorem value_norm {env : List Int} (hp : Pos env) {l : List At} (h : AllOk l) : value env (norm l) = value env l := by
  apply Int.le_antisymm
  · exact value_le (value_ge _ _) fun a ha => value_mem (norm_sub ha)
  · refine value_le (value_ge _ _) fun a ha => ?_
    obtain ⟨p, x⟩ := a
    have hb := h.mem ha
    have hbm := best_mem ha
    simp only at hb
    by_cases ep : p = -1
    · subst ep
      by_cases hm : most l 5 < best (-1) l
      · have h1 : ((-1 : Int), best (-1) l) ∈ norm l := mem_norm.2 ⟨by simp, by simp, by simp [keepB, hm], rfl⟩
        have h2 := value_mem (env := env) h1
        simp [val] at h2 ⊢
        omega
      · obtain ⟨q, q1, q2, q3⟩ := most_at l 5 (by omega)
        have h1 : (q, best q l) ∈ norm l := mem_norm.2 ⟨by simp; omega, by simp; omega, by simp [keepB, show q ≠ -1 by omega]; omega, rfl⟩
        have h2 := value_mem (env := env) h1
        have h3 := val_ge hp (q, best q l)
        simp only [val, if_true] at h2 h3 ⊢
        simp only [show ¬ q = -1 by omega, if_false] at h2 h3
        omega
    · have h1 : (p, best p l) ∈ norm l := mem_norm.2 ⟨by simp; omega, by simp; omega, by simp [keepB, ep]; omega, rfl⟩
      have h2 := value_mem (env := env) h1
      simp only [val, ep, if_false] at h2 ⊢
      omega
theorem value_up {env : List Int} (hp : Pos env) {l : List At} (h0 : l ≠ []) (h : AllOk l) {k : Int} (hk : 0 ≤ k) : value env (up k l) = value env l + k := by
  have hv : ∀ a : At, val env (a.1, a.2 + k) = val env a + k := by
    intro a; unfold val; simp only; split <;> omega
  have hmap : ∀ a ∈ l, (a.1, a.2 + k) ∈ up k l := fun a ha => List.mem_map.2 ⟨a, ha, rfl⟩
  obtain ⟨a0, ha0⟩ := List.exists_mem_of_ne_nil l h0
  have hge0 : k ≤ value env (up k l) := by
    have h1 := value_mem (env := env) (hmap a0 ha0)
    have h2 := hv a0
    have h3 := val_ge hp a0
    have h4 := h.mem ha0
    omega
  apply Int.le_antisymm
  · refine value_le (by have := value_ge env l; omega) fun b hb => ?_
    obtain ⟨a, ha, rfl⟩ := List.mem_map.1 hb
    have h1 := value_mem (env := env) ha
    have h2 := hv a
    omega
  · have : value env l ≤ value env (up k l) - k := value_le (by omega) fun a ha => by
      have h1 := value_mem (env := env) (hmap a ha)
      have h2 := hv a
      omega
    omega

/-- comparison, atom by atom -/
def Le (a b : List At) : Prop := ∀ x ∈ a, ∃ y ∈ b, (x.1 = -1 ∨ x.1 = y.1) ∧ x.2 ≤ y.2
theorem le_of_index {a b : List At} (h : ∀ k, k < a.length → atomLe (a.getD k (0, 0)) b) : Le a b := by
  intro x hx
  obtain ⟨k, hk, rfl⟩ := getD_of_mem hx
  obtain ⟨j, hj, h1, h2⟩ := h k hk
  exact ⟨_, mem_getD hj, h1, h2⟩
theorem index_of_le {a b : List At} (h : Le a b) : ∀ k, k < a.length → atomLe (a.getD k (0, 0)) b := by
  intro k hk
  obtain ⟨y, hy, h1, h2⟩ := h _ (mem_getD hk)
  obtain ⟨j, hj, rfl⟩ := getD_of_mem hy
  exact ⟨j, hj, h1, h2⟩
theorem normLe_le (a b : List At) : normLe a b = true ↔ Ok a ∧ Ok b ∧ Le a b := by
  rw [normLe_iff]
  exact ⟨fun ⟨h1, h2, h3⟩ => ⟨h1, h2, le_of_index h3⟩, fun ⟨h1, h2, h3⟩ => ⟨h1, h2, index_of_le h3⟩⟩
theorem Le.value {env : List Int} (hp : Pos env) {a b : List At} (h : Le a b) : value env a ≤ value env b := by
  refine value_le (value_ge _ _) fun x hx => ?_
  obtain ⟨y, hy, h1, h2⟩ := h x hx
  have h3 := value_mem (env := env) hy
  have h4 := val_ge hp y
  obtain ⟨p, u⟩ := x
  obtain ⟨q, v⟩ := y
  simp only at h1 h2 h4
  by_cases ep : p = -1
  · simp only [val, ep, if_true]; omega
  · rcases h1 with h1 | h1
    · exact absurd h1 ep
    · subst h1
      simp only [val, ep, if_false] at h3 ⊢
      omega
/-- what is at most each other is one -/
theorem le_antisymm {a b : List At} (ha : Ok a) (hb : Ok b) (h1 : Le a b) (h2 : Le b a) : a = b := by
  have H : ∀ {a b : List At}, Ok a → Ok b → Le a b → Le b a → ∀ x ∈ a, x ∈ b := by
    intro a b ha hb h1 h2 x hx
    obtain ⟨p, u⟩ := x
    obtain ⟨⟨q, v⟩, hy, e1, l1⟩ := h1 _ hx
    simp only at e1 l1
    by_cases ep : p = -1
    · subst ep
      by_cases eq : q = -1
      · subst eq
        -- both numbers: the other way round
        obtain ⟨⟨r, z⟩, hz, _, l2⟩ := h2 _ hy
        simp only at l2
        by_cases er : r = -1
        · subst er
          have e := best_of_sorted ha.2.2.1.sorted hz (by have := (ha.2.1.mem hz).2.2.1; simp at this; omega)
          have e' := best_of_sorted ha.2.2.1.sorted hx (by have := (ha.2.1.mem hx).2.2.1; simp at this; omega)
          rw [show u = v by omega]; exact hy
        · have := ha.num u z r hx hz er; omega
      · obtain ⟨⟨r, z⟩, hz, e2, l2⟩ := h2 _ hy
        simp only at e2 l2
        have er : r ≠ -1 := by omega
        have := ha.num u z r hx hz er; omega
    · have eq : p = q := by omega
      subst eq
      obtain ⟨⟨r, z⟩, hz, e2, l2⟩ := h2 _ hy
      simp only at e2 l2
      have er : p = r := by omega
      subst er
      have e := best_of_sorted ha.2.2.1.sorted hz (by have := (ha.2.1.mem hz).2.2.1; simp at this; omega)
      have e' := best_of_sorted ha.2.2.1.sorted hx (by have := (ha.2.1.mem hx).2.2.1; simp at this; omega)
      rw [show u = v by omega]; exact hy
  exact sorted_ext ha.2.2.1.sorted hb.2.2.1.sorted fun x => ⟨H ha hb h1 h2 x, H hb ha h2 h1 x⟩
theorem le_refl (a : List At) : Le a a := fun x hx => ⟨x, hx, .inr rfl, by omega⟩
theorem AllOk.append {a b : List At} (ha : AllOk a) (hb : AllOk b) : AllOk (a ++ b) := by
  refine allOk_of_mem fun x hx => (atOk_iff x).2 ?_
  rcases List.mem_append.1 hx with h | h
  · exact ha.mem h
  · exact hb.mem h
/-- every atom is at most the norm of a list that holds it -/
theorem mem_le_norm {l : List At} (h : AllOk l) {x : At} (hx : x ∈ l) : ∃ y ∈ norm l, (x.1 = -1 ∨ x.1 = y.1) ∧ x.2 ≤ y.2 := by
  obtain ⟨p, u⟩ := x
  have hb := h.mem hx
  have hbm := best_mem hx
  simp only at hb
  by_cases ep : p = -1
  · subst ep
    by_cases hm : most l 5 < best (-1) l
    · exact ⟨((-1 : Int), best (-1) l), mem_norm.2 ⟨by simp, by simp, by simp [keepB, hm], rfl⟩, .inl rfl, hbm⟩
    · obtain ⟨q, q1, q2, q3⟩ := most_at l 5 (by omega)
      exact ⟨(q, best q l), mem_norm.2 ⟨by simp; omega, by simp; omega, by simp [keepB, show q ≠ -1 by omega]; omega, rfl⟩, .inl rfl, by simp only; omega⟩
  · exact ⟨(p, best p l), mem_norm.2 ⟨by simp; omega, by simp; omega, by simp [keepB, ep]; omega, rfl⟩, .inr rfl, hbm⟩
/-- the join is the second one just where the first one is at most it -/
theorem join_eq_iff {a b : List At} (ha : Ok a) (hb : Ok b) : norm (a ++ b) = b ↔ Le a b := by
  have hab := ha.2.1.append hb.2.1
  constructor
  · intro e x hx
    have := mem_le_norm hab (List.mem_append_left b hx)
    rw [e] at this
    exact this
  · intro h
    have hne : a ++ b ≠ [] := by
      intro e
      have h1 := hb.1
      have : (a ++ b).length = 0 := by rw [e]; rfl
      simp at this; rw [this.2] at h1; simp at h1
    refine le_antisymm (norm_ok hne hab) hb ?_ ?_
    · intro x hx
      rcases List.mem_append.1 (norm_sub hx) with h1 | h1
      · exact h x h1
      · exact ⟨x, h1, .inr rfl, by omega⟩
    · intro x hx
      exact mem_le_norm hab (List.mem_append_right a hx)
/-- what is not at most is above for the env that is 0 but for one param, which is 1000 -/
def peak (p : Int) : List Int := (List.range 5).map fun (i : Nat) => if (i : Int) = p then 1000 else 0
theorem peak_get (p : Int) (k : Nat) (hk : k < 5) : (peak p).getD k 0 = if (k : Int) = p then 1000 else 0 := by
  simp [peak, List.getD_eq_getElem?_getD, hk]
theorem not_le {a b : List At} (ha : Ok a) (hb : Ok b) (h : ¬ Le a b) (hb5 : ∀ y ∈ b, y.2 ≤ 500) : ∃ p : Int, -1 ≤ p ∧ p < 5 ∧ value (peak p) b < value (peak p) a := by
  simp only [Le, Classical.not_forall, not_exists] at h
  obtain ⟨⟨p, u⟩, hx, h⟩ := h
  have hax := ha.2.1.mem hx
  simp only at hax
  refine ⟨p, hax.1, hax.2.1, ?_⟩
  have hva := value_mem (env := peak p) hx
  have H : ∀ y ∈ b, val (peak p) y ≤ val (peak p) (p, u) - 1 := by
    intro y hy
    have hby := hb.2.1.mem hy
    have h5 := hb5 y hy
    obtain ⟨q, v⟩ := y
    have hn := h (q, v)
    simp only [not_and, hy, true_implies] at hn
    simp only at hby h5
    by_cases ep : p = -1
    · subst ep
      have := hn (.inl rfl)
      simp only [val, if_true]
      by_cases eq : q = -1
      · simp only [eq, if_true]; omega
      · simp only [eq, if_false]
        rw [peak_get _ _ (by omega), if_neg (by omega)]
        omega
    · have hpp : (peak p).getD p.toNat 0 = 1000 := by rw [peak_get p p.toNat (by omega), if_pos (by omega)]
      simp only [val, ep, if_false]
      rw [hpp]
      by_cases eq : q = -1
      · simp only [eq, if_true]; omega
      · simp only [eq, if_false]
        rw [peak_get p q.toNat (by omega)]
        by_cases eqp : q = p
        · subst eqp
          have := hn (.inr rfl)
          rw [if_pos (by omega)]; omega
        · rw [if_neg (by omega)]; omega
  have hv0 : 1 ≤ val (peak p) (p, u) := by
    obtain ⟨y, hy⟩ := List.exists_mem_of_ne_nil b (by intro e; have := hb.1; rw [e] at this; simp at this)
    have h1 := H y hy
    have hpos : Pos (peak p) := by
      intro x hx
      simp only [peak, List.mem_map] at hx
      obtain ⟨i, _, rfl⟩ := hx
      split <;> omega
    have h2 := val_ge hpos y
    have h3 := (hb.2.1.mem hy).2.2.1
    omega
  have := value_le (env := peak p) (l := b) (v := val (peak p) (p, u) - 1) (by omega) H
  omega

/-- best, of a norm -/
theorem best_norm {l : List At} {p : Int} (h0 : -1 ≤ p) (h5 : p < 5) : best p (norm l) = if keepB l p = true then best p l else -1 := by
  by_cases hk : keepB l p = true
  · rw [if_pos hk]
    have hm : (p, best p l) ∈ norm l := mem_norm.2 ⟨h0, h5, hk, rfl⟩
    exact best_of_sorted (norm_sorted l) hm (best_ge p l)
  · rw [if_neg hk]
    by_cases e : best p (norm l) = -1
    · exact e
    · have := (mem_norm.1 (best_at e)).2.2.1
      exact absurd this hk
theorem best_norm_par {l : List At} (h : AllOk l) {p : Int} (h0 : 0 ≤ p) (h5 : p < 5) : best p (norm l) = best p l := by
  rw [best_norm (by omega) h5]
  split
  · rfl
  · rename_i hk
    simp [keepB, show p ≠ -1 by omega] at hk
    by_cases e : best p l = -1
    · omega
    · have := best_nonneg h e; omega
theorem norm_congr {a b : List At} (h1 : ∀ p : Int, 0 ≤ p → p < 5 → best p a = best p b) (h2 : (most a 5 < best (-1) a ↔ most b 5 < best (-1) b) ∧ (most a 5 < best (-1) a → best (-1) a = best (-1) b)) : norm a = norm b := by
  rw [← readOut_norm, ← readOut_norm]
  refine readOut_congr 6 fun p hp1 hp2 => ?_
  by_cases e : p = -1
  · subst e
    simp only [keepB, if_true]
    refine ⟨by simp [h2.1], fun h => h2.2 (by simpa using h)⟩
  · simp only [keepB, e, if_false]
    rw [h1 p (by omega) (by simp at hp2; omega)]
    exact ⟨rfl, fun _ => rfl⟩
theorem most_congr {a b : List At} (n : Nat) (hn : n ≤ 5) (h : ∀ p : Int, 0 ≤ p → p < 5 → best p a = best p b) : most a n = most b n := by
  induction n with
  | zero => rfl
  | succ n ih => simp only [most]; rw [ih (by omega), h n (by omega) (by omega)]
theorem most_append (a b : List At) (n : Nat) : most (a ++ b) n = max (most a n) (most b n) := by
  induction n with
  | zero => simp [most]
  | succ n ih => simp only [most]; rw [ih, best_append]; omega
theorem norm_join {a b : List At} (ha : AllOk a) (hb : AllOk b) : norm (norm a ++ norm b) = norm (a ++ b) := by
  have hp : ∀ p : Int, 0 ≤ p → p < 5 → best p (norm a ++ norm b) = best p (a ++ b) := by
    intro p h0 h5
    rw [best_append, best_append, best_norm_par ha h0 h5, best_norm_par hb h0 h5]
  have hm := most_congr 5 (by omega) hp
  have hma := most_append a b 5
  have e1 := best_norm (l := a) (p := -1) (by omega) (by omega)
  have e2 := best_norm (l := b) (p := -1) (by omega) (by omega)
  have e3 := best_append (-1) (norm a) (norm b)
  have e4 := best_append (-1) a b
  have g1 := most_ge a 5
  have g2 := most_ge b 5
  have g3 := best_ge (-1) a
  have g4 := best_ge (-1) b
  simp only [keepB, if_true, decide_eq_true_eq] at e1 e2
  refine norm_congr hp ⟨?_, ?_⟩
  · rw [hm, e3, e4, hma, e1, e2]; split <;> split <;> omega
  · rw [hm, e3, e4, hma, e1, e2]; split <;> split <;> omega
theorem best_up {l : List At} (k : Int) (hk : 0 ≤ k) (h : AllOk l) (p : Int) : best p (up k l) = if best p l = -1 then -1 else best p l + k := by
  induction l with
  | nil => simp [up, best]
  | cons a r ih =>
    have hr : AllOk r := fun j hj => by have := h (j + 1) (by simpa using hj); simpa using this
    have h0 := (atOk_iff _).1 (h 0 (by simp))
    simp at h0
    have := ih hr
    have hg := best_ge p r
    simp only [up, List.map_cons, best] at this ⊢
    by_cases e : a.1 = p
    · simp only [e, if_true]
      rw [this]
      split <;> split <;> omega
    · simp only [e, if_false]
      exact this
theorem most_up {l : List At} (k : Int) (hk : 0 ≤ k) (h : AllOk l) (n : Nat) : most (up k l) n = if most l n = -1 then -1 else most l n + k := by
  induction n with
  | zero => simp [most]
  | succ n ih =>
    have e0 : most (up k l) (n + 1) = max (most (up k l) n) (best n (up k l)) := rfl
    have e3 : most l (n + 1) = max (most l n) (best n l) := rfl
    have e4 := best_up k hk h n
    have := most_ge l n
    have := best_ge n l
    by_cases e1 : most l n = -1 <;> by_cases e2 : best n l = -1
    · rw [if_pos e1] at ih; rw [if_pos e2] at e4; rw [if_pos (by omega)]; omega
    · rw [if_pos e1] at ih; rw [if_neg e2] at e4; rw [if_neg (by omega)]; omega
    · rw [if_neg e1] at ih; rw [if_pos e2] at e4; rw [if_neg (by omega)]; omega
    · rw [if_neg e1] at ih; rw [if_neg e2] at e4; rw [if_neg (by omega)]; omega
theorem up_norm {l : List At} (k : Int) (hk : 0 ≤ k) (h : AllOk l) : up k (norm l) = norm (up k l) := by
  refine sorted_ext ?_ (norm_sorted _) fun x => ?_
  · have := norm_sorted l
    unfold up
    rw [List.pairwise_map]
    exact this
  · obtain ⟨p, u⟩ := x
    have hb := best_up k hk h p
    have hm := most_up k hk h 5
    have hb1 := best_up k hk h (-1)
    have g1 := most_ge l 5
    have g2 := best_ge (-1) l
    have g3 := best_ge p l
    rw [mem_norm]
    simp only [up, List.mem_map, Prod.mk.injEq]
    constructor
    · rintro ⟨⟨q, v⟩, hq, rfl, rfl⟩
      obtain ⟨h1, h2, h3, h4⟩ := mem_norm.1 hq
      have hk3 := keepB_cases h3
      simp only at h1 h2 h3 h4 hk3
      refine ⟨h1, h2, ?_, ?_⟩
      · unfold keepB at h3 ⊢
        split
        · rename_i e; subst e
          simp only [if_true, decide_eq_true_eq] at h3 ⊢
          change most (up k l) 5 < best (-1) (up k l)
          rw [hm, hb1, if_neg hk3]
          split <;> omega
        · rename_i e
          simp only [e, if_false, decide_eq_true_eq] at h3 ⊢
          change 0 ≤ best q (up k l)
          have hb' : best q (up k l) = best q l + k := hb.trans (if_neg hk3)
          omega
      · change v + k = best q (up k l)
        have hb' : best q (up k l) = best q l + k := hb.trans (if_neg hk3)
        omega
    · rintro ⟨h1, h2, h3, h4⟩
      have hk3 := keepB_cases h3
      change best p (up k l) ≠ -1 at hk3
      change u = best p (up k l) at h4
      have hne : best p l ≠ -1 := by intro e; rw [hb, if_pos e] at hk3; exact hk3 rfl
      rw [hb, if_neg hne] at h4
      refine ⟨(p, best p l), mem_norm.2 ⟨h1, h2, ?_, rfl⟩, rfl, h4.symm⟩
      change keepB (up k l) p = true at h3
      unfold keepB at h3 ⊢
      by_cases e : p = -1
      · subst e
        simp only [if_true, decide_eq_true_eq] at h3 ⊢
        rw [hm, hb, if_neg hne] at h3
        split at h3 <;> omega
      · simp only [e, if_false, decide_eq_true_eq] at h3 ⊢
        exact best_nonneg h hne
theorem AllOk.up {l : List At} (h : AllOk l) (hu : ∀ a ∈ l, a.2 < 1000) : AllOk (up 1 l) := by
  refine allOk_of_mem fun x hx => ?_
  obtain ⟨a, ha, rfl⟩ := List.mem_map.1 hx
  have h1 := h.mem ha
  have h2 := hu a ha
  exact (atOk_iff _).2 ⟨h1.1, h1.2.1, by simp only; omega, by simp only; omega⟩
end Go.Proofs.Ytmmhcpigcdlnmaa.Nm
