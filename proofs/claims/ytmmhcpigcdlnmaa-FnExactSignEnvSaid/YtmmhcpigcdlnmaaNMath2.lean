/- Plain facts on norms: what a norm holds, that it is the only one with its values, and how values, joins and successors go. -/
import Derived.Test.YtmmhcpigcdlnmaaNMath
namespace Go.Proofs.Ytmmhcpigcdlnmaa.Nm

/-- the atoms at the places 0 .. n - 1 (place i: param i - 1) -/
def readOut (u : Int → Bool) (o : Int → Int) : Nat → List At
  | 0 => []
  | n + 1 => readOut u o n ++ if u ((n : Int) - 1) = true then [((n : Int) - 1, o ((n : Int) - 1))] else []
theorem readOut_succ (u : Int → Bool) (o : Int → Int) (n : Nat) : readOut u o (n + 1) = readOut u o n ++ if u ((n : Int) - 1) = true then [((n : Int) - 1, o ((n : Int) - 1))] else [] := rfl
theorem readOut_len (u : Int → Bool) (o : Int → Int) (n : Nat) : (readOut u o n).length ≤ n := by
  induction n with
  | zero => simp [readOut]
  | succ n ih => rw [readOut_succ, List.length_append]; split <;> simp <;> omega
theorem readOut_congr {u u' : Int → Bool} {o o' : Int → Int} (n : Nat) (h : ∀ p : Int, -1 ≤ p → p < (n : Int) - 1 → u p = u' p ∧ (u p = true → o p = o' p)) : readOut u o n = readOut u' o' n := by
  induction n with
  | zero => rfl
  | succ n ih =>
    have h1 := h ((n : Int) - 1) (by omega) (by omega)
    rw [readOut_succ, readOut_succ, ih (fun p h1 h2 => h p h1 (by omega)), ← h1.1]
    by_cases hu : u ((n : Int) - 1) = true
    · rw [if_pos hu, if_pos hu, h1.2 hu]
    · rw [if_neg hu, if_neg hu]
def keepB (l : List At) (p : Int) : Bool := if p = -1 then decide (most l 5 < best (-1) l) else decide (0 ≤ best p l)
theorem readOut_norm (l : List At) : readOut (keepB l) (fun p => best p l) 6 = norm l := by
  simp [readOut, keepB, norm, pars, List.append_assoc]

theorem mem_readOut {u : Int → Bool} {o : Int → Int} {n : Nat} {a : At} : a ∈ readOut u o n ↔ -1 ≤ a.1 ∧ a.1 < (n : Int) - 1 ∧ u a.1 = true ∧ a.2 = o a.1 := by
  induction n with
  | zero => simp [readOut]; omega
  | succ n ih =>
    rw [readOut_succ, List.mem_append, ih]
    obtain ⟨p, x⟩ := a
    constructor
    · rintro (h | h)
      · exact ⟨h.1, by have := h.2.1; simp at this ⊢; omega, h.2.2⟩
      · split at h
        · rename_i hu
          simp only [List.mem_singleton, Prod.mk.injEq] at h
          obtain ⟨rfl, rfl⟩ := h
          exact ⟨by omega, by simp; omega, hu, rfl⟩
        · simp at h
    · rintro ⟨h1, h2, h3, h4⟩
      simp only at h1 h2 h3 h4
      by_cases e : p = (n : Int) - 1
      · subst e; subst h4
        right; rw [if_pos h3]; simp
      · left; exact ⟨h1, by simp only; omega, h3, h4⟩
theorem readOut_sorted (u : Int → Bool) (o : Int → Int) (n : Nat) : (readOut u o n).Pairwise (fun a b => a.1 < b.1) := by
  induction n with
  | zero => simp [readOut]
  | succ n ih =>
    rw [readOut_succ, List.pairwise_append]
    refine ⟨ih, by split <;> simp, ?_⟩
    intro a ha b hb
    have h1 := (mem_readOut.1 ha).2.1
    split at hb
    · simp only [List.mem_singleton] at hb; subst hb; exact h1
    · simp at hb
theorem mem_norm {l : List At} {a : At} : a ∈ norm l ↔ -1 ≤ a.1 ∧ a.1 < 5 ∧ keepB l a.1 = true ∧ a.2 = best a.1 l := by
  rw [← readOut_norm, mem_readOut]
  constructor
  · rintro ⟨h1, h2, h3⟩; exact ⟨h1, by simp at h2; omega, h3⟩
  · rintro ⟨h1, h2, h3⟩; exact ⟨h1, by simp; omega, h3⟩
theorem norm_sorted (l : List At) : (norm l).Pairwise (fun a b => a.1 < b.1) := by rw [← readOut_norm]; exact readOut_sorted _ _ _

/-- two rows in strictly increasing order with the same atoms are one -/
theorem sorted_ext : ∀ {a b : List At}, a.Pairwise (fun x y => x.1 < y.1) → b.Pairwise (fun x y => x.1 < y.1) → (∀ x, x ∈ a ↔ x ∈ b) → a = b
  | [], [], _, _, _ => rfl
  | [], y :: t, _, _, h => absurd ((h y).2 (by simp)) (by simp)
  | x :: s, [], _, _, h => absurd ((h x).1 (by simp)) (by simp)
  | x :: s, y :: t, ha, hb, h => by
    rw [List.pairwise_cons] at ha hb
    have e : x = y := by
      rcases List.mem_cons.1 ((h x).1 (by simp)) with e | h1
      · exact e
      · rcases List.mem_cons.1 ((h y).2 (by simp)) with e | h2
        · exact e.symm
        · have := ha.1 y h2; have := hb.1 x h1; omega
    subst e
    congr 1
    refine sorted_ext ha.2 hb.2 fun z => ?_
    constructor
    · intro hz
      rcases List.mem_cons.1 ((h z).1 (List.mem_cons_of_mem _ hz)) with rfl | h1
      · have := ha.1 z hz; omega
      · exact h1
    · intro hz
      rcases List.mem_cons.1 ((h z).2 (List.mem_cons_of_mem _ hz)) with rfl | h1
      · have := hb.1 z hz; omega
      · exact h1

theorem mem_getD {l : List At} {k : Nat} (hk : k < l.length) : l.getD k (0, 0) ∈ l := by
  rw [List.getD_eq_getElem?_getD, List.getElem?_eq_getElem hk]; exact List.getElem_mem hk
theorem getD_of_mem {l : List At} {a : At} (h : a ∈ l) : ∃ k, k < l.length ∧ l.getD k (0, 0) = a := by
  obtain ⟨k, hk, e⟩ := List.mem_iff_getElem.1 h
  exact ⟨k, hk, by rw [List.getD_eq_getElem?_getD, List.getElem?_eq_getElem hk]; exact e⟩
theorem AllOk.mem {l : List At} (h : AllOk l) {a : At} (ha : a ∈ l) : -1 ≤ a.1 ∧ a.1 < 5 ∧ 0 ≤ a.2 ∧ a.2 ≤ 1000 := by
  obtain ⟨k, hk, rfl⟩ := getD_of_mem ha
  exact (atOk_iff _).1 (h k hk)
theorem allOk_of_mem {l : List At} (h : ∀ a ∈ l, atOk a = true) : AllOk l := fun _ hk => h _ (mem_getD hk)
theorem Incr.sorted {l : List At} (h : Incr l) : l.Pairwise (fun a b => a.1 < b.1) := by
  rw [List.pairwise_iff_getElem]
  intro i j hi hj hij
  have := h.lt hij hj
  simpa [List.getD_eq_getElem?_getD, List.getElem?_eq_getElem hi, List.getElem?_eq_getElem hj] using this
theorem incr_of_sorted {l : List At} (h : l.Pairwise (fun a b => a.1 < b.1)) : Incr l := by
  intro k h0 hk
  rw [List.pairwise_iff_getElem] at h
  have := h (k - 1) k (by omega) hk (by omega)
  simpa [List.getD_eq_getElem?_getD, List.getElem?_eq_getElem hk, List.getElem?_eq_getElem (show k - 1 < l.length by omega)] using this

/-- the norm's rule on its number, atom by atom -/
def NumOk (l : List At) : Prop := ∀ x y p, (-1, x) ∈ l → (p, y) ∈ l → p ≠ -1 → y < x
theorem Ok.num {l : List At} (h : Ok l) : NumOk l := by
  intro x y p hx hy hp
  obtain ⟨i, hi, ei⟩ := getD_of_mem hx
  obtain ⟨j, hj, ej⟩ := getD_of_mem hy
  have hi0 : i = 0 := by
    rcases Nat.eq_zero_or_pos i with e | e
    · exact e
    · have h1 := h.2.2.1.lt e hi
      have h2 := (atOk_iff _).1 (h.2.1 0 (by omega))
      rw [ei] at h1; simp only at h1; omega
  subst hi0
  have hj0 : j ≠ 0 := by
    intro e; subst e
    have e := ei.symm.trans ej
    injection e with e1 e2
    exact hp e1.symm
  have h1 := h.2.2.2 (by rw [ei]) (j - 1) (by simp; omega)
  rw [getD_drop1, ei, show j - 1 + 1 = j by omega, ej] at h1
  exact h1
theorem ok_of {l : List At} (h0 : l ≠ []) (h1 : AllOk l) (h2 : l.Pairwise (fun a b => a.1 < b.1)) (h3 : NumOk l) : Ok l := by
  have hl : 1 ≤ l.length := by
    rcases l with _ | ⟨a, r⟩
    · exact absurd rfl h0
    · simp
  refine ⟨hl, h1, incr_of_sorted h2, fun e k hk => ?_⟩
  rw [List.length_drop] at hk
  rw [getD_drop1]
  have hlt := (incr_of_sorted h2).lt (i := 0) (j := k + 1) (by omega) (by omega)
  have hm0 : ((-1 : Int), (l.getD 0 (0, 0)).2) ∈ l := by
    rw [← e]
    exact mem_getD (by omega)
  have hm1 : ((l.getD (k + 1) (0, 0)).1, (l.getD (k + 1) (0, 0)).2) ∈ l := mem_getD (l := l) (k := k + 1) (by omega)
  exact h3 _ _ _ hm0 hm1 (by omega)

theorem best_nonneg {l : List At} (h : AllOk l) {p : Int} (hb : best p l ≠ -1) : 0 ≤ best p l := (h.mem (best_at hb)).2.2.1
theorem most_at (l : List At) (n : Nat) (h : most l n ≠ -1) : ∃ q : Int, 0 ≤ q ∧ q < n ∧ most l n = best q l := by
  induction n with
  | zero => simp [most] at h
  | succ n ih =>
    simp only [most] at h ⊢
    by_cases hm : most l n ≤ best n l
    · exact ⟨n, by omega, by omega, by omega⟩
    · obtain ⟨q, h1, h2, h3⟩ := ih (by have := best_ge n l; omega)
      exact ⟨q, h1, by omega, by omega⟩
theorem most_le (l : List At) (n : Nat) (q : Int) (h0 : 0 ≤ q) (hq : q < n) : best q l ≤ most l n := by
  induction n with
  | zero => omega
  | succ n ih =>
    simp only [most]
    by_cases e : q = n
    · subst e; omega
    · have := ih (by omega); omega

/-- a norm is its own norm -/
theorem best_of_sorted {l : List At} (hs : l.Pairwise (fun a b => a.1 < b.1)) {p x : Int} (h : (p, x) ∈ l) (hx : -1 ≤ x) : best p l = x := by
  have h1 := best_mem h
  have h2 := best_at (p := p) (l := l)
  by_cases e : best p l = -1
  · omega
  · have h3 := h2 e
    rcases List.mem_iff_getElem.1 h with ⟨i, hi, ei⟩
    rcases List.mem_iff_getElem.1 h3 with ⟨j, hj, ej⟩
    rw [List.pairwise_iff_getElem] at hs
    rcases Nat.lt_trichotomy i j with hij | hij | hij
    · have := hs i j hi hj hij; rw [ei, ej] at this; simp at this
    · subst hij; rw [ei] at ej; injection ej with _ e2; exact e2.symm
    · have := hs j i hj hi hij; rw [ei, ej] at this; simp at this
theorem norm_self {l : List At} (h : Ok l) : norm l = l := by
  have hs := h.2.2.1.sorted
  refine sorted_ext (norm_sorted l) hs fun a => ?_
  obtain ⟨p, x⟩ := a
  rw [mem_norm]
  constructor
  · rintro ⟨h1, h2, h3, h4⟩
    simp only at h1 h2 h3 h4
    rw [h4]
    apply best_at
    unfold keepB at h3
    split at h3
    · rename_i e; subst e; simp at h3; have := most_ge l 5; omega
    · simp at h3; omega
  · intro hm
    have hb := h.2.1.mem hm
    have e := best_of_sorted hs hm (by have := hb.2.2.1; simp at this; omega)
    refine ⟨hb.1, hb.2.1, ?_, e.symm⟩
    simp only at hb e ⊢
    unfold keepB
    split
    · rename_i e'; subst e'
      rw [e]
      simp only [decide_eq_true_eq]
      by_cases em : most l 5 = -1
      · omega
      · obtain ⟨q, q1, q2, q3⟩ := most_at l 5 em
        have := h.num x _ q hm (best_at (by omega)) (by omega)
        omega
    · rw [e]; simp; omega

theorem keepB_cases {l : List At} {p : Int} (h : keepB l p = true) : best p l ≠ -1 := by
  unfold keepB at h
  split at h
  · rename_i e; subst e; simp at h; have := most_ge l 5; omega
  · simp at h; omega
theorem norm_sub {l : List At} {a : At} (h : a ∈ norm l) : a ∈ l := by
  obtain ⟨_, _, h3, h4⟩ := mem_norm.1 h
  obtain ⟨p, x⟩ := a
  simp only at h3 h4
  rw [h4]
  exact best_at (keepB_cases h3)
theorem norm_ne {l : List At} (h0 : l ≠ []) (h : AllOk l) : norm l ≠ [] := by
  obtain ⟨a, ha⟩ := List.exists_mem_of_ne_nil l h0
  have hb := h.mem ha
  obtain ⟨p, x⟩ := a
  have hbm := best_mem ha
  simp only at hb
  intro e
  by_cases ep : p = -1
  · subst ep
    by_cases hm : most l 5 < best (-1) l
    · have : ((-1 : Int), best (-1) l) ∈ norm l := mem_norm.2 ⟨by simp, by simp, by simp [keepB, hm], rfl⟩
      rw [e] at this; simp at this
    · obtain ⟨q, q1, q2, q3⟩ := most_at l 5 (by omega)
      have : (q, best q l) ∈ norm l := mem_norm.2 ⟨by simp; omega, by simp; omega, by simp [keepB, show q ≠ -1 by omega]; omega, rfl⟩
      rw [e] at this; simp at this
  · have : (p, best p l) ∈ norm l := mem_norm.2 ⟨by simp; omega, by simp; omega, by simp [keepB, ep]; omega, rfl⟩
    rw [e] at this; simp at this
theorem norm_ok {l : List At} (h0 : l ≠ []) (h : AllOk l) : Ok (norm l) := by
  refine ok_of (norm_ne h0 h) (allOk_of_mem fun a ha => (atOk_iff a).2 (h.mem (norm_sub ha))) (norm_sorted l) ?_
  intro x y p hx hy hp
  obtain ⟨_, _, h3, h4⟩ := mem_norm.1 hx
  obtain ⟨g1, g2, g3, g4⟩ := mem_norm.1 hy
  simp only at h3 h4 g1 g2 g3 g4
  simp [keepB] at h3
  have := most_le l 5 p (by omega) (by omega)
  omega
end Go.Proofs.Ytmmhcpigcdlnmaa.Nm
