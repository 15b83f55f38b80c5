/- Plain facts on norms: what a norm holds, that it is the only one with its values, and how values, joins and successors go. -/
/- Plain facts on norms: values, comparison, joins and successors of norms. -/
/- Signs as numbers: which parameters are positive, the sign of an env, the least env. -/


/- Plain functions on norms as lists of pairs of numbers (Param, Off): validity index by index, the norm of a list of atoms, values. Nothing of the program is imported. -/
namespace Go.Proofs.YtgebjnoicgmdoaaGreatDoor.Nm

abbrev At := Int × Int

def atOk (a : At) : Bool := decide (-1 ≤ a.1) && decide (a.1 < 5) && decide (0 ≤ a.2) && decide (a.2 ≤ 1000)
theorem atOk_iff (a : At) : atOk a = true ↔ -1 ≤ a.1 ∧ a.1 < 5 ∧ 0 ≤ a.2 ∧ a.2 ≤ 1000 := by simp [atOk, and_assoc]

def AllOk (l : List At) : Prop := ∀ k, k < l.length → atOk (l.getD k (0, 0)) = true
def Incr (l : List At) : Prop := ∀ k, 0 < k → k < l.length → (l.getD (k - 1) (0, 0)).1 < (l.getD k (0, 0)).1
def Exceeds (x : Int) (l : List At) : Prop := ∀ k, k < l.length → (l.getD k (0, 0)).2 < x
def Ok (l : List At) : Prop := 1 ≤ l.length ∧ AllOk l ∧ Incr l ∧ ((l.getD 0 (0, 0)).1 = -1 → Exceeds (l.getD 0 (0, 0)).2 (l.drop 1))

open Classical in
noncomputable def allOk (l : List At) : Bool := decide (AllOk l)
open Classical in
noncomputable def exceeds (x : Int) (l : List At) : Bool := decide (Exceeds x l)
theorem allOk_iff (l : List At) : allOk l = true ↔ AllOk l := by simp [allOk]
theorem exceeds_iff (x : Int) (l : List At) : exceeds x l = true ↔ Exceeds x l := by simp [exceeds]
theorem allOk_no {l : List At} (h : ¬ AllOk l) : allOk l = false := by simp [allOk, h]
theorem exceeds_no {x : Int} {l : List At} (h : ¬ Exceeds x l) : exceeds x l = false := by simp [exceeds, h]
theorem getD_drop1 (l : List At) (k : Nat) : (l.drop 1).getD k (0, 0) = l.getD (k + 1) (0, 0) := by
  simp [List.getD_eq_getElem?_getD]

/-- strictly increasing params: of any two the later one is greater -/
theorem Incr.lt {l : List At} (h : Incr l) {i j : Nat} (hij : i < j) (hj : j < l.length) : (l.getD i (0, 0)).1 < (l.getD j (0, 0)).1 := by
  induction j with
  | zero => omega
  | succ j ih =>
    have h1 := h (j + 1) (by omega) hj
    simp only [Nat.add_sub_cancel] at h1
    by_cases e : i = j
    · subst e; exact h1
    · have := ih (by omega) (by omega); omega
theorem Ok.len {l : List At} (h : Ok l) : l.length ≤ 6 := by
  have H : ∀ k, k < l.length → (k : Int) - 1 ≤ (l.getD k (0, 0)).1 := by
    intro k
    induction k with
    | zero => intro hk; have := (atOk_iff _).1 (h.2.1 0 hk); omega
    | succ k ih =>
      intro hk
      have h1 := ih (by omega)
      have h2 := h.2.2.1 (k + 1) (by omega) hk
      simp only [Nat.add_sub_cancel] at h2
      omega
  by_cases hl : l.length ≤ 6
  · exact hl
  · have h1 := H 6 (by omega)
    have h2 := (atOk_iff _).1 (h.2.1 6 (by omega))
    omega

/-- the greatest Off of the atoms with that Param; -1 if there is none -/
def best (p : Int) : List At → Int
  | [] => -1
  | a :: r => if a.1 = p then max a.2 (best p r) else best p r
theorem best_ge (p : Int) (l : List At) : -1 ≤ best p l := by
  induction l with
  | nil => simp [best]
  | cons a r ih => simp only [best]; split <;> omega
theorem best_append (p : Int) (a b : List At) : best p (a ++ b) = max (best p a) (best p b) := by
  induction a with
  | nil => simp only [List.nil_append, best]; have := best_ge p b; omega
  | cons x r ih => simp only [List.cons_append, best, ih]; split <;> omega
theorem best_one (p : Int) (a : At) : best p [a] = if a.1 = p then max a.2 (-1) else -1 := by simp [best]
theorem best_take (p : Int) (l : List At) (k : Nat) (hk : k < l.length) : best p (l.take (k + 1)) = if (l.getD k (0, 0)).1 = p then max (best p (l.take k)) (l.getD k (0, 0)).2 else best p (l.take k) := by
  have e : l.getD k (0, 0) = l[k] := by simp [List.getD_eq_getElem?_getD, List.getElem?_eq_getElem hk]
  rw [List.take_succ_eq_append_getElem hk, best_append, best_one, e]
  have := best_ge p (l.take k)
  split <;> omega
theorem best_le (p : Int) {l : List At} (h : AllOk l) : best p l ≤ 1000 := by
  induction l with
  | nil => simp [best]
  | cons a r ih =>
    have h0 := (atOk_iff _).1 (h 0 (by simp))
    have h1 := ih (fun k hk => by have := h (k + 1) (by simpa using hk); simpa using this)
    simp only [best]
    simp at h0
    split <;> omega
/-- an atom's Off is at most the best one of its Param -/
theorem best_mem {p x : Int} {l : List At} (h : (p, x) ∈ l) : x ≤ best p l := by
  induction l with
  | nil => simp at h
  | cons a r ih =>
    simp only [best]
    rcases List.mem_cons.1 h with rfl | h
    · simp; omega
    · have := ih h; split <;> omega
theorem best_at {p : Int} {l : List At} (h : best p l ≠ -1) : (p, best p l) ∈ l := by
  induction l with
  | nil => simp [best] at h
  | cons a r ih =>
    simp only [best] at h ⊢
    obtain ⟨a1, a2⟩ := a
    by_cases e : a1 = p
    · subst e
      simp only [if_true] at h ⊢
      by_cases hm : best a1 r ≤ a2
      · rw [show max a2 (best a1 r) = a2 by omega]; simp
      · rw [show max a2 (best a1 r) = best a1 r by omega] at h ⊢
        exact List.mem_cons_of_mem _ (ih h)
    · simp only [e, if_false] at h ⊢
      exact List.mem_cons_of_mem _ (ih h)

/-- the atoms with params 0 .. n - 1 of the norm -/
def pars (l : List At) : Nat → List At
  | 0 => []
  | n + 1 => pars l n ++ if 0 ≤ best n l then [((n : Int), best n l)] else []
theorem pars_succ (l : List At) (n : Nat) : pars l (n + 1) = pars l n ++ if 0 ≤ best n l then [((n : Int), best n l)] else [] := rfl
theorem pars_len (l : List At) (n : Nat) : (pars l n).length ≤ n := by
  induction n with
  | zero => simp [pars]
  | succ n ih => rw [pars_succ, List.length_append]; split <;> simp <;> omega
/-- the greatest Off among params 0 .. n - 1; -1 if there is none -/
def most (l : List At) : Nat → Int
  | 0 => -1
  | n + 1 => max (most l n) (best n l)
theorem most_ge (l : List At) (n : Nat) : -1 ≤ most l n := by
  induction n with
  | zero => simp [most]
  | succ n ih => simp only [most]; omega
/-- the norm -/
def norm (l : List At) : List At := (if most l 5 < best (-1) l then [((-1 : Int), best (-1) l)] else []) ++ pars l 5
theorem norm_len (l : List At) : (norm l).length ≤ 6 := by
  have := pars_len l 5
  unfold norm
  split <;> simp <;> omega
open Classical in
noncomputable def normOf (l : List At) : Option (List At) := if 1 ≤ l.length ∧ l.length ≤ 100 ∧ AllOk l then some (norm l) else none
def up (k : Int) (l : List At) : List At := l.map fun a => (a.1, a.2 + k)
/-- the value of an atom -/
def val (env : List Int) (a : At) : Int := if a.1 = -1 then a.2 else env.getD a.1.toNat 0 + a.2
def value (env : List Int) : List At → Int
  | [] => 0
  | a :: r => max (val env a) (value env r)
theorem value_ge (env : List Int) (l : List At) : 0 ≤ value env l := by
  induction l with
  | nil => simp [value]
  | cons a r ih => simp only [value]; omega
theorem value_append (env : List Int) (a b : List At) : value env (a ++ b) = max (value env a) (value env b) := by
  induction a with
  | nil => simp only [List.nil_append, value]; have := value_ge env b; omega
  | cons x r ih => simp only [List.cons_append, value, ih]; omega
end Go.Proofs.YtgebjnoicgmdoaaGreatDoor.Nm

namespace Go.Proofs.YtgebjnoicgmdoaaGreatDoor.Nm

/-- the atoms at the places 0 .. n - 1 (place i: param i - 1) -/
def readOut (u : Int → Bool) (o : Int → Int) : Nat → List At
  | 0 => []
  | n + 1 => readOut u o n ++ if u ((n : Int) - 1) = true then [((n : Int) - 1, o ((n : Int) - 1))] else []
theorem readOut_succ (u : Int → Bool) (o : Int → Int) (n : Nat) : readOut u o (n + 1) = readOut u o n ++ if u ((n : Int) - 1) = true then [((n : Int) - 1, o ((n : Int) - 1))] else [] := rfl
theorem readOut_len (u : Int → Bool) (o : Int → Int) (n : Nat) : (readOut u o n).length ≤ n := by
  induction n with
  | zero => simp [readOut]
  | succ n ih => rw [readOut_succ, List.length_append]; split <;> simp <;> omega
theorem readOut_congr {u u' : Int → Bool} {o o' : Int → Int} (n : Nat) (h : ∀ p : Int, -1 ≤ p → p < (n : Int) - 1 → u p = u' p ∧ (u p = true → o p = o' p)) : readOut u o n = readOut u' o' n := by
  induction n with
  | zero => rfl
  | succ n ih =>
    have h1 := h ((n : Int) - 1) (by omega) (by omega)
    rw [readOut_succ, readOut_succ, ih (fun p h1 h2 => h p h1 (by omega)), ← h1.1]
    by_cases hu : u ((n : Int) - 1) = true
    · rw [if_pos hu, if_pos hu, h1.2 hu]
    · rw [if_neg hu, if_neg hu]
def keepB (l : List At) (p : Int) : Bool := if p = -1 then decide (most l 5 < best (-1) l) else decide (0 ≤ best p l)
theorem readOut_norm (l : List At) : readOut (keepB l) (fun p => best p l) 6 = norm l := by
  simp [readOut, keepB, norm, pars, List.append_assoc]

theorem mem_readOut {u : Int → Bool} {o : Int → Int} {n : Nat} {a : At} : a ∈ readOut u o n ↔ -1 ≤ a.1 ∧ a.1 < (n : Int) - 1 ∧ u a.1 = true ∧ a.2 = o a.1 := by
  induction n with
  | zero => simp [readOut]; omega
  | succ n ih =>
    rw [readOut_succ, List.mem_append, ih]
    obtain ⟨p, x⟩ := a
    constructor
    · rintro (h | h)
      · exact ⟨h.1, by have := h.2.1; simp at this ⊢; omega, h.2.2⟩
      · split at h
        · rename_i hu
          simp only [List.mem_singleton, Prod.mk.injEq] at h
          obtain ⟨rfl, rfl⟩ := h
          exact ⟨by omega, by simp; omega, hu, rfl⟩
        · simp at h
    · rintro ⟨h1, h2, h3, h4⟩
      simp only at h1 h2 h3 h4
      by_cases e : p = (n : Int) - 1
      · subst e; subst h4
        right; rw [if_pos h3]; simp
      · left; exact ⟨h1, by simp only; omega, h3, h4⟩
theorem readOut_sorted (u : Int → Bool) (o : Int → Int) (n : Nat) : (readOut u o n).Pairwise (fun a b => a.1 < b.1) := by
  induction n with
  | zero => simp [readOut]
  | succ n ih =>
    rw [readOut_succ, List.pairwise_append]
    refine ⟨ih, by split <;> simp, ?_⟩
    intro a ha b hb
    have h1 := (mem_readOut.1 ha).2.1
    split at hb
    · simp only [List.mem_singleton] at hb; subst hb; exact h1
    · simp at hb
theorem mem_norm {l : List At} {a : At} : a ∈ norm l ↔ -1 ≤ a.1 ∧ a.1 < 5 ∧ keepB l a.1 = true ∧ a.2 = best a.1 l := by
  rw [← readOut_norm, mem_readOut]
  constructor
  · rintro ⟨h1, h2, h3⟩; exact ⟨h1, by simp at h2; omega, h3⟩
  · rintro ⟨h1, h2, h3⟩; exact ⟨h1, by simp; omega, h3⟩
theorem norm_sorted (l : List At) : (norm l).Pairwise (fun a b => a.1 < b.1) := by rw [← readOut_norm]; exact readOut_sorted _ _ _

/-- two rows in strictly increasing order with the same atoms are one -/
theorem sorted_ext : ∀ {a b : List At}, a.Pairwise (fun x y => x.1 < y.1) → b.Pairwise (fun x y => x.1 < y.1) → (∀ x, x ∈ a ↔ x ∈ b) → a = b
  | [], [], _, _, _ => rfl
  | [], y :: t, _, _, h => absurd ((h y).2 (by simp)) (by simp)
  | x :: s, [], _, _, h => absurd ((h x).1 (by simp)) (by simp)
  | x :: s, y :: t, ha, hb, h => by
    rw [List.pairwise_cons] at ha hb
    have e : x = y := by
      rcases List.mem_cons.1 ((h x).1 (by simp)) with e | h1
      · exact e
      · rcases List.mem_cons.1 ((h y).2 (by simp)) with e | h2
        · exact e.symm
        · have := ha.1 y h2; have := hb.1 x h1; omega
    subst e
    congr 1
    refine sorted_ext ha.2 hb.2 fun z => ?_
    constructor
    · intro hz
      rcases List.mem_cons.1 ((h z).1 (List.mem_cons_of_mem _ hz)) with rfl | h1
      · have := ha.1 z hz; omega
      · exact h1
    · intro hz
      rcases List.mem_cons.1 ((h z).2 (List.mem_cons_of_mem _ hz)) with rfl | h1
      · have := hb.1 z hz; omega
      · exact h1

theorem mem_getD {l : List At} {k : Nat} (hk : k < l.length) : l.getD k (0, 0) ∈ l := by
  rw [List.getD_eq_getElem?_getD, List.getElem?_eq_getElem hk]; exact List.getElem_mem hk
theorem getD_of_mem {l : List At} {a : At} (h : a ∈ l) : ∃ k, k < l.length ∧ l.getD k (0, 0) = a := by
  obtain ⟨k, hk, e⟩ := List.mem_iff_getElem.1 h
  exact ⟨k, hk, by rw [List.getD_eq_getElem?_getD, List.getElem?_eq_getElem hk]; exact e⟩
theorem AllOk.mem {l : List At} (h : AllOk l) {a : At} (ha : a ∈ l) : -1 ≤ a.1 ∧ a.1 < 5 ∧ 0 ≤ a.2 ∧ a.2 ≤ 1000 := by
  obtain ⟨k, hk, rfl⟩ := getD_of_mem ha
  exact (atOk_iff _).1 (h k hk)
theorem allOk_of_mem {l : List At} (h : ∀ a ∈ l, atOk a = true) : AllOk l := fun _ hk => h _ (mem_getD hk)
theorem Incr.sorted {l : List At} (h : Incr l) : l.Pairwise (fun a b => a.1 < b.1) := by
  rw [List.pairwise_iff_getElem]
  intro i j hi hj hij
  have := h.lt hij hj
  simpa [List.getD_eq_getElem?_getD, List.getElem?_eq_getElem hi, List.getElem?_eq_getElem hj] using this
theorem incr_of_sorted {l : List At} (h : l.Pairwise (fun a b => a.1 < b.1)) : Incr l := by
  intro k h0 hk
  rw [List.pairwise_iff_getElem] at h
  have := h (k - 1) k (by omega) hk (by omega)
  simpa [List.getD_eq_getElem?_getD, List.getElem?_eq_getElem hk, List.getElem?_eq_getElem (show k - 1 < l.length by omega)] using this

/-- the norm's rule on its number, atom by atom -/
def NumOk (l : List At) : Prop := ∀ x y p, (-1, x) ∈ l → (p, y) ∈ l → p ≠ -1 → y < x
theorem Ok.num {l : List At} (h : Ok l) : NumOk l := by
  intro x y p hx hy hp
  obtain ⟨i, hi, ei⟩ := getD_of_mem hx
  obtain ⟨j, hj, ej⟩ := getD_of_mem hy
  have hi0 : i = 0 := by
    rcases Nat.eq_zero_or_pos i with e | e
    · exact e
    · have h1 := h.2.2.1.lt e hi
      have h2 := (atOk_iff _).1 (h.2.1 0 (by omega))
      rw [ei] at h1; simp only at h1; omega
  subst hi0
  have hj0 : j ≠ 0 := by
    intro e; subst e
    have e := ei.symm.trans ej
    injection e with e1 e2
    exact hp e1.symm
  have h1 := h.2.2.2 (by rw [ei]) (j - 1) (by simp; omega)
  rw [getD_drop1, ei, show j - 1 + 1 = j by omega, ej] at h1
  exact h1
theorem ok_of {l : List At} (h0 : l ≠ []) (h1 : AllOk l) (h2 : l.Pairwise (fun a b => a.1 < b.1)) (h3 : NumOk l) : Ok l := by
  have hl : 1 ≤ l.length := by
    rcases l with _ | ⟨a, r⟩
    · exact absurd rfl h0
    · simp
  refine ⟨hl, h1, incr_of_sorted h2, fun e k hk => ?_⟩
  rw [List.length_drop] at hk
  rw [getD_drop1]
  have hlt := (incr_of_sorted h2).lt (i := 0) (j := k + 1) (by omega) (by omega)
  have hm0 : ((-1 : Int), (l.getD 0 (0, 0)).2) ∈ l := by
    rw [← e]
    exact mem_getD (by omega)
  have hm1 : ((l.getD (k + 1) (0, 0)).1, (l.getD (k + 1) (0, 0)).2) ∈ l := mem_getD (l := l) (k := k + 1) (by omega)
  exact h3 _ _ _ hm0 hm1 (by omega)

theorem best_nonneg {l : List At} (h : AllOk l) {p : Int} (hb : best p l ≠ -1) : 0 ≤ best p l := (h.mem (best_at hb)).2.2.1
theorem most_at (l : List At) (n : Nat) (h : most l n ≠ -1) : ∃ q : Int, 0 ≤ q ∧ q < n ∧ most l n = best q l := by
  induction n with
  | zero => simp [most] at h
  | succ n ih =>
    simp only [most] at h ⊢
    by_cases hm : most l n ≤ best n l
    · exact ⟨n, by omega, by omega, by omega⟩
    · obtain ⟨q, h1, h2, h3⟩ := ih (by have := best_ge n l; omega)
      exact ⟨q, h1, by omega, by omega⟩
theorem most_le (l : List At) (n : Nat) (q : Int) (h0 : 0 ≤ q) (hq : q < n) : best q l ≤ most l n := by
  induction n with
  | zero => omega
  | succ n ih =>
    simp only [most]
    by_cases e : q = n
    · subst e; omega
    · have := ih (by omega); omega

/-- a norm is its own norm -/
theorem best_of_sorted {l : List At} (hs : l.Pairwise (fun a b => a.1 < b.1)) {p x : Int} (h : (p, x) ∈ l) (hx : -1 ≤ x) : best p l = x := by
  have h1 := best_mem h
  have h2 := best_at (p := p) (l := l)
  by_cases e : best p l = -1
  · omega
  · have h3 := h2 e
    rcases List.mem_iff_getElem.1 h with ⟨i, hi, ei⟩
    rcases List.mem_iff_getElem.1 h3 with ⟨j, hj, ej⟩
    rw [List.pairwise_iff_getElem] at hs
    rcases Nat.lt_trichotomy i j with hij | hij | hij
    · have := hs i j hi hj hij; rw [ei, ej] at this; simp at this
    · subst hij; rw [ei] at ej; injection ej with _ e2; exact e2.symm
    · have := hs j i hj hi hij; rw [ei, ej] at this; simp at this
theorem keepB_cases {l : List At} {p : Int} (h : keepB l p = true) : best p l ≠ -1 := by
  unfold keepB at h
  split at h
  · rename_i e; subst e; simp at h; have := most_ge l 5; omega
  · simp at h; omega
theorem norm_sub {l : List At} {a : At} (h : a ∈ norm l) : a ∈ l := by
  obtain ⟨_, _, h3, h4⟩ := mem_norm.1 h
  obtain ⟨p, x⟩ := a
  simp only at h3 h4
  rw [h4]
  exact best_at (keepB_cases h3)
theorem norm_ne {l : List At} (h0 : l ≠ []) (h : AllOk l) : norm l ≠ [] := by
  obtain ⟨a, ha⟩ := List.exists_mem_of_ne_nil l h0
  have hb := h.mem ha
  obtain ⟨p, x⟩ := a
  have hbm := best_mem ha
  simp only at hb
  intro e
  by_cases ep : p = -1
  · subst ep
    by_cases hm : most l 5 < best (-1) l
    · have : ((-1 : Int), best (-1) l) ∈ norm l := mem_norm.2 ⟨by simp, by simp, by simp [keepB, hm], rfl⟩
      rw [e] at this; simp at this
    · obtain ⟨q, q1, q2, q3⟩ := most_at l 5 (by omega)
      have : (q, best q l) ∈ norm l := mem_norm.2 ⟨by simp; omega, by simp; omega, by simp [keepB, show q ≠ -1 by omega]; omega, rfl⟩
      rw [e] at this; simp at this
  · have : (p, best p l) ∈ norm l := mem_norm.2 ⟨by simp; omega, by simp; omega, by simp [keepB, ep]; omega, rfl⟩
    rw [e] at this; simp at this
theorem norm_ok {l : List At} (h0 : l ≠ []) (h : AllOk l) : Ok (norm l) := by
  refine ok_of (norm_ne h0 h) (allOk_of_mem fun a ha => (atOk_iff a).2 (h.mem (norm_sub ha))) (norm_sorted l) ?_
  intro x y p hx hy hp
  obtain ⟨_, _, h3, h4⟩ := mem_norm.1 hx
  obtain ⟨g1, g2, g3, g4⟩ := mem_norm.1 hy
  simp only at h3 h4 g1 g2 g3 g4
  simp [keepB] at h3
  have := most_le l 5 p (by omega) (by omega)
  omega
end Go.Proofs.YtgebjnoicgmdoaaGreatDoor.Nm

namespace Go.Proofs.YtgebjnoicgmdoaaGreatDoor.Nm

theorem value_mem {env : List Int} {l : List At} {a : At} (h : a ∈ l) : val env a ≤ value env l := by
  induction l with
  | nil => simp at h
  | cons b r ih =>
    simp only [value]
    rcases List.mem_cons.1 h with rfl | h
    · omega
    · have := ih h; omega
theorem value_le {env : List Int} {l : List At} {v : Int} (h0 : 0 ≤ v) (h : ∀ a ∈ l, val env a ≤ v) : value env l ≤ v := by
  induction l with
  | nil => simpa [value] using h0
  | cons b r ih =>
    simp only [value]
    have := h b (by simp)
    have := ih (fun a ha => h a (List.mem_cons_of_mem _ ha))
    omega
/-- all numbers of an env are 0 or more -/
def Pos (env : List Int) : Prop := ∀ x ∈ env, 0 ≤ x
theorem Pos.get {env : List Int} (h : Pos env) (k : Nat) : 0 ≤ env.getD k 0 := by
  rw [List.getD_eq_getElem?_getD]
  cases hg : env[k]? with
  | none => simp
  | some y => exact h y (List.mem_of_getElem? hg)
theorem val_ge {env : List Int} (hp : Pos env) (a : At) : a.2 ≤ val env a := by
  unfold val
  have := hp.get a.1.toNat
  split <;> omega
theorem value_norm {env : List Int} (hp : Pos env) {l : List At} (h : AllOk l) : value env (norm l) = value env l := by
  apply Int.le_antisymm
  · exact value_le (value_ge _ _) fun a ha => value_mem (norm_sub ha)
  · refine value_le (value_ge _ _) fun a ha => ?_
    obtain ⟨p, x⟩ := a
    have hb := h.mem ha
    have hbm := best_mem ha
    simp only at hb
    by_cases ep : p = -1
    · subst ep
      by_cases hm : most l 5 < best (-1) l
      · have h1 : ((-1 : Int), best (-1) l) ∈ norm l := mem_norm.2 ⟨by simp, by simp, by simp [keepB, hm], rfl⟩
        have h2 := value_mem (env := env) h1
        simp [val] at h2 ⊢
        omega
      · obtain ⟨q, q1, q2, q3⟩ := most_at l 5 (by omega)
        have h1 : (q, best q l) ∈ norm l := mem_norm.2 ⟨by simp; omega, by simp; omega, by simp [keepB, show q ≠ -1 by omega]; omega, rfl⟩
        have h2 := value_mem (env := env) h1
        have h3 := val_ge hp (q, best q l)
        simp only [val, if_true] at h2 h3 ⊢
        simp only [show ¬ q = -1 by omega, if_false] at h2 h3
        omega
    · have h1 : (p, best p l) ∈ norm l := mem_norm.2 ⟨by simp; omega, by simp; omega, by simp [keepB, ep]; omega, rfl⟩
      have h2 := value_mem (env := env) h1
      simp only [val, ep, if_false] at h2 ⊢
      omega
theorem value_up {env : List Int} (hp : Pos env) {l : List At} (h0 : l ≠ []) (h : AllOk l) {k : Int} (hk : 0 ≤ k) : value env (up k l) = value env l + k := by
  have hv : ∀ a : At, val env (a.1, a.2 + k) = val env a + k := by
    intro a; unfold val; simp only; split <;> omega
  have hmap : ∀ a ∈ l, (a.1, a.2 + k) ∈ up k l := fun a ha => List.mem_map.2 ⟨a, ha, rfl⟩
  obtain ⟨a0, ha0⟩ := List.exists_mem_of_ne_nil l h0
  have hge0 : k ≤ value env (up k l) := by
    have h1 := value_mem (env := env) (hmap a0 ha0)
    have h2 := hv a0
    have h3 := val_ge hp a0
    have h4 := h.mem ha0
    omega
  apply Int.le_antisymm
  · refine value_le (by have := value_ge env l; omega) fun b hb => ?_
    obtain ⟨a, ha, rfl⟩ := List.mem_map.1 hb
    have h1 := value_mem (env := env) ha
    have h2 := hv a
    omega
  · have : value env l ≤ value env (up k l) - k := value_le (by omega) fun a ha => by
      have h1 := value_mem (env := env) (hmap a ha)
      have h2 := hv a
      omega
    omega

/-- comparison, atom by atom -/
def Le (a b : List At) : Prop := ∀ x ∈ a, ∃ y ∈ b, (x.1 = -1 ∨ x.1 = y.1) ∧ x.2 ≤ y.2
theorem Le.value {env : List Int} (hp : Pos env) {a b : List At} (h : Le a b) : value env a ≤ value env b := by
  refine value_le (value_ge _ _) fun x hx => ?_
  obtain ⟨y, hy, h1, h2⟩ := h x hx
  have h3 := value_mem (env := env) hy
  have h4 := val_ge hp y
  obtain ⟨p, u⟩ := x
  obtain ⟨q, v⟩ := y
  simp only at h1 h2 h4
  by_cases ep : p = -1
  · simp only [val, ep, if_true]; omega
  · rcases h1 with h1 | h1
    · exact absurd h1 ep
    · subst h1
      simp only [val, ep, if_false] at h3 ⊢
      omega
/-- what is at most each other is one -/
theorem le_antisymm {a b : List At} (ha : Ok a) (hb : Ok b) (h1 : Le a b) (h2 : Le b a) : a = b := by
  have H : ∀ {a b : List At}, Ok a → Ok b → Le a b → Le b a → ∀ x ∈ a, x ∈ b := by
    intro a b ha hb h1 h2 x hx
    obtain ⟨p, u⟩ := x
    obtain ⟨⟨q, v⟩, hy, e1, l1⟩ := h1 _ hx
    simp only at e1 l1
    by_cases ep : p = -1
    · subst ep
      by_cases eq : q = -1
      · subst eq
        -- both numbers: the other way round
        obtain ⟨⟨r, z⟩, hz, _, l2⟩ := h2 _ hy
        simp only at l2
        by_cases er : r = -1
        · subst er
          have e := best_of_sorted ha.2.2.1.sorted hz (by have := (ha.2.1.mem hz).2.2.1; simp at this; omega)
          have e' := best_of_sorted ha.2.2.1.sorted hx (by have := (ha.2.1.mem hx).2.2.1; simp at this; omega)
          rw [show u = v by omega]; exact hy
        · have := ha.num u z r hx hz er; omega
      · obtain ⟨⟨r, z⟩, hz, e2, l2⟩ := h2 _ hy
        simp only at e2 l2
        have er : r ≠ -1 := by omega
        have := ha.num u z r hx hz er; omega
    · have eq : p = q := by omega
      subst eq
      obtain ⟨⟨r, z⟩, hz, e2, l2⟩ := h2 _ hy
      simp only at e2 l2
      have er : p = r := by omega
      subst er
      have e := best_of_sorted ha.2.2.1.sorted hz (by have := (ha.2.1.mem hz).2.2.1; simp at this; omega)
      have e' := best_of_sorted ha.2.2.1.sorted hx (by have := (ha.2.1.mem hx).2.2.1; simp at this; omega)
      rw [show u = v by omega]; exact hy
  exact sorted_ext ha.2.2.1.sorted hb.2.2.1.sorted fun x => ⟨H ha hb h1 h2 x, H hb ha h2 h1 x⟩
theorem le_refl (a : List At) : Le a a := fun x hx => ⟨x, hx, .inr rfl, by omega⟩
theorem AllOk.append {a b : List At} (ha : AllOk a) (hb : AllOk b) : AllOk (a ++ b) := by
  refine allOk_of_mem fun x hx => (atOk_iff x).2 ?_
  rcases List.mem_append.1 hx with h | h
  · exact ha.mem h
  · exact hb.mem h
theorem most_congr {a b : List At} (n : Nat) (hn : n ≤ 5) (h : ∀ p : Int, 0 ≤ p → p < 5 → best p a = best p b) : most a n = most b n := by
  induction n with
  | zero => rfl
  | succ n ih => simp only [most]; rw [ih (by omega), h n (by omega) (by omega)]
theorem most_append (a b : List At) (n : Nat) : most (a ++ b) n = max (most a n) (most b n) := by
  induction n with
  | zero => simp [most]
  | succ n ih => simp only [most]; rw [ih, best_append]; omega
theorem best_up {l : List At} (k : Int) (hk : 0 ≤ k) (h : AllOk l) (p : Int) : best p (up k l) = if best p l = -1 then -1 else best p l + k := by
  induction l with
  | nil => simp [up, best]
  | cons a r ih =>
    have hr : AllOk r := fun j hj => by have := h (j + 1) (by simpa using hj); simpa using this
    have h0 := (atOk_iff _).1 (h 0 (by simp))
    simp at h0
    have := ih hr
    have hg := best_ge p r
    simp only [up, List.map_cons, best] at this ⊢
    by_cases e : a.1 = p
    · simp only [e, if_true]
      rw [this]
      split <;> split <;> omega
    · simp only [e, if_false]
      exact this
theorem most_up {l : List At} (k : Int) (hk : 0 ≤ k) (h : AllOk l) (n : Nat) : most (up k l) n = if most l n = -1 then -1 else most l n + k := by
  induction n with
  | zero => simp [most]
  | succ n ih =>
    have e0 : most (up k l) (n + 1) = max (most (up k l) n) (best n (up k l)) := rfl
    have e3 : most l (n + 1) = max (most l n) (best n l) := rfl
    have e4 := best_up k hk h n
    have := most_ge l n
    have := best_ge n l
    by_cases e1 : most l n = -1 <;> by_cases e2 : best n l = -1
    · rw [if_pos e1] at ih; rw [if_pos e2] at e4; rw [if_pos (by omega)]; omega
    · rw [if_pos e1] at ih; rw [if_neg e2] at e4; rw [if_neg (by omega)]; omega
    · rw [if_neg e1] at ih; rw [if_pos e2] at e4; rw [if_neg (by omega)]; omega
    · rw [if_neg e1] at ih; rw [if_neg e2] at e4; rw [if_neg (by omega)]; omega
theorem AllOk.up {l : List At} (h : AllOk l) (hu : ∀ a ∈ l, a.2 < 1000) : AllOk (up 1 l) := by
  refine allOk_of_mem fun x hx => ?_
  obtain ⟨a, ha, rfl⟩ := List.mem_map.1 hx
  have h1 := h.mem ha
  have h2 := hu a ha
  exact (atOk_iff _).2 ⟨h1.1, h1.2.1, by simp only; omega, by simp only; omega⟩
end Go.Proofs.YtgebjnoicgmdoaaGreatDoor.Nm

namespace Go.Proofs.YtgebjnoicgmdoaaGreatDoor

namespace Sg
/-- a sign, a parameter, and the parameter's bit is 1 -/
def has (s p : Int) : Bool := decide (0 ≤ s ∧ s ≤ 31 ∧ 0 ≤ p ∧ p < 5 ∧ s / 2 ^ p.toNat % 2 = 1)
/-- a sign -/
def isSign (s : Int) : Bool := decide (0 ≤ s ∧ s ≤ 31)
/-- a parameter -/
def isPar (p : Int) : Bool := decide (0 ≤ p ∧ p < 5)
/-- the bits of values, the first one the least -/
def bits : List Int → Int
  | [] => 0
  | v :: l => (if v > 0 then 1 else 0) + 2 * bits l
/-- the value of a parameter in the least env of a sign -/
def bit (s p : Int) : Int := if has s p then 1 else 0
/-- the least env of a sign -/
def least (s : Int) : List Int := [bit s 0, bit s 1, bit s 2, bit s 3, bit s 4]

theorem bits_nonneg (l : List Int) : 0 ≤ bits l := by
  induction l with
  | nil => simp [bits]
  | cons v l ih => unfold bits; split <;> omega
theorem bits_lt (l : List Int) : bits l < 2 ^ l.length := by
  induction l with
  | nil => simp [bits]
  | cons v l ih => unfold bits; rw [List.length_cons, Int.pow_succ]; split <;> omega
end Sg
end Go.Proofs.YtgebjnoicgmdoaaGreatDoor
