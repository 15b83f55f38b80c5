/- Plain functions on norms as lists of pairs of numbers (Param, Off): validity index by index, the norm of a list of atoms, values. Nothing of the program is imported. -/
namespace Go.Proofs.Ytmmhcpigcdlnmaa.Nm

abbrev At := Int × Int

def atOk (a : At) : Bool := decide (-1 ≤ a.1) && decide (a.1 < 5) && decide (0 ≤ a.2) && decide (a.2 ≤ 1000)
theorem atOk_iff (a : At) : atOk a = true ↔ -1 ≤ a.1 ∧ a.1 < 5 ∧ 0 ≤ a.2 ∧ a.2 ≤ 1000 := by simp [atOk, and_assoc]

def AllOk (l : List At) : Prop := ∀ k, k < l.length → atOk (l.getD k (0, 0)) = true
def Incr (l : List At) : Prop := ∀ k, 0 < k → k < l.length → (l.getD (k - 1) (0, 0)).1 < (l.getD k (0, 0)).1
def Exceeds (x : Int) (l : List At) : Prop := ∀ k, k < l.length → (l.getD k (0, 0)).2 < x
def Ok (l : List At) : Prop := 1 ≤ l.length ∧ AllOk l ∧ Incr l ∧ ((l.getD 0 (0, 0)).1 = -1 → Exceeds (l.getD 0 (0, 0)).2 (l.drop 1))

open Classical in
noncomputable def allOk (l : List At) : Bool := decide (AllOk l)
open Classical in
noncomputable def incr (l : List At) : Bool := decide (Incr l)
open Classical in
noncomputable def exceeds (x : Int) (l : List At) : Bool := decide (Exceeds x l)
open Classical in
noncomputable def normOk (l : List At) : Bool := decide (Ok l)

theorem allOk_iff (l : List At) : allOk l = true ↔ AllOk l := by simp [allOk]
theorem incr_iff (l : List At) : incr l = true ↔ Incr l := by simp [incr]
theorem exceeds_iff (x : Int) (l : List At) : exceeds x l = true ↔ Exceeds x l := by simp [exceeds]
theorem normOk_iff (l : List At) : normOk l = true ↔ Ok l := by simp [normOk]
theorem allOk_no {l : List At} (h : ¬ AllOk l) : allOk l = false := by simp [allOk, h]
theorem incr_no {l : List At} (h : ¬ Incr l) : incr l = false := by simp [incr, h]
theorem exceeds_no {x : Int} {l : List At} (h : ¬ Exceeds x l) : exceeds x l = false := by simp [exceeds, h]
theorem normOk_no {l : List At} (h : ¬ Ok l) : normOk l = false := by simp [normOk, h]

theorem getD_drop1 (l : List At) (k : Nat) : (l.drop 1).getD k (0, 0) = l.getD (k + 1) (0, 0) := by
  simp [List.getD_eq_getElem?_getD]

/-- strictly increasing params: of any two the later one is greater -/
theorem Incr.lt {l : List At} (h : Incr l) {i j : Nat} (hij : i < j) (hj : j < l.length) : (l.getD i (0, 0)).1 < (l.getD j (0, 0)).1 := by
  induction j with
  | zero => omega
  | succ j ih =>
    have h1 := h (j + 1) (by omega) hj
    simp only [Nat.add_sub_cancel] at h1
    by_cases e : i = j
    · subst e; exact h1
    · have := ih (by omega) (by omega); omega
theorem Ok.len {l : List At} (h : Ok l) : l.length ≤ 6 := by
  have H : ∀ k, k < l.length → (k : Int) - 1 ≤ (l.getD k (0, 0)).1 := by
    intro k
    induction k with
    | zero => intro hk; have := (atOk_iff _).1 (h.2.1 0 hk); omega
    | succ k ih =>
      intro hk
      have h1 := ih (by omega)
      have h2 := h.2.2.1 (k + 1) (by omega) hk
      simp only [Nat.add_sub_cancel] at h2
      omega
  by_cases hl : l.length ≤ 6
  · exact hl
  · have h1 := H 6 (by omega)
    have h2 := (atOk_iff _).1 (h.2.1 6 (by omega))
    omega

/-- the greatest Off of the atoms with that Param; -1 if there is none -/
def best (p : Int) : List At → Int
  | [] => -1
  | a :: r => if a.1 = p then max a.2 (best p r) else best p r
theorem best_ge (p : Int) (l : List At) : -1 ≤ best p l := by
  induction l with
  | nil => simp [best]
  | cons a r ih => simp only [best]; split <;> omega
theorem best_append (p : Int) (a b : List At) : best p (a ++ b) = max (best p a) (best p b) := by
  induction a with
  | nil => simp only [List.nil_append, best]; have := best_ge p b; omega
  | cons x r ih => simp only [List.cons_append, best, ih]; split <;> omega
theorem best_one (p : Int) (a : At) : best p [a] = if a.1 = p then max a.2 (-1) else -1 := by simp [best]
theorem best_take (p : Int) (l : List At) (k : Nat) (hk : k < l.length) : best p (l.take (k + 1)) = if (l.getD k (0, 0)).1 = p then max (best p (l.take k)) (l.getD k (0, 0)).2 else best p (l.take k) := by
  have e : l.getD k (0, 0) = l[k] := by simp [List.getD_eq_getElem?_getD, List.getElem?_eq_getElem hk]
  rw [List.take_succ_eq_append_getElem hk, best_append, best_one, e]
  have := best_ge p (l.take k)
  split <;> omega
theorem best_le (p : Int) {l : List At} (h : AllOk l) : best p l ≤ 1000 := by
  induction l with
  | nil => simp [best]
  | cons a r ih =>
    have h0 := (atOk_iff _).1 (h 0 (by simp))
    have h1 := ih (fun k hk => by have := h (k + 1) (by simpa using hk); simpa using this)
    simp only [best]
    simp at h0
    split <;> omega
/-- an atom's Off is at most the best one of its Param -/
theorem best_mem {p x : Int} {l : List At} (h : (p, x) ∈ l) : x ≤ best p l := by
  induction l with
  | nil => simp at h
  | cons a r ih =>
    simp only [best]
    rcases List.mem_cons.1 h with rfl | h
    · simp; omega
    · have := ih h; split <;> omega
theorem best_at {p : Int} {l : List At} (h : best p l ≠ -1) : (p, best p l) ∈ l := by
  induction l with
  | nil => simp [best] at h
  | cons a r ih =>
    simp only [best] at h ⊢
    obtain ⟨a1, a2⟩ := a
    by_cases e : a1 = p
    · subst e
      simp only [if_true] at h ⊢
      by_cases hm : best a1 r ≤ a2
      · rw [show max a2 (best a1 r) = a2 by omega]; simp
      · rw [show max a2 (best a1 r) = best a1 r by omega] at h ⊢
        exact List.mem_cons_of_mem _ (ih h)
    · simp only [e, if_false] at h ⊢
      exact List.mem_cons_of_mem _ (ih h)

/-- the atoms with params 0 .. n - 1 of the norm -/
def pars (l : List At) : Nat → List At
  | 0 => []
  | n + 1 => pars l n ++ if 0 ≤ best n l then [((n : Int), best n l)] else []
theorem pars_succ (l : List At) (n : Nat) : pars l (n + 1) = pars l n ++ if 0 ≤ best n l then [((n : Int), best n l)] else [] := rfl
theorem pars_len (l : List At) (n : Nat) : (pars l n).length ≤ n := by
  induction n with
  | zero => simp [pars]
  | succ n ih => rw [pars_succ, List.length_append]; split <;> simp <;> omega
/-- the greatest Off among params 0 .. n - 1; -1 if there is none -/
def most (l : List At) : Nat → Int
  | 0 => -1
  | n + 1 => max (most l n) (best n l)
theorem most_ge (l : List At) (n : Nat) : -1 ≤ most l n := by
  induction n with
  | zero => simp [most]
  | succ n ih => simp only [most]; omega
/-- the norm -/
def norm (l : List At) : List At := (if most l 5 < best (-1) l then [((-1 : Int), best (-1) l)] else []) ++ pars l 5
theorem norm_len (l : List At) : (norm l).length ≤ 6 := by
  have := pars_len l 5
  unfold norm
  split <;> simp <;> omega
open Classical in
noncomputable def normOf (l : List At) : Option (List At) := if 1 ≤ l.length ∧ l.length ≤ 100 ∧ AllOk l then some (norm l) else none
theorem normOf_len (l : List At) : ((normOf l).getD []).length ≤ 6 := by
  unfold normOf
  split
  · exact norm_len l
  · simp

def up (k : Int) (l : List At) : List At := l.map fun a => (a.1, a.2 + k)
noncomputable def normUp (l : List At) (k : Int) : Option (List At) := if normOk l = true ∧ 0 ≤ k ∧ k ≤ 1000 ∧ normOk (up k l) = true then some (up k l) else none
theorem normUp_len (l : List At) (k : Int) : ((normUp l k).getD []).length ≤ 6 := by
  unfold normUp
  split
  · rename_i h; exact ((normOk_iff _).1 h.2.2.2).len
  · simp
noncomputable def normMax (a b : List At) : Option (List At) := if normOk a = true ∧ normOk b = true then some (norm (a ++ b)) else none
theorem normMax_len (a b : List At) : ((normMax a b).getD []).length ≤ 6 := by
  unfold normMax
  split
  · exact norm_len _
  · simp

/-- the value of an atom -/
def val (env : List Int) (a : At) : Int := if a.1 = -1 then a.2 else env.getD a.1.toNat 0 + a.2
def value (env : List Int) : List At → Int
  | [] => 0
  | a :: r => max (val env a) (value env r)
theorem value_ge (env : List Int) (l : List At) : 0 ≤ value env l := by
  induction l with
  | nil => simp [value]
  | cons a r ih => simp only [value]; omega
theorem value_append (env : List Int) (a b : List At) : value env (a ++ b) = max (value env a) (value env b) := by
  induction a with
  | nil => simp only [List.nil_append, value]; have := value_ge env b; omega
  | cons x r ih => simp only [List.cons_append, value, ih]; omega
theorem value_take (env : List Int) (l : List At) (k : Nat) (hk : k < l.length) : value env (l.take (k + 1)) = max (value env (l.take k)) (val env (l.getD k (0, 0))) := by
  have e : l.getD k (0, 0) = l[k] := by simp [List.getD_eq_getElem?_getD, List.getElem?_eq_getElem hk]
  rw [List.take_succ_eq_append_getElem hk, value_append, e]
  simp only [value]
  have := value_ge env (l.take k)
  omega

def atomLe (x : At) (b : List At) : Prop := ∃ k, k < b.length ∧ (x.1 = -1 ∨ x.1 = (b.getD k (0, 0)).1) ∧ x.2 ≤ (b.getD k (0, 0)).2
open Classical in
noncomputable def atomLeB (x : At) (b : List At) : Bool := decide (atomLe x b)
theorem atomLeB_iff (x : At) (b : List At) : atomLeB x b = true ↔ atomLe x b := by simp [atomLeB]
theorem atomLeB_no {x : At} {b : List At} (h : ¬ atomLe x b) : atomLeB x b = false := by simp [atomLeB, h]
open Classical in
noncomputable def normLe (a b : List At) : Bool := decide (Ok a ∧ Ok b ∧ ∀ k, k < a.length → atomLe (a.getD k (0, 0)) b)
theorem normLe_iff (a b : List At) : normLe a b = true ↔ Ok a ∧ Ok b ∧ ∀ k, k < a.length → atomLe (a.getD k (0, 0)) b := by simp [normLe]
theorem normLe_no {a b : List At} (h : ¬ (Ok a ∧ Ok b ∧ ∀ k, k < a.length → atomLe (a.getD k (0, 0)) b)) : normLe a b = false := by
  simp only [normLe, h, decide_false]
end Go.Proofs.Ytmmhcpigcdlnmaa.Nm
