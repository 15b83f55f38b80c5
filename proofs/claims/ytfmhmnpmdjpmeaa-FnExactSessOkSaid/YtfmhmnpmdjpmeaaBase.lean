/- Plain facts on norms: what a norm holds, that it is the only one with its values, and how values, joins and successors go. -/
/- Plain facts on norms: values, comparison, joins and successors of norms. -/
/- Signs as numbers: which parameters are positive, the sign of an env, the least env. -/
/- The machine's struct with its stack. -/
import Derived.Test.YtfmhmnpmdjpmeaaNMath
import Derived.Test.YtfmhmnpmdjpmeaaMarks

namespace Go.Proofs.Ytfmhmnpmdjpmeaa.Nm

/-- the atoms at the places 0 .. n - 1 (place i: param i - 1) -/
def readOut (u : Int → Bool) (o : Int → Int) : Nat → List At
  | 0 => []
  | n + 1 => readOut u o n ++ if u ((n : Int) - 1) = true then [((n : Int) - 1, o ((n : Int) - 1))] else []
theorem readOut_succ (u : Int → Bool) (o : Int → Int) (n : Nat) : readOut u o (n + 1) = readOut u o n ++ if u ((n : Int) - 1) = true then [((n : Int) - 1, o ((n : Int) - 1))] else [] := rfl
theorem mem_readOut {u : Int → Bool} {o : Int → Int} {n : Nat} {a : At} : a ∈ readOut u o n ↔ -1 ≤ a.1 ∧ a.1 < (n : Int) - 1 ∧ u a.1 = true ∧ a.2 = o a.1 := by
  induction n with
  | zero => simp [readOut]; omega
  | succ n ih =>
    rw [readOut_succ, List.mem_append, ih]
    obtain ⟨p, x⟩ := a
    constructor
    · rintro (h | h)
      · exact ⟨h.1, by have := h.2.1; simp at this ⊢; omega, h.2.2⟩
      · split at h
        · rename_i hu
          simp only [List.mem_singleton, Prod.mk.injEq] at h
          obtain ⟨rfl, rfl⟩ := h
          exact ⟨by omega, by simp; omega, hu, rfl⟩
        · simp at h
    · rintro ⟨h1, h2, h3, h4⟩
      simp only at h1 h2 h3 h4
      by_cases e : p = (n : Int) - 1
      · subst e; subst h4
        right; rw [if_pos h3]; simp
      · left; exact ⟨h1, by simp only; omega, h3, h4⟩
theorem readOut_sorted (u : Int → Bool) (o : Int → Int) (n : Nat) : (readOut u o n).Pairwise (fun a b => a.1 < b.1) := by
  induction n with
  | zero => simp [readOut]
  | succ n ih =>
    rw [readOut_succ, List.pairwise_append]
    refine ⟨ih, by split <;> simp, ?_⟩
    intro a ha b hb
    have h1 := (mem_readOut.1 ha).2.1
    split at hb
    · simp only [List.mem_singleton] at hb; subst hb; exact h1
    · simp at hb
/-- two rows in strictly increasing order with the same atoms are one -/
theorem sorted_ext : ∀ {a b : List At}, a.Pairwise (fun x y => x.1 < y.1) → b.Pairwise (fun x y => x.1 < y.1) → (∀ x, x ∈ a ↔ x ∈ b) → a = b
  | [], [], _, _, _ => rfl
  | [], y :: t, _, _, h => absurd ((h y).2 (by simp)) (by simp)
  | x :: s, [], _, _, h => absurd ((h x).1 (by simp)) (by simp)
  | x :: s, y :: t, ha, hb, h => by
    rw [List.pairwise_cons] at ha hb
    have e : x = y := by
      rcases List.mem_cons.1 ((h x).1 (by simp)) with e | h1
      · exact e
      · rcases List.mem_cons.1 ((h y).2 (by simp)) with e | h2
        · exact e.symm
        · have := ha.1 y h2; have := hb.1 x h1; omega
    subst e
    congr 1
    refine sorted_ext ha.2 hb.2 fun z => ?_
    constructor
    · intro hz
      rcases List.mem_cons.1 ((h z).1 (List.mem_cons_of_mem _ hz)) with rfl | h1
      · have := ha.1 z hz; omega
      · exact h1
    · intro hz
      rcases List.mem_cons.1 ((h z).2 (List.mem_cons_of_mem _ hz)) with rfl | h1
      · have := hb.1 z hz; omega
      · exact h1

theorem mem_getD {l : List At} {k : Nat} (hk : k < l.length) : l.getD k (0, 0) ∈ l := by
  rw [List.getD_eq_getElem?_getD, List.getElem?_eq_getElem hk]; exact List.getElem_mem hk
theorem getD_of_mem {l : List At} {a : At} (h : a ∈ l) : ∃ k, k < l.length ∧ l.getD k (0, 0) = a := by
  obtain ⟨k, hk, e⟩ := List.mem_iff_getElem.1 h
  exact ⟨k, hk, by rw [List.getD_eq_getElem?_getD, List.getElem?_eq_getElem hk]; exact e⟩
theorem AllOk.mem {l : List At} (h : AllOk l) {a : At} (ha : a ∈ l) : -1 ≤ a.1 ∧ a.1 < 5 ∧ 0 ≤ a.2 ∧ a.2 ≤ 1000 := by
  obtain ⟨k, hk, rfl⟩ := getD_of_mem ha
  exact (atOk_iff _).1 (h k hk)
theorem allOk_of_mem {l : List At} (h : ∀ a ∈ l, atOk a = true) : AllOk l := fun _ hk => h _ (mem_getD hk)
theorem Incr.sorted {l : List At} (h : Incr l) : l.Pairwise (fun a b => a.1 < b.1) := by
  rw [List.pairwise_iff_getElem]
  intro i j hi hj hij
  have := h.lt hij hj
  simpa [List.getD_eq_getElem?_getD, List.getElem?_eq_getElem hi, List.getElem?_eq_getElem hj] using this
theorem incr_of_sorted {l : List At} (h : l.Pairwise (fun a b => a.1 < b.1)) : Incr l := by
  intro k h0 hk
  rw [List.pairwise_iff_getElem] at h
  have := h (k - 1) k (by omega) hk (by omega)
  simpa [List.getD_eq_getElem?_getD, List.getElem?_eq_getElem hk, List.getElem?_eq_getElem (show k - 1 < l.length by omega)] using this

/-- the norm's rule on its number, atom by atom -/
def NumOk (l : List At) : Prop := ∀ x y p, (-1, x) ∈ l → (p, y) ∈ l → p ≠ -1 → y < x
theorem Ok.num {l : List At} (h : Ok l) : NumOk l := by
  intro x y p hx hy hp
  obtain ⟨i, hi, ei⟩ := getD_of_mem hx
  obtain ⟨j, hj, ej⟩ := getD_of_mem hy
  have hi0 : i = 0 := by
    rcases Nat.eq_zero_or_pos i with e | e
    · exact e
    · have h1 := h.2.2.1.lt e hi
      have h2 := (atOk_iff _).1 (h.2.1 0 (by omega))
      rw [ei] at h1; simp only at h1; omega
  subst hi0
  have hj0 : j ≠ 0 := by
    intro e; subst e
    have e := ei.symm.trans ej
    injection e with e1 e2
    exact hp e1.symm
  have h1 := h.2.2.2 (by rw [ei]) (j - 1) (by simp; omega)
  rw [getD_drop1, ei, show j - 1 + 1 = j by omega, ej] at h1
  exact h1
theorem best_nonneg {l : List At} (h : AllOk l) {p : Int} (hb : best p l ≠ -1) : 0 ≤ best p l := (h.mem (best_at hb)).2.2.1
theorem most_at (l : List At) (n : Nat) (h : most l n ≠ -1) : ∃ q : Int, 0 ≤ q ∧ q < n ∧ most l n = best q l := by
  induction n with
  | zero => simp [most] at h
  | succ n ih =>
    simp only [most] at h ⊢
    by_cases hm : most l n ≤ best n l
    · exact ⟨n, by omega, by omega, by omega⟩
    · obtain ⟨q, h1, h2, h3⟩ := ih (by have := best_ge n l; omega)
      exact ⟨q, h1, by omega, by omega⟩
theorem most_le (l : List At) (n : Nat) (q : Int) (h0 : 0 ≤ q) (hq : q < n) : best q l ≤ most l n := by
  induction n with
  | zero => omega
  | succ n ih =>
    simp only [most]
    by_cases e : q = n
    · subst e; omega
    · have := ih (by omega); omega

/-- a norm is its own norm -/
theorem best_of_sorted {l : List At} (hs : l.Pairwise (fun a b => a.1 < b.1)) {p x : Int} (h : (p, x) ∈ l) (hx : -1 ≤ x) : best p l = x := by
  have h1 := best_mem h
  have h2 := best_at (p := p) (l := l)
  by_cases e : best p l = -1
  · omega
  · have h3 := h2 e
    rcases List.mem_iff_getElem.1 h with ⟨i, hi, ei⟩
    rcases List.mem_iff_getElem.1 h3 with ⟨j, hj, ej⟩
    rw [List.pairwise_iff_getElem] at hs
    rcases Nat.lt_trichotomy i j with hij | hij | hij
    · have := hs i j hi hj hij; rw [ei, ej] at this; simp at this
    · subst hij; rw [ei] at ej; injection ej with _ e2; exact e2.symm
    · have := hs j i hj hi hij; rw [ei, ej] at this; simp at this
end Go.Proofs.Ytfmhmnpmdjpmeaa.Nm

namespace Go.Proofs.Ytfmhmnpmdjpmeaa.Nm

theorem value_mem {env : List Int} {l : List At} {a : At} (h : a ∈ l) : val env a ≤ value env l := by
  induction l with
  | nil => simp at h
  | cons b r ih =>
    simp only [value]
    rcases List.mem_cons.1 h with rfl | h
    · omega
    · have := ih h; omega
theorem value_le {env : List Int} {l : List At} {v : Int} (h0 : 0 ≤ v) (h : ∀ a ∈ l, val env a ≤ v) : value env l ≤ v := by
  induction l with
  | nil => simpa [value] using h0
  | cons b r ih =>
    simp only [value]
    have := h b (by simp)
    have := ih (fun a ha => h a (List.mem_cons_of_mem _ ha))
    omega
/-- all numbers of an env are 0 or more -/
def Pos (env : List Int) : Prop := ∀ x ∈ env, 0 ≤ x
theorem Pos.get {env : List Int} (h : Pos env) (k : Nat) : 0 ≤ env.getD k 0 := by
  rw [List.getD_eq_getElem?_getD]
  cases hg : env[k]? with
  | none => simp
  | some y => exact h y (List.mem_of_getElem? hg)
theorem val_ge {env : List Int} (hp : Pos env) (a : At) : a.2 ≤ val env a := by
  unfold val
  have := hp.get a.1.toNat
  split <;> omega
theorem value_up {env : List Int} (hp : Pos env) {l : List At} (h0 : l ≠ []) (h : AllOk l) {k : Int} (hk : 0 ≤ k) : value env (up k l) = value env l + k := by
  have hv : ∀ a : At, val env (a.1, a.2 + k) = val env a + k := by
    intro a; unfold val; simp only; split <;> omega
  have hmap : ∀ a ∈ l, (a.1, a.2 + k) ∈ up k l := fun a ha => List.mem_map.2 ⟨a, ha, rfl⟩
  obtain ⟨a0, ha0⟩ := List.exists_mem_of_ne_nil l h0
  have hge0 : k ≤ value env (up k l) := by
    have h1 := value_mem (env := env) (hmap a0 ha0)
    have h2 := hv a0
    have h3 := val_ge hp a0
    have h4 := h.mem ha0
    omega
  apply Int.le_antisymm
  · refine value_le (by have := value_ge env l; omega) fun b hb => ?_
    obtain ⟨a, ha, rfl⟩ := List.mem_map.1 hb
    have h1 := value_mem (env := env) ha
    have h2 := hv a
    omega
  · have : value env l ≤ value env (up k l) - k := value_le (by omega) fun a ha => by
      have h1 := value_mem (env := env) (hmap a ha)
      have h2 := hv a
      omega
    omega

/-- comparison, atom by atom -/
def Le (a b : List At) : Prop := ∀ x ∈ a, ∃ y ∈ b, (x.1 = -1 ∨ x.1 = y.1) ∧ x.2 ≤ y.2
theorem Le.value {env : List Int} (hp : Pos env) {a b : List At} (h : Le a b) : value env a ≤ value env b := by
  refine value_le (value_ge _ _) fun x hx => ?_
  obtain ⟨y, hy, h1, h2⟩ := h x hx
  have h3 := value_mem (env := env) hy
  have h4 := val_ge hp y
  obtain ⟨p, u⟩ := x
  obtain ⟨q, v⟩ := y
  simp only at h1 h2 h4
  by_cases ep : p = -1
  · simp only [val, ep, if_true]; omega
  · rcases h1 with h1 | h1
    · exact absurd h1 ep
    · subst h1
      simp only [val, ep, if_false] at h3 ⊢
      omega
/-- what is at most each other is one -/
theorem le_antisymm {a b : List At} (ha : Ok a) (hb : Ok b) (h1 : Le a b) (h2 : Le b a) : a = b := by
  have H : ∀ {a b : List At}, Ok a → Ok b → Le a b → Le b a → ∀ x ∈ a, x ∈ b := by
    intro a b ha hb h1 h2 x hx
    obtain ⟨p, u⟩ := x
    obtain ⟨⟨q, v⟩, hy, e1, l1⟩ := h1 _ hx
    simp only at e1 l1
    by_cases ep : p = -1
    · subst ep
      by_cases eq : q = -1
      · subst eq
        -- both numbers: the other way round
        obtain ⟨⟨r, z⟩, hz, _, l2⟩ := h2 _ hy
        simp only at l2
        by_cases er : r = -1
        · subst er
          have e := best_of_sorted ha.2.2.1.sorted hz (by have := (ha.2.1.mem hz).2.2.1; simp at this; omega)
          have e' := best_of_sorted ha.2.2.1.sorted hx (by have := (ha.2.1.mem hx).2.2.1; simp at this; omega)
          rw [show u = v by omega]; exact hy
        · have := ha.num u z r hx hz er; omega
      · obtain ⟨⟨r, z⟩, hz, e2, l2⟩ := h2 _ hy
        simp only at e2 l2
        have er : r ≠ -1 := by omega
        have := ha.num u z r hx hz er; omega
    · have eq : p = q := by omega
      subst eq
      obtain ⟨⟨r, z⟩, hz, e2, l2⟩ := h2 _ hy
      simp only at e2 l2
      have er : p = r := by omega
      subst er
      have e := best_of_sorted ha.2.2.1.sorted hz (by have := (ha.2.1.mem hz).2.2.1; simp at this; omega)
      have e' := best_of_sorted ha.2.2.1.sorted hx (by have := (ha.2.1.mem hx).2.2.1; simp at this; omega)
      rw [show u = v by omega]; exact hy
  exact sorted_ext ha.2.2.1.sorted hb.2.2.1.sorted fun x => ⟨H ha hb h1 h2 x, H hb ha h2 h1 x⟩
theorem le_refl (a : List At) : Le a a := fun x hx => ⟨x, hx, .inr rfl, by omega⟩
theorem AllOk.append {a b : List At} (ha : AllOk a) (hb : AllOk b) : AllOk (a ++ b) := by
  refine allOk_of_mem fun x hx => (atOk_iff x).2 ?_
  rcases List.mem_append.1 hx with h | h
  · exact ha.mem h
  · exact hb.mem h
theorem AllOk.up {l : List At} (h : AllOk l) (hu : ∀ a ∈ l, a.2 < 1000) : AllOk (up 1 l) := by
  refine allOk_of_mem fun x hx => ?_
  obtain ⟨a, ha, rfl⟩ := List.mem_map.1 hx
  have h1 := h.mem ha
  have h2 := hu a ha
  exact (atOk_iff _).2 ⟨h1.1, h1.2.1, by simp only; omega, by simp only; omega⟩
end Go.Proofs.Ytfmhmnpmdjpmeaa.Nm

namespace Go.Proofs.Ytfmhmnpmdjpmeaa

namespace Sg
/-- a sign, a parameter, and the parameter's bit is 1 -/
def has (s p : Int) : Bool := decide (0 ≤ s ∧ s ≤ 31 ∧ 0 ≤ p ∧ p < 5 ∧ s / 2 ^ p.toNat % 2 = 1)
/-- a sign -/
def isSign (s : Int) : Bool := decide (0 ≤ s ∧ s ≤ 31)
/-- the bits of values, the first one the least -/
def bits : List Int → Int
  | [] => 0
  | v :: l => (if v > 0 then 1 else 0) + 2 * bits l
/-- the value of a parameter in the least env of a sign -/
def bit (s p : Int) : Int := if has s p then 1 else 0
/-- the least env of a sign -/
def least (s : Int) : List Int := [bit s 0, bit s 1, bit s 2, bit s 3, bit s 4]

theorem bits_nonneg (l : List Int) : 0 ≤ bits l := by
  induction l with
  | nil => simp [bits]
  | cons v l ih => unfold bits; split <;> omega
theorem bits_lt (l : List Int) : bits l < 2 ^ l.length := by
  induction l with
  | nil => simp [bits]
  | cons v l ih => unfold bits; rw [List.length_cons, Int.pow_succ]; split <;> omega
end Sg
end Go.Proofs.Ytfmhmnpmdjpmeaa

namespace Go.Proofs.Ytfmhmnpmdjpmeaa
open Go.RowKit


/-- what the variable errLevel holds -/
def ErrAt (w : World) (T : TypeId) (pv : Value) : Prop := w.cell? ⟨0, 0, none⟩ = some (.iface T pv)
theorem ErrAt.below {w w' : World} {B : Nat} {T : TypeId} {pv : Value} (h : ErrAt w T pv) (hb : Below B w w') (hB : 0 < B) : ErrAt w' T pv := (hb.cell (p := ⟨0, 0, none⟩) hB).trans h

end Go.Proofs.Ytfmhmnpmdjpmeaa
