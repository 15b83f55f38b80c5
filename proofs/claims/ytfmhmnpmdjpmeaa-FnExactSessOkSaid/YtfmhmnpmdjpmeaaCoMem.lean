/- Plain facts for constraints: the table that is made out of a list of constraints; what it tells of the values that satisfy them. -/
/- Plain facts for constraints: when a list is satisfiable, its least values, and what it implies. -/
/- Words for memory: a slice that reads as a list of constraints; one that a call owns. -/
import Derived.Test.YtfmhmnpmdjpmeaaMarks

/- Plain facts for constraints: a table of the longest ways between six nodes, made step by step in place; what it tells of the values that satisfy all constraints. Nothing of the program is imported. -/
namespace Go.Proofs.Ytfmhmnpmdjpmeaa.Cs

/-- a table of numbers between nodes -/
abbrev Tb := Nat → Nat → Int
def put (d : Tb) (i j : Nat) (x : Int) : Tb := fun a b => if a = i ∧ b = j then x else d a b
theorem put_same (d : Tb) (i j : Nat) (x : Int) : put d i j x i j = x := by simp [put]
theorem put_other (d : Tb) {i j a b : Nat} (x : Int) (h : ¬ (a = i ∧ b = j)) : put d i j x a b = d a b := by simp only [put, if_neg h]
/-- one step: the way by k -/
def relax (k i j : Nat) (d : Tb) : Tb := if 0 ≤ d i k ∧ 0 ≤ d k j then put d i j (min 1000 (max (d i j) (d i k + d k j))) else d
def relaxJ (k i : Nat) : Nat → Tb → Tb
  | 0, d => d
  | n + 1, d => relax k i n (relaxJ k i n d)
def relaxI (k : Nat) : Nat → Tb → Tb
  | 0, d => d
  | n + 1, d => relaxJ k n 6 (relaxI k n d)
def relaxK : Nat → Tb → Tb
  | 0, d => d
  | n + 1, d => relaxI n 6 (relaxK n d)

/-- values that keep all distances of the table -/
def Keeps (v : Nat → Int) (d : Tb) : Prop := ∀ i j, 0 ≤ d i j → v i + d i j ≤ v j
theorem Keeps.relax {v : Nat → Int} {d : Tb} (h : Keeps v d) (k i j : Nat) : Keeps v (relax k i j d) := by
  unfold Cs.relax
  split
  · rename_i hc
    intro a b hab
    by_cases e : a = i ∧ b = j
    · obtain ⟨rfl, rfl⟩ := e
      rw [put_same] at hab ⊢
      have h1 := h a k hc.1
      have h2 := h k b hc.2
      by_cases h3 : 0 ≤ d a b
      · have := h a b h3; omega
      · omega
    · rw [put_other d _ e] at hab ⊢
      exact h a b hab
  · exact h
theorem Keeps.relaxJ {v : Nat → Int} {d : Tb} (h : Keeps v d) (k i : Nat) : ∀ n, Keeps v (relaxJ k i n d)
  | 0 => h
  | n + 1 => (Keeps.relaxJ h k i n).relax k i n
theorem Keeps.relaxI {v : Nat → Int} {d : Tb} (h : Keeps v d) (k : Nat) : ∀ n, Keeps v (relaxI k n d)
  | 0 => h
  | n + 1 => (Keeps.relaxI h k n).relaxJ k n 6
theorem Keeps.relaxK {v : Nat → Int} {d : Tb} (h : Keeps v d) : ∀ n, Keeps v (relaxK n d)
  | 0 => h
  | n + 1 => (Keeps.relaxK h n).relaxI n 6

/-- the table only grows, and no further than 1000 -/
def Up (d e : Tb) : Prop := ∀ i j, d i j ≤ e i j ∧ e i j ≤ 1000
theorem Up.refl {d : Tb} (h : ∀ i j, d i j ≤ 1000) : Up d d := fun i j => ⟨Int.le_refl _, h i j⟩
theorem Up.trans {a b c : Tb} (h : Up a b) (k : Up b c) : Up a c := fun i j => ⟨Int.le_trans (h i j).1 (k i j).1, (k i j).2⟩
theorem Up.relax {d : Tb} (h : ∀ i j, d i j ≤ 1000) (k i j : Nat) : Up d (relax k i j d) := by
  unfold Cs.relax
  split
  · intro a b
    by_cases e : a = i ∧ b = j
    · obtain ⟨rfl, rfl⟩ := e
      rw [put_same]
      have := h a b
      omega
    · rw [put_other d _ e]
      exact ⟨Int.le_refl _, h a b⟩
  · exact Up.refl h
theorem Up.relaxJ {d : Tb} (h : ∀ i j, d i j ≤ 1000) (k i : Nat) : ∀ n, Up d (relaxJ k i n d)
  | 0 => Up.refl h
  | n + 1 => (Up.relaxJ h k i n).trans (Up.relax (fun a b => (Up.relaxJ h k i n a b).2) k i n)
theorem Up.relaxI {d : Tb} (h : ∀ i j, d i j ≤ 1000) (k : Nat) : ∀ n, Up d (relaxI k n d)
  | 0 => Up.refl h
  | n + 1 => (Up.relaxI h k n).trans (Up.relaxJ (fun a b => (Up.relaxI h k n a b).2) k n 6)
theorem Up.relaxK {d : Tb} (h : ∀ i j, d i j ≤ 1000) : ∀ n, Up d (relaxK n d)
  | 0 => Up.refl h
  | n + 1 => (Up.relaxK h n).trans (Up.relaxI (fun a b => (Up.relaxK h n a b).2) n 6)

/-- what a whole pass by k makes of a place, where no way leads round by k -/
def via (k : Nat) (d : Tb) : Tb := fun i j => if 0 ≤ d i k ∧ 0 ≤ d k j then max (d i j) (d i k + d k j) else d i j
/-- where k's own place is 0, a pass in place is that -/
theorem relax_via {k : Nat} {d e : Tb} (hk : d k k = 0) (hb : ∀ i j, d i j ≤ 400) {i j : Nat} (he : ∀ a b, e a b = via k d a b ∨ e a b = d a b) (hij : e i j = d i j ∨ e i j = via k d i j) :
    ∀ a b, relax k i j e a b = if a = i ∧ b = j then via k d i j else e a b := by
  have hrow : ∀ b, e k b = d k b := fun b => by
    rcases he k b with h | h
    · rw [h]; unfold via; rw [hk]; split <;> omega
    · exact h
  have hcol : ∀ a, e a k = d a k := fun a => by
    rcases he a k with h | h
    · rw [h]; unfold via; rw [hk]; split <;> omega
    · exact h
  intro a b
  unfold relax
  rw [hcol i, hrow j]
  have h1 := hb i k
  have h2 := hb k j
  have h3 := hb i j
  split
  · rename_i hc
    by_cases e' : a = i ∧ b = j
    · rw [if_pos e']
      obtain ⟨rfl, rfl⟩ := e'
      rw [put_same]
      unfold via at hij ⊢
      rw [if_pos hc] at hij ⊢
      omega
    · rw [if_neg e', put_other e _ e']
  · rename_i hc
    by_cases e' : a = i ∧ b = j
    · rw [if_pos e']
      obtain ⟨rfl, rfl⟩ := e'
      unfold via at hij ⊢
      rw [if_neg hc] at hij ⊢
      omega
    · rw [if_neg e']
theorem relaxJ_via {k : Nat} {d e : Tb} (hk : d k k = 0) (hb : ∀ i j, d i j ≤ 400) {i : Nat} (he : ∀ a b, e a b = via k d a b ∨ e a b = d a b) :
    ∀ n, ∀ a b, relaxJ k i n e a b = if a = i ∧ b < n then via k d i b else e a b := by
  intro n
  induction n with
  | zero => intro a b; rw [if_neg (by omega)]; rfl
  | succ n ih =>
    intro a b
    have he' : ∀ a b, relaxJ k i n e a b = via k d a b ∨ relaxJ k i n e a b = d a b := fun a b => by
      rw [ih a b]
      split
      · rename_i h; rw [h.1]; exact .inl rfl
      · exact he a b
    have := relax_via hk hb (i := i) (j := n) he' ((he' i n).symm) a b
    show relax k i n (relaxJ k i n e) a b = _
    rw [this]
    by_cases e1 : a = i ∧ b = n
    · rw [if_pos e1, if_pos ⟨e1.1, by omega⟩, e1.2]
    · rw [if_neg e1, ih a b]
      by_cases e2 : a = i ∧ b < n
      · rw [if_pos e2, if_pos ⟨e2.1, by omega⟩]
      · rw [if_neg e2, if_neg (fun h => e2 ⟨h.1, by have := h.2; have : b ≠ n := fun e3 => e1 ⟨h.1, e3⟩; omega⟩)]
theorem relaxI_via {k : Nat} {d : Tb} (hk : d k k = 0) (hb : ∀ i j, d i j ≤ 400) :
    ∀ n, ∀ a b, relaxI k n d a b = if a < n ∧ b < 6 then via k d a b else d a b := by
  intro n
  induction n with
  | zero => intro a b; rw [if_neg (by omega)]; rfl
  | succ n ih =>
    intro a b
    have he' : ∀ a b, relaxI k n d a b = via k d a b ∨ relaxI k n d a b = d a b := fun a b => by
      rw [ih a b]
      split
      · exact .inl rfl
      · exact .inr rfl
    show relaxJ k n 6 (relaxI k n d) a b = _
    rw [relaxJ_via hk hb (i := n) he' 6 a b, ih a b]
    by_cases e1 : a = n ∧ b < 6
    · rw [if_pos e1, if_pos ⟨by omega, e1.2⟩, e1.1]
    · rw [if_neg e1]
      by_cases e2 : a < n ∧ b < 6
      · rw [if_pos e2, if_pos ⟨by omega, e2.2⟩]
      · rw [if_neg e2, if_neg (fun h => by have : a ≠ n := fun e3 => e1 ⟨e3, h.2⟩; exact e2 ⟨by omega, h.2⟩)]

/-- ways by the first K nodes are in the table -/
def Closed (K : Nat) (d : Tb) : Prop := ∀ k, k < K → ∀ i j, i < 6 → j < 6 → 0 ≤ d i k → 0 ≤ d k j → d i k + d k j ≤ d i j
theorem closed_via {K : Nat} (hK : K < 6) {d : Tb} (hk : d K K = 0) (hc : Closed K d) (hm : ∀ i j, -1 ≤ d i j) : Closed (K + 1) (fun a b => if a < 6 ∧ b < 6 then via K d a b else d a b) := by
  intro k hkK i j hi hj h1 h2
  simp only at h1 h2 ⊢
  rw [if_pos ⟨hi, by omega⟩] at h1 ⊢
  rw [if_pos ⟨by omega, hj⟩] at h2 ⊢
  rw [if_pos ⟨hi, hj⟩]
  by_cases e : k = K
  · subst e
    have r1 : via k d i k = d i k := by unfold via; rw [hk]; split <;> omega
    have r2 : via k d k j = d k j := by unfold via; rw [hk]; split <;> omega
    rw [r1] at h1 ⊢
    rw [r2] at h2 ⊢
    unfold via
    rw [if_pos ⟨h1, h2⟩]
    omega
  · have hlt : k < K := by omega
    have c := hc k hlt
    have a1 := c i j hi hj
    have a2 := c i K hi hK
    have a3 := c K j hK hj
    have a4 := c K K hK hK
    have m1 := hm i k; have m2 := hm k j; have m3 := hm i K; have m4 := hm K k; have m5 := hm k K; have m6 := hm K j; have m7 := hm i j
    unfold via at h1 h2 ⊢
    by_cases p1 : 0 ≤ d i K ∧ 0 ≤ d K k
    · rw [if_pos p1] at h1 ⊢
      by_cases p2 : 0 ≤ d k K ∧ 0 ≤ d K j
      · rw [if_pos p2] at h2 ⊢
        rw [if_pos ⟨p1.1, p2.2⟩]
        have := a4 p1.2 p2.1
        by_cases q1 : 0 ≤ d i k
        · have b2 := a2 q1 p2.1
          by_cases q2 : 0 ≤ d k j
          · have b1 := a1 q1 q2; have b3 := a3 p1.2 q2; omega
          · omega
        · by_cases q2 : 0 ≤ d k j
          · have b3 := a3 p1.2 q2; omega
          · omega
      · rw [if_neg p2] at h2 ⊢
        have b3 := a3 p1.2 h2
        rw [if_pos ⟨p1.1, by omega⟩]
        by_cases q1 : 0 ≤ d i k
        · have b1 := a1 q1 h2; omega
        · omega
    · rw [if_neg p1] at h1 ⊢
      by_cases p2 : 0 ≤ d k K ∧ 0 ≤ d K j
      · rw [if_pos p2] at h2 ⊢
        have b2 := a2 h1 p2.1
        rw [if_pos ⟨by omega, p2.2⟩]
        by_cases q2 : 0 ≤ d k j
        · have b1 := a1 h1 q2; omega
        · omega
      · rw [if_neg p2] at h2 ⊢
        have b1 := a1 h1 h2
        split <;> omega
end Go.Proofs.Ytfmhmnpmdjpmeaa.Cs

namespace Go.Proofs.Ytfmhmnpmdjpmeaa.Cs

/-- a constraint: U, Rel, V -/
abbrev Cn := Int × Int × Int
def node (n : Int) : Nat := (n + 1).toNat
def cOk (c : Cn) : Bool := decide (-1 ≤ c.1) && decide (c.1 < 5) && decide (-1 ≤ c.2.2) && decide (c.2.2 < 5) && decide (0 ≤ c.2.1) && decide (c.2.1 ≤ 2)
theorem cOk_iff (c : Cn) : cOk c = true ↔ (-1 ≤ c.1 ∧ c.1 < 5) ∧ (-1 ≤ c.2.2 ∧ c.2.2 < 5) ∧ 0 ≤ c.2.1 ∧ c.2.1 ≤ 2 := by
  simp [cOk]; omega
theorem node_lt {n : Int} (h0 : -1 ≤ n) (h5 : n < 5) : node n < 6 := by unfold node; omega
/-- values of the nodes satisfy a constraint -/
def Sat (v : Nat → Int) (c : Cn) : Prop := if c.2.1 = 0 then v (node c.1) ≤ v (node c.2.2) else if c.2.1 = 1 then v (node c.1) < v (node c.2.2) else v (node c.1) = v (node c.2.2)
/-- values of the nodes: 0 for the number, none below it -/
def Val (v : Nat → Int) : Prop := v 0 = 0 ∧ ∀ x, 0 ≤ v x
def base : Tb := fun i j => if i = j ∨ i = 0 then 0 else -1
def add1 (d : Tb) (c : Cn) : Tb := put d (node c.1) (node c.2.2) (max (d (node c.1) (node c.2.2)) (if c.2.1 = 1 then 1 else 0))
def addC (d : Tb) (c : Cn) : Tb := if c.2.1 = 2 then put (add1 d c) (node c.2.2) (node c.1) (max (add1 d c (node c.2.2) (node c.1)) 0) else add1 d c
def start (l : List Cn) : Tb := l.foldl addC base
/-- the table of a list -/
def tab (l : List Cn) : Tb := relaxK 6 (start l)
/-- no way goes round and grows -/
def flat (l : List Cn) : Bool := (List.range 6).all fun i => decide (tab l i i ≤ 0)
theorem flat_iff (l : List Cn) : flat l = true ↔ ∀ i, i < 6 → tab l i i ≤ 0 := by simp [flat]

theorem keeps_base {v : Nat → Int} (h : Val v) : Keeps v base := by
  intro i j hij
  unfold base at hij ⊢
  split
  · rename_i hc
    rcases hc with rfl | rfl
    · omega
    · have := h.2 j; rw [h.1]; omega
  · rename_i hc; rw [if_neg hc] at hij; omega
theorem keeps_put {v : Nat → Int} {d : Tb} {i j : Nat} {x : Int} (h : Keeps v d) (hx : v i + x ≤ v j) : Keeps v (put d i j (max (d i j) x)) := by
  intro a b hab
  by_cases e : a = i ∧ b = j
  · obtain ⟨rfl, rfl⟩ := e
    rw [put_same] at hab ⊢
    by_cases h1 : 0 ≤ d a b
    · have := h a b h1; omega
    · omega
  · rw [put_other d _ e] at hab ⊢
    exact h a b hab
theorem keeps_addC {v : Nat → Int} {d : Tb} {c : Cn} (hc : cOk c = true) (h : Keeps v d) (hs : Sat v c) : Keeps v (addC d c) := by
  have ho := (cOk_iff c).1 hc
  unfold Sat at hs
  have h1 : Keeps v (add1 d c) := by
    unfold add1
    refine keeps_put h ?_
    split at hs
    · rename_i e; rw [if_neg (by omega)]; omega
    · split at hs
      · rename_i e; rw [if_pos e]; omega
      · rename_i e; rw [if_neg e]; omega
  unfold addC
  split
  · rename_i e
    rw [if_neg (by omega), if_neg (by omega)] at hs
    exact keeps_put h1 (by omega)
  · exact h1
theorem keeps_start {v : Nat → Int} (hv : Val v) {l : List Cn} (hok : ∀ c ∈ l, cOk c = true) (hs : ∀ c ∈ l, Sat v c) : Keeps v (start l) := by
  have H : ∀ (l : List Cn) (d : Tb), (∀ c ∈ l, cOk c = true) → (∀ c ∈ l, Sat v c) → Keeps v d → Keeps v (l.foldl addC d) := by
    intro l
    induction l with
    | nil => exact fun d _ _ h => h
    | cons c r ih => exact fun d h1 h2 h => ih _ (fun x hx => h1 x (by simp [hx])) (fun x hx => h2 x (by simp [hx])) (keeps_addC (h1 c (by simp)) h (h2 c (by simp)))
  exact H l base hok hs (keeps_base hv)

/-- one table is at least another -/
def Ge (d e : Tb) : Prop := ∀ i j, d i j ≤ e i j
theorem ge_put (d : Tb) (i j : Nat) (x : Int) : Ge d (put d i j (max (d i j) x)) := fun a b => by
  by_cases e : a = i ∧ b = j
  · obtain ⟨rfl, rfl⟩ := e; rw [put_same]; omega
  · rw [put_other d _ e]; exact Int.le_refl _
theorem ge_addC (d : Tb) (c : Cn) : Ge d (addC d c) := by
  have h1 : Ge d (add1 d c) := ge_put _ _ _ _
  unfold addC
  split
  · exact fun a b => Int.le_trans (h1 a b) (ge_put (add1 d c) _ _ 0 a b)
  · exact h1
theorem addC_le {d : Tb} {c : Cn} (h : ∀ i j, -1 ≤ d i j ∧ d i j ≤ 1) : ∀ i j, -1 ≤ addC d c i j ∧ addC d c i j ≤ 1 := by
  have h1 : ∀ i j, -1 ≤ add1 d c i j ∧ add1 d c i j ≤ 1 := fun i j => by
    unfold add1
    by_cases e : i = node c.1 ∧ j = node c.2.2
    · obtain ⟨rfl, rfl⟩ := e
      rw [put_same]
      have := h (node c.1) (node c.2.2)
      split <;> omega
    · rw [put_other d _ e]; exact h i j
  intro i j
  unfold addC
  split
  · by_cases e : i = node c.2.2 ∧ j = node c.1
    · obtain ⟨rfl, rfl⟩ := e
      rw [put_same]
      have := h1 (node c.2.2) (node c.1)
      omega
    · rw [put_other _ _ e]; exact h1 i j
  · exact h1 i j
theorem start_le (l : List Cn) : ∀ i j, -1 ≤ start l i j ∧ start l i j ≤ 1 := by
  have H : ∀ (l : List Cn) (d : Tb), (∀ i j, -1 ≤ d i j ∧ d i j ≤ 1) → ∀ i j, -1 ≤ l.foldl addC d i j ∧ l.foldl addC d i j ≤ 1 := by
    intro l
    induction l with
    | nil => exact fun _ h => h
    | cons c r ih => exact fun d h => ih _ (addC_le h)
  refine H l base fun i j => ?_
  unfold base
  split <;> omega
theorem start_base (l : List Cn) : Ge base (start l) := by
  have H : ∀ (l : List Cn) (d : Tb), Ge d (l.foldl addC d) := by
    intro l
    induction l with
    | nil => exact fun d i j => Int.le_refl _
    | cons c r ih => exact fun d i j => Int.le_trans (ge_addC d c i j) (ih _ i j)
  exact H l base
/-- a constraint's own edge is in the table -/
theorem start_mem {l : List Cn} {c : Cn} (hc : c ∈ l) : (if c.2.1 = 1 then (1 : Int) else 0) ≤ start l (node c.1) (node c.2.2) ∧ (c.2.1 = 2 → 0 ≤ start l (node c.2.2) (node c.1)) := by
  have ge : ∀ (l : List Cn) (d : Tb), Ge d (l.foldl addC d) := by
    intro l
    induction l with
    | nil => exact fun d i j => Int.le_refl _
    | cons c r ih => exact fun d i j => Int.le_trans (ge_addC d c i j) (ih _ i j)
  have H : ∀ (l : List Cn) (d : Tb), c ∈ l → (if c.2.1 = 1 then (1 : Int) else 0) ≤ l.foldl addC d (node c.1) (node c.2.2) ∧ (c.2.1 = 2 → 0 ≤ l.foldl addC d (node c.2.2) (node c.1)) := by
    intro l
    induction l with
    | nil => exact fun d h => by simp at h
    | cons x r ih =>
      intro d hx
      rcases List.mem_cons.1 hx with rfl | hx
      · have g := ge r (addC d c)
        have a1 : (if c.2.1 = 1 then (1 : Int) else 0) ≤ add1 d c (node c.1) (node c.2.2) := by unfold add1; rw [put_same]; omega
        refine ⟨?_, fun e => ?_⟩
        · refine Int.le_trans ?_ (g _ _)
          unfold addC
          by_cases e2 : c.2.1 = 2
          · rw [if_pos e2]
            exact Int.le_trans a1 (ge_put (add1 d c) _ _ 0 _ _)
          · rw [if_neg e2]
            exact a1
        · refine Int.le_trans ?_ (g _ _)
          unfold addC
          rw [if_pos e, put_same]
          omega
      · exact ih _ hx
  exact H l base hc

/-- where no way goes round and grows, the table holds all ways -/
theorem tab_stage {l : List Cn} (hf : ∀ i, i < 6 → tab l i i ≤ 0) : ∀ n, n ≤ 6 → Closed n (relaxK n (start l)) ∧ (∀ i j, -1 ≤ relaxK n (start l) i j ∧ relaxK n (start l) i j ≤ 2 ^ n) ∧ ∀ i, i < 6 → relaxK n (start l) i i = 0 := by
  have h1000 : ∀ i j, start l i j ≤ 1000 := fun i j => by have := (start_le l i j).2; omega
  have hdiag : ∀ n, n ≤ 6 → ∀ i, i < 6 → relaxK n (start l) i i = 0 := by
    intro n hn i hi
    have hup : ∀ m k, Up (relaxK m (start l)) (relaxK (m + k) (start l)) := by
      intro m k
      induction k with
      | zero => exact Up.refl fun a b => (Up.relaxK h1000 m a b).2
      | succ k ih => exact ih.trans (Up.relaxI (fun a b => (Up.relaxK h1000 (m + k) a b).2) (m + k) 6)
    have u1 := (hup n (6 - n) i i).1
    rw [show n + (6 - n) = 6 by omega] at u1
    have u2 := hf i hi
    unfold tab at u2
    have u3 := (Up.relaxK h1000 n i i).1
    have u4 := start_base l i i
    have u5 : base i i = 0 := by simp [base]
    omega
  intro n
  induction n with
  | zero =>
    intro _
    refine ⟨fun k hk => absurd hk (by omega), fun i j => ?_, hdiag 0 (by omega)⟩
    have := start_le l i j
    exact ⟨this.1, Int.le_trans this.2 (by decide)⟩
  | succ n ih =>
    intro hn
    obtain ⟨c1, b1, z1⟩ := ih (by omega)
    have hp : 0 ≤ (2 : Int) ^ n ∧ (2 : Int) ^ n ≤ 32 := by
      have : n = 0 ∨ n = 1 ∨ n = 2 ∨ n = 3 ∨ n = 4 ∨ n = 5 := by omega
      rcases this with rfl | rfl | rfl | rfl | rfl | rfl <;> decide
    have hk := z1 n (by omega)
    have he := relaxI_via hk (fun i j => by have := (b1 i j).2; omega) 6
    have hfun : relaxK (n + 1) (start l) = fun a b => if a < 6 ∧ b < 6 then via n (relaxK n (start l)) a b else relaxK n (start l) a b := by
      funext a b
      exact he a b
    refine ⟨?_, fun i j => ?_, hdiag (n + 1) hn⟩
    · rw [hfun]
      exact closed_via (by omega) hk c1 fun i j => (b1 i j).1
    · rw [hfun]
      have hpow : (2 : Int) ^ (n + 1) = 2 * 2 ^ n := by rw [Int.pow_succ]; omega
      simp only
      rw [hpow]
      have x1 := b1 i j; have x2 := b1 i n; have x3 := b1 n j
      generalize (2 : Int) ^ n = P at *
      unfold via
      split
      · split <;> omega
      · omega
end Go.Proofs.Ytfmhmnpmdjpmeaa.Cs

namespace Go.Proofs.Ytfmhmnpmdjpmeaa.Cs

/-- values satisfy a whole list -/
def SatAll (v : Nat → Int) (l : List Cn) : Prop := Val v ∧ ∀ c ∈ l, Sat v c
def ok (l : List Cn) : Prop := ∀ c ∈ l, cOk c = true
section
variable {l : List Cn} (hf : flat l = true)
include hf
theorem tab_closed {i j k : Nat} (hi : i < 6) (hj : j < 6) (hk : k < 6) (h1 : 0 ≤ tab l i k) (h2 : 0 ≤ tab l k j) : tab l i k + tab l k j ≤ tab l i j :=
  (tab_stage ((flat_iff l).1 hf) 6 (by omega)).1 k hk i j hi hj h1 h2
theorem tab_diag {i : Nat} (hi : i < 6) : tab l i i = 0 := (tab_stage ((flat_iff l).1 hf) 6 (by omega)).2.2 i hi
end
theorem tab_ge (l : List Cn) (i j : Nat) : start l i j ≤ tab l i j := (Up.relaxK (fun i j => by have := (start_le l i j).2; omega) 6 i j).1
theorem tab_zero (l : List Cn) (j : Nat) : 0 ≤ tab l 0 j := by
  have h1 := tab_ge l 0 j
  have h2 := start_base l 0 j
  have h3 : base 0 j = 0 := by simp [base]
  omega
/-- values that keep the distances of the nodes satisfy the list -/
theorem sat_of_keeps {v : Nat → Int} {l : List Cn} (hok : ok l) (hv : Val v) (h : ∀ i j, i < 6 → j < 6 → 0 ≤ tab l i j → v i + tab l i j ≤ v j) : SatAll v l := by
  refine ⟨hv, fun c hc => ?_⟩
  have ho := (cOk_iff c).1 (hok c hc)
  have n1 := node_lt ho.1.1 ho.1.2
  have n2 := node_lt ho.2.1.1 ho.2.1.2
  have hm := start_mem hc
  have g1 := tab_ge l (node c.1) (node c.2.2)
  have g2 := tab_ge l (node c.2.2) (node c.1)
  have k1 := h _ _ n1 n2
  have k2 := h _ _ n2 n1
  unfold Sat
  by_cases e0 : c.2.1 = 0
  · rw [if_pos e0]
    have := hm.1
    rw [if_neg (by omega)] at this
    have := k1 (by omega)
    omega
  · rw [if_neg e0]
    by_cases e1 : c.2.1 = 1
    · rw [if_pos e1]
      have := hm.1
      rw [if_pos e1] at this
      have := k1 (by omega)
      omega
    · rw [if_neg e1]
      have h1 := hm.1
      rw [if_neg e1] at h1
      have h2 := hm.2 (by omega)
      have := k1 (by omega)
      have := k2 (by omega)
      omega
/-- the least values -/
def least (l : List Cn) : Nat → Int := fun x => tab l 0 x
theorem least_sat {l : List Cn} (hok : ok l) (hf : flat l = true) : SatAll (least l) l :=
  sat_of_keeps hok ⟨tab_diag hf (by omega), fun x => tab_zero l x⟩ fun i j hi hj h => tab_closed hf (by omega) hj hi (tab_zero l i) h
/-- values in which node i is N higher than it must be, and all that must follow it -/
def lifted (l : List Cn) (i : Nat) (N : Int) : Nat → Int := fun x => if 0 ≤ tab l i x then max (tab l 0 x) (N + tab l i x) else tab l 0 x
end Go.Proofs.Ytfmhmnpmdjpmeaa.Cs

namespace Go.Proofs.Ytfmhmnpmdjpmeaa
open Go.RowKit
open Cs (Cn)

/-- the slice value '.slice A n c' reads as the constraints l; its cells lie below block B -/
def ConR (w : World) (B : Nat) (A : Option Addr) (n : Nat) (l : List Cn) : Prop :=
  l.length = n ∧ (0 < n → ∃ b off, A = some ⟨b, off, none⟩ ∧ b < B ∧ ∀ k, k < n →
    w.cell? ⟨b, off + k * 3, none⟩ = some (.int .i64 (l.getD k (0, 0, 0)).1) ∧ w.cell? ⟨b, off + k * 3 + 1, none⟩ = some (.int .i64 (l.getD k (0, 0, 0)).2.1) ∧ w.cell? ⟨b, off + k * 3 + 2, none⟩ = some (.int .i64 (l.getD k (0, 0, 0)).2.2))
section
variable {w w' : World} {B B' n : Nat} {A : Option Addr}
theorem ConR.keep {l : List Cn} (h : ConR w B A n l) (hk : ∀ p : Addr, p.block < B → w'.cell? p = w.cell? p) : ConR w' B A n l :=
  ⟨h.1, fun hn => by
    obtain ⟨b, off, e, hb, hc⟩ := h.2 hn
    exact ⟨b, off, e, hb, fun k hk' => by rw [hk _ (by exact hb), hk _ (by exact hb), hk _ (by exact hb)]; exact hc k hk'⟩⟩
theorem ConR.below {l : List Cn} (h : ConR w B A n l) (hb : Below B w w') : ConR w' B A n l := h.keep fun _ hp => hb.cell hp
theorem ConR.more {l : List Cn} (h : ConR w B A n l) (hB : B ≤ B') : ConR w B' A n l :=
  ⟨h.1, fun hn => by
    obtain ⟨b, off, e, hb, hc⟩ := h.2 hn
    exact ⟨b, off, e, by omega, hc⟩⟩
end
/-- the cells of a list of constraints -/
def conCells (l : List Cn) : List Value := l.flatMap fun t => [.int .i64 t.1, .int .i64 t.2.1, .int .i64 t.2.2]
theorem conCells_cons (t : Cn) (l : List Cn) : conCells (t :: l) = .int .i64 t.1 :: .int .i64 t.2.1 :: .int .i64 t.2.2 :: conCells l := rfl
theorem conCells_len (l : List Cn) : (conCells l).length = l.length * 3 := by
  induction l with
  | nil => rfl
  | cons t r ih => rw [conCells_cons]; simp [ih]; omega
theorem conCells_append (a b : List Cn) : conCells (a ++ b) = conCells a ++ conCells b := by simp [conCells]
theorem conCells_one (l : List Cn) : ∀ u ∈ conCells l, u.oneCell' = true := by
  intro u hu
  simp only [conCells, List.mem_flatMap] at hu
  obtain ⟨t, _, ht⟩ := hu
  simp at ht
  rcases ht with rfl | rfl | rfl <;> rfl
theorem conCells_at (l : List Cn) (k : Nat) (hk : k < l.length) : (conCells l)[k * 3]? = some (.int .i64 (l.getD k (0, 0, 0)).1) ∧ (conCells l)[k * 3 + 1]? = some (.int .i64 (l.getD k (0, 0, 0)).2.1) ∧ (conCells l)[k * 3 + 2]? = some (.int .i64 (l.getD k (0, 0, 0)).2.2) := by
  induction l generalizing k with
  | nil => simp at hk
  | cons t r ih =>
    rw [conCells_cons]
    cases k with
    | zero => exact ⟨rfl, rfl, rfl⟩
    | succ k =>
      have h := ih k (by simpa using hk)
      rw [show (k + 1) * 3 = k * 3 + 1 + 1 + 1 by omega]
      exact h
/-- a row of the call's own, of constraints -/
abbrev OwnC (w : World) (base : Nat) (A : Option Addr) (n c : Nat) (l : List Cn) : Prop := w.ownsRow base 78 3 (.slice A n c) n (conCells l)
theorem OwnC.reads {w : World} {base : Nat} {A : Option Addr} {n c : Nat} {l : List Cn} (h : OwnC w base A n c l) : ConR w w.heap.size A n l := by
  have hl : l.length = n := by have := h.1; rw [conCells_len] at this; omega
  refine ⟨hl, fun hn => ?_⟩
  rcases h.2 with ⟨_, h0⟩ | ⟨g, cap, cur, hv, hb, hgg, h1, h2, h3, h4⟩
  · omega
  · injection hv with e1 e2 e3
    subst e1
    refine ⟨g, 0, rfl, (Array.getElem?_eq_some_iff.1 hgg).1, fun k hk => ?_⟩
    have hat := conCells_at l k (by omega)
    have c1 := h.cells (g := g) rfl (k * 3) _ hat.1
    have c2 := h.cells (g := g) rfl (k * 3 + 1) _ hat.2.1
    have c3 := h.cells (g := g) rfl (k * 3 + 2) _ hat.2.2
    rw [own_adds] at c1 c2 c3
    rw [Nat.zero_add]
    exact ⟨c1, c2, c3⟩
theorem info_con : (Try.prog.info? 78).map (fun i => (i.zero, i.size, i.bytes)) = some (some (.agg #[.int .i64 0, .int .i64 0, .int .i64 0]), 3, 24) := by kernel_rfl
end Go.Proofs.Ytfmhmnpmdjpmeaa
