/- Plain facts for constraints: the table that is made out of a list of constraints; what it tells of the values that satisfy them. -/
/- Plain facts for constraints: when a list is satisfiable, its least values, and what it implies. -/
/- Plain facts for constraints: what is implied; what is left when the constraints are considered one by one and each is removed that is not needed. -/
/- Plain facts for constraints: envs that satisfy a list; the least env; the signs of satisfying envs. -/
/- Plain facts for constraints, as the program goes: a table of ways lengthened by one edge until it stays as it is; where it stays it is the table of longest ways, and for six nodes it stays by the sixth time or never. Nothing of the program is imported. -/
/- Plain facts for constraints: what is left by its indices, as the program keeps it. Nothing of the program is imported. -/


/- Plain facts for constraints: a table of the longest ways between six nodes, made step by step in place; what it tells of the values that satisfy all constraints. Nothing of the program is imported. -/
namespace Go.Proofs.Ytmmhcpigcdlnmaa.Cs

/-- a table of numbers between nodes -/
abbrev Tb := Nat → Nat → Int
def put (d : Tb) (i j : Nat) (x : Int) : Tb := fun a b => if a = i ∧ b = j then x else d a b
theorem put_same (d : Tb) (i j : Nat) (x : Int) : put d i j x i j = x := by simp [put]
theorem put_other (d : Tb) {i j a b : Nat} (x : Int) (h : ¬ (a = i ∧ b = j)) : put d i j x a b = d a b := by simp only [put, if_neg h]
/-- one step: the way by k -/
def relax (k i j : Nat) (d : Tb) : Tb := if 0 ≤ d i k ∧ 0 ≤ d k j then put d i j (min 1000 (max (d i j) (d i k + d k j))) else d
def relaxJ (k i : Nat) : Nat → Tb → Tb
  | 0, d => d
  | n + 1, d => relax k i n (relaxJ k i n d)
def relaxI (k : Nat) : Nat → Tb → Tb
  | 0, d => d
  | n + 1, d => relaxJ k n 6 (relaxI k n d)
def relaxK : Nat → Tb → Tb
  | 0, d => d
  | n + 1, d => relaxI n 6 (relaxK n d)

/-- values that keep all distances of the table -/
def Keeps (v : Nat → Int) (d : Tb) : Prop := ∀ i j, 0 ≤ d i j → v i + d i j ≤ v j
theorem Keeps.relax {v : Nat → Int} {d : Tb} (h : Keeps v d) (k i j : Nat) : Keeps v (relax k i j d) := by
  unfold Cs.relax
  split
  · rename_i hc
    intro a b hab
    by_cases e : a = i ∧ b = j
    · obtain ⟨rfl, rfl⟩ := e
      rw [put_same] at hab ⊢
      have h1 := h a k hc.1
      have h2 := h k b hc.2
      by_cases h3 : 0 ≤ d a b
      · have := h a b h3; omega
      · omega
    · rw [put_other d _ e] at hab ⊢
      exact h a b hab
  · exact h
theorem Keeps.relaxJ {v : Nat → Int} {d : Tb} (h : Keeps v d) (k i : Nat) : ∀ n, Keeps v (relaxJ k i n d)
  | 0 => h
  | n + 1 => (Keeps.relaxJ h k i n).relax k i n
theorem Keeps.relaxI {v : Nat → Int} {d : Tb} (h : Keeps v d) (k : Nat) : ∀ n, Keeps v (relaxI k n d)
  | 0 => h
  | n + 1 => (Keeps.relaxI h k n).relaxJ k n 6
theorem Keeps.relaxK {v : Nat → Int} {d : Tb} (h : Keeps v d) : ∀ n, Keeps v (relaxK n d)
  | 0 => h
  | n + 1 => (Keeps.relaxK h n).relaxI n 6

/-- the table only grows, and no further than 1000 -/
def Up (d e : Tb) : Prop := ∀ i j, d i j ≤ e i j ∧ e i j ≤ 1000
theorem Up.refl {d : Tb} (h : ∀ i j, d i j ≤ 1000) : Up d d := fun i j => ⟨Int.le_refl _, h i j⟩
theorem Up.trans {a b c : Tb} (h : Up a b) (k : Up b c) : Up a c := fun i j => ⟨Int.le_trans (h i j).1 (k i j).1, (k i j).2⟩
theorem Up.relax {d : Tb} (h : ∀ i j, d i j ≤ 1000) (k i j : Nat) : Up d (relax k i j d) := by
  unfold Cs.relax
  split
  · intro a b
    by_cases e : a = i ∧ b = j
    · obtain ⟨rfl, rfl⟩ := e
      rw [put_same]
      have := h a b
      omega
    · rw [put_other d _ e]
      exact ⟨Int.le_refl _, h a b⟩
  · exact Up.refl h
theorem Up.relaxJ {d : Tb} (h : ∀ i j, d i j ≤ 1000) (k i : Nat) : ∀ n, Up d (relaxJ k i n d)
  | 0 => Up.refl h
  | n + 1 => (Up.relaxJ h k i n).trans (Up.relax (fun a b => (Up.relaxJ h k i n a b).2) k i n)
theorem Up.relaxI {d : Tb} (h : ∀ i j, d i j ≤ 1000) (k : Nat) : ∀ n, Up d (relaxI k n d)
  | 0 => Up.refl h
  | n + 1 => (Up.relaxI h k n).trans (Up.relaxJ (fun a b => (Up.relaxI h k n a b).2) k n 6)
theorem Up.relaxK {d : Tb} (h : ∀ i j, d i j ≤ 1000) : ∀ n, Up d (relaxK n d)
  | 0 => Up.refl h
  | n + 1 => (Up.relaxK h n).trans (Up.relaxI (fun a b => (Up.relaxK h n a b).2) n 6)

/-- what a whole pass by k makes of a place, where no way leads round by k -/
def via (k : Nat) (d : Tb) : Tb := fun i j => if 0 ≤ d i k ∧ 0 ≤ d k j then max (d i j) (d i k + d k j) else d i j
/-- where k's own place is 0, a pass in place is that -/
theorem relax_via {k : Nat} {d e : Tb} (hk : d k k = 0) (hb : ∀ i j, d i j ≤ 400) {i j : Nat} (he : ∀ a b, e a b = via k d a b ∨ e a b = d a b) (hij : e i j = d i j ∨ e i j = via k d i j) :
    ∀ a b, relax k i j e a b = if a = i ∧ b = j then via k d i j else e a b := by
  have hrow : ∀ b, e k b = d k b := fun b => by
    rcases he k b with h | h
    · rw [h]; unfold via; rw [hk]; split <;> omega
    · exact h
  have hcol : ∀ a, e a k = d a k := fun a => by
    rcases he a k with h | h
    · rw [h]; unfold via; rw [hk]; split <;> omega
    · exact h
  intro a b
  unfold relax
  rw [hcol i, hrow j]
  have h1 := hb i k
  have h2 := hb k j
  have h3 := hb i j
  split
  · rename_i hc
    by_cases e' : a = i ∧ b = j
    · rw [if_pos e']
      obtain ⟨rfl, rfl⟩ := e'
      rw [put_same]
      unfold via at hij ⊢
      rw [if_pos hc] at hij ⊢
      omega
    · rw [if_neg e', put_other e _ e']
  · rename_i hc
    by_cases e' : a = i ∧ b = j
    · rw [if_pos e']
      obtain ⟨rfl, rfl⟩ := e'
      unfold via at hij ⊢
      rw [if_neg hc] at hij ⊢
      omega
    · rw [if_neg e']
theorem relaxJ_via {k : Nat} {d e : Tb} (hk : d k k = 0) (hb : ∀ i j, d i j ≤ 400) {i : Nat} (he : ∀ a b, e a b = via k d a b ∨ e a b = d a b) :
    ∀ n, ∀ a b, relaxJ k i n e a b = if a = i ∧ b < n then via k d i b else e a b := by
  intro n
  induction n with
  | zero => intro a b; rw [if_neg (by omega)]; rfl
  | succ n ih =>
    intro a b
    have he' : ∀ a b, relaxJ k i n e a b = via k d a b ∨ relaxJ k i n e a b = d a b := fun a b => by
      rw [ih a b]
      split
      · rename_i h; rw [h.1]; exact .inl rfl
      · exact he a b
    have := relax_via hk hb (i := i) (j := n) he' ((he' i n).symm) a b
    show relax k i n (relaxJ k i n e) a b = _
    rw [this]
    by_cases e1 : a = i ∧ b = n
    · rw [if_pos e1, if_pos ⟨e1.1, by omega⟩, e1.2]
    · rw [if_neg e1, ih a b]
      by_cases e2 : a = i ∧ b < n
      · rw [if_pos e2, if_pos ⟨e2.1, by omega⟩]
      · rw [if_neg e2, if_neg (fun h => e2 ⟨h.1, by have := h.2; have : b ≠ n := fun e3 => e1 ⟨h.1, e3⟩; omega⟩)]
theorem relaxI_via {k : Nat} {d : Tb} (hk : d k k = 0) (hb : ∀ i j, d i j ≤ 400) :
    ∀ n, ∀ a b, relaxI k n d a b = if a < n ∧ b < 6 then via k d a b else d a b := by
  intro n
  induction n with
  | zero => intro a b; rw [if_neg (by omega)]; rfl
  | succ n ih =>
    intro a b
    have he' : ∀ a b, relaxI k n d a b = via k d a b ∨ relaxI k n d a b = d a b := fun a b => by
      rw [ih a b]
      split
      · exact .inl rfl
      · exact .inr rfl
    show relaxJ k n 6 (relaxI k n d) a b = _
    rw [relaxJ_via hk hb (i := n) he' 6 a b, ih a b]
    by_cases e1 : a = n ∧ b < 6
    · rw [if_pos e1, if_pos ⟨by omega, e1.2⟩, e1.1]
    · rw [if_neg e1]
      by_cases e2 : a < n ∧ b < 6
      · rw [if_pos e2, if_pos ⟨by omega, e2.2⟩]
      · rw [if_neg e2, if_neg (fun h => by have : a ≠ n := fun e3 => e1 ⟨e3, h.2⟩; exact e2 ⟨by omega, h.2⟩)]

/-- ways by the first K nodes are in the table -/
def Closed (K : Nat) (d : Tb) : Prop := ∀ k, k < K → ∀ i j, i < 6 → j < 6 → 0 ≤ d i k → 0 ≤ d k j → d i k + d k j ≤ d i j
theorem closed_via {K : Nat} (hK : K < 6) {d : Tb} (hk : d K K = 0) (hc : Closed K d) (hm : ∀ i j, -1 ≤ d i j) : Closed (K + 1) (fun a b => if a < 6 ∧ b < 6 then via K d a b else d a b) := by
  intro k hkK i j hi hj h1 h2
  simp only at h1 h2 ⊢
  rw [if_pos ⟨hi, by omega⟩] at h1 ⊢
  rw [if_pos ⟨by omega, hj⟩] at h2 ⊢
  rw [if_pos ⟨hi, hj⟩]
  by_cases e : k = K
  · subst e
    have r1 : via k d i k = d i k := by unfold via; rw [hk]; split <;> omega
    have r2 : via k d k j = d k j := by unfold via; rw [hk]; split <;> omega
    rw [r1] at h1 ⊢
    rw [r2] at h2 ⊢
    unfold via
    rw [if_pos ⟨h1, h2⟩]
    omega
  · have hlt : k < K := by omega
    have c := hc k hlt
    have a1 := c i j hi hj
    have a2 := c i K hi hK
    have a3 := c K j hK hj
    have a4 := c K K hK hK
    have m1 := hm i k; have m2 := hm k j; have m3 := hm i K; have m4 := hm K k; have m5 := hm k K; have m6 := hm K j; have m7 := hm i j
    unfold via at h1 h2 ⊢
    by_cases p1 : 0 ≤ d i K ∧ 0 ≤ d K k
    · rw [if_pos p1] at h1 ⊢
      by_cases p2 : 0 ≤ d k K ∧ 0 ≤ d K j
      · rw [if_pos p2] at h2 ⊢
        rw [if_pos ⟨p1.1, p2.2⟩]
        have := a4 p1.2 p2.1
        by_cases q1 : 0 ≤ d i k
        · have b2 := a2 q1 p2.1
          by_cases q2 : 0 ≤ d k j
          · have b1 := a1 q1 q2; have b3 := a3 p1.2 q2; omega
          · omega
        · by_cases q2 : 0 ≤ d k j
          · have b3 := a3 p1.2 q2; omega
          · omega
      · rw [if_neg p2] at h2 ⊢
        have b3 := a3 p1.2 h2
        rw [if_pos ⟨p1.1, by omega⟩]
        by_cases q1 : 0 ≤ d i k
        · have b1 := a1 q1 h2; omega
        · omega
    · rw [if_neg p1] at h1 ⊢
      by_cases p2 : 0 ≤ d k K ∧ 0 ≤ d K j
      · rw [if_pos p2] at h2 ⊢
        have b2 := a2 h1 p2.1
        rw [if_pos ⟨by omega, p2.2⟩]
        by_cases q2 : 0 ≤ d k j
        · have b1 := a1 h1 q2; omega
        · omega
      · rw [if_neg p2] at h2 ⊢
        have b1 := a1 h1 h2
        split <;> omega
end Go.Proofs.Ytmmhcpigcdlnmaa.Cs

namespace Go.Proofs.Ytmmhcpigcdlnmaa.Cs

/-- a constraint: U, Rel, V -/
abbrev Cn := Int × Int × Int
def node (n : Int) : Nat := (n + 1).toNat
def cOk (c : Cn) : Bool := decide (-1 ≤ c.1) && decide (c.1 < 5) && decide (-1 ≤ c.2.2) && decide (c.2.2 < 5) && decide (0 ≤ c.2.1) && decide (c.2.1 ≤ 2)
theorem cOk_iff (c : Cn) : cOk c = true ↔ (-1 ≤ c.1 ∧ c.1 < 5) ∧ (-1 ≤ c.2.2 ∧ c.2.2 < 5) ∧ 0 ≤ c.2.1 ∧ c.2.1 ≤ 2 := by
  simp [cOk]; omega
theorem node_lt {n : Int} (h0 : -1 ≤ n) (h5 : n < 5) : node n < 6 := by unfold node; omega
/-- values of the nodes satisfy a constraint -/
def Sat (v : Nat → Int) (c : Cn) : Prop := if c.2.1 = 0 then v (node c.1) ≤ v (node c.2.2) else if c.2.1 = 1 then v (node c.1) < v (node c.2.2) else v (node c.1) = v (node c.2.2)
/-- values of the nodes: 0 for the number, none below it -/
def Val (v : Nat → Int) : Prop := v 0 = 0 ∧ ∀ x, 0 ≤ v x
def base : Tb := fun i j => if i = j ∨ i = 0 then 0 else -1
def add1 (d : Tb) (c : Cn) : Tb := put d (node c.1) (node c.2.2) (max (d (node c.1) (node c.2.2)) (if c.2.1 = 1 then 1 else 0))
def addC (d : Tb) (c : Cn) : Tb := if c.2.1 = 2 then put (add1 d c) (node c.2.2) (node c.1) (max (add1 d c (node c.2.2) (node c.1)) 0) else add1 d c
def start (l : List Cn) : Tb := l.foldl addC base
/-- the table of a list -/
def tab (l : List Cn) : Tb := relaxK 6 (start l)
/-- no way goes round and grows -/
def flat (l : List Cn) : Bool := (List.range 6).all fun i => decide (tab l i i ≤ 0)
theorem flat_iff (l : List Cn) : flat l = true ↔ ∀ i, i < 6 → tab l i i ≤ 0 := by simp [flat]

theorem keeps_base {v : Nat → Int} (h : Val v) : Keeps v base := by
  intro i j hij
  unfold base at hij ⊢
  split
  · rename_i hc
    rcases hc with rfl | rfl
    · omega
    · have := h.2 j; rw [h.1]; omega
  · rename_i hc; rw [if_neg hc] at hij; omega
theorem keeps_put {v : Nat → Int} {d : Tb} {i j : Nat} {x : Int} (h : Keeps v d) (hx : v i + x ≤ v j) : Keeps v (put d i j (max (d i j) x)) := by
  intro a b hab
  by_cases e : a = i ∧ b = j
  · obtain ⟨rfl, rfl⟩ := e
    rw [put_same] at hab ⊢
    by_cases h1 : 0 ≤ d a b
    · have := h a b h1; omega
    · omega
  · rw [put_other d _ e] at hab ⊢
    exact h a b hab
theorem keeps_addC {v : Nat → Int} {d : Tb} {c : Cn} (hc : cOk c = true) (h : Keeps v d) (hs : Sat v c) : Keeps v (addC d c) := by
  have ho := (cOk_iff c).1 hc
  unfold Sat at hs
  have h1 : Keeps v (add1 d c) := by
    unfold add1
    refine keeps_put h ?_
    split at hs
    · rename_i e; rw [if_neg (by omega)]; omega
    · split at hs
      · rename_i e; rw [if_pos e]; omega
      · rename_i e; rw [if_neg e]; omega
  unfold addC
  split
  · rename_i e
    rw [if_neg (by omega), if_neg (by omega)] at hs
    exact keeps_put h1 (by omega)
  · exact h1
theorem keeps_start {v : Nat → Int} (hv : Val v) {l : List Cn} (hok : ∀ c ∈ l, cOk c = true) (hs : ∀ c ∈ l, Sat v c) : Keeps v (start l) := by
  have H : ∀ (l : List Cn) (d : Tb), (∀ c ∈ l, cOk c = true) → (∀ c ∈ l, Sat v c) → Keeps v d → Keeps v (l.foldl addC d) := by
    intro l
    induction l with
    | nil => exact fun d _ _ h => h
    | cons c r ih => exact fun d h1 h2 h => ih _ (fun x hx => h1 x (by simp [hx])) (fun x hx => h2 x (by simp [hx])) (keeps_addC (h1 c (by simp)) h (h2 c (by simp)))
  exact H l base hok hs (keeps_base hv)

/-- one table is at least another -/
def Ge (d e : Tb) : Prop := ∀ i j, d i j ≤ e i j
theorem ge_put (d : Tb) (i j : Nat) (x : Int) : Ge d (put d i j (max (d i j) x)) := fun a b => by
  by_cases e : a = i ∧ b = j
  · obtain ⟨rfl, rfl⟩ := e; rw [put_same]; omega
  · rw [put_other d _ e]; exact Int.le_refl _
theorem ge_addC (d : Tb) (c : Cn) : Ge d (addC d c) := by
  have h1 : Ge d (add1 d c) := ge_put _ _ _ _
  unfold addC
  split
  · exact fun a b => Int.le_trans (h1 a b) (ge_put (add1 d c) _ _ 0 a b)
  · exact h1
theorem addC_le {d : Tb} {c : Cn} (h : ∀ i j, -1 ≤ d i j ∧ d i j ≤ 1) : ∀ i j, -1 ≤ addC d c i j ∧ addC d c i j ≤ 1 := by
  have h1 : ∀ i j, -1 ≤ add1 d c i j ∧ add1 d c i j ≤ 1 := fun i j => by
    unfold add1
    by_cases e : i = node c.1 ∧ j = node c.2.2
    · obtain ⟨rfl, rfl⟩ := e
      rw [put_same]
      have := h (node c.1) (node c.2.2)
      split <;> omega
    · rw [put_other d _ e]; exact h i j
  intro i j
  unfold addC
  split
  · by_cases e : i = node c.2.2 ∧ j = node c.1
    · obtain ⟨rfl, rfl⟩ := e
      rw [put_same]
      have := h1 (node c.2.2) (node c.1)
      omega
    · rw [put_other _ _ e]; exact h1 i j
  · exact h1 i j
theorem start_le (l : List Cn) : ∀ i j, -1 ≤ start l i j ∧ start l i j ≤ 1 := by
  have H : ∀ (l : List Cn) (d : Tb), (∀ i j, -1 ≤ d i j ∧ d i j ≤ 1) → ∀ i j, -1 ≤ l.foldl addC d i j ∧ l.foldl addC d i j ≤ 1 := by
    intro l
    induction l with
    | nil => exact fun _ h => h
    | cons c r ih => exact fun d h => ih _ (addC_le h)
  refine H l base fun i j => ?_
  unfold base
  split <;> omega
theorem start_base (l : List Cn) : Ge base (start l) := by
  have H : ∀ (l : List Cn) (d : Tb), Ge d (l.foldl addC d) := by
    intro l
    induction l with
    | nil => exact fun d i j => Int.le_refl _
    | cons c r ih => exact fun d i j => Int.le_trans (ge_addC d c i j) (ih _ i j)
  exact H l base
/-- a constraint's own edge is in the table -/
theorem start_mem {l : List Cn} {c : Cn} (hc : c ∈ l) : (if c.2.1 = 1 then (1 : Int) else 0) ≤ start l (node c.1) (node c.2.2) ∧ (c.2.1 = 2 → 0 ≤ start l (node c.2.2) (node c.1)) := by
  have ge : ∀ (l : List Cn) (d : Tb), Ge d (l.foldl addC d) := by
    intro l
    induction l with
    | nil => exact fun d i j => Int.le_refl _
    | cons c r ih => exact fun d i j => Int.le_trans (ge_addC d c i j) (ih _ i j)
  have H : ∀ (l : List Cn) (d : Tb), c ∈ l → (if c.2.1 = 1 then (1 : Int) else 0) ≤ l.foldl addC d (node c.1) (node c.2.2) ∧ (c.2.1 = 2 → 0 ≤ l.foldl addC d (node c.2.2) (node c.1)) := by
    intro l
    induction l with
    | nil => exact fun d h => by simp at h
    | cons x r ih =>
      intro d hx
      rcases List.mem_cons.1 hx with rfl | hx
      · have g := ge r (addC d c)
        have a1 : (if c.2.1 = 1 then (1 : Int) else 0) ≤ add1 d c (node c.1) (node c.2.2) := by unfold add1; rw [put_same]; omega
        refine ⟨?_, fun e => ?_⟩
        · refine Int.le_trans ?_ (g _ _)
          unfold addC
          by_cases e2 : c.2.1 = 2
          · rw [if_pos e2]
            exact Int.le_trans a1 (ge_put (add1 d c) _ _ 0 _ _)
          · rw [if_neg e2]
            exact a1
        · refine Int.le_trans ?_ (g _ _)
          unfold addC
          rw [if_pos e, put_same]
          omega
      · exact ih _ hx
  exact H l base hc

/-- where no way goes round and grows, the table holds all ways -/
theorem tab_stage {l : List Cn} (hf : ∀ i, i < 6 → tab l i i ≤ 0) : ∀ n, n ≤ 6 → Closed n (relaxK n (start l)) ∧ (∀ i j, -1 ≤ relaxK n (start l) i j ∧ relaxK n (start l) i j ≤ 2 ^ n) ∧ ∀ i, i < 6 → relaxK n (start l) i i = 0 := by
  have h1000 : ∀ i j, start l i j ≤ 1000 := fun i j => by have := (start_le l i j).2; omega
  have hdiag : ∀ n, n ≤ 6 → ∀ i, i < 6 → relaxK n (start l) i i = 0 := by
    intro n hn i hi
    have hup : ∀ m k, Up (relaxK m (start l)) (relaxK (m + k) (start l)) := by
      intro m k
      induction k with
      | zero => exact Up.refl fun a b => (Up.relaxK h1000 m a b).2
      | succ k ih => exact ih.trans (Up.relaxI (fun a b => (Up.relaxK h1000 (m + k) a b).2) (m + k) 6)
    have u1 := (hup n (6 - n) i i).1
    rw [show n + (6 - n) = 6 by omega] at u1
    have u2 := hf i hi
    unfold tab at u2
    have u3 := (Up.relaxK h1000 n i i).1
    have u4 := start_base l i i
    have u5 : base i i = 0 := by simp [base]
    omega
  intro n
  induction n with
  | zero =>
    intro _
    refine ⟨fun k hk => absurd hk (by omega), fun i j => ?_, hdiag 0 (by omega)⟩
    have := start_le l i j
    exact ⟨this.1, Int.le_trans this.2 (by decide)⟩
  | succ n ih =>
    intro hn
    obtain ⟨c1, b1, z1⟩ := ih (by omega)
    have hp : 0 ≤ (2 : Int) ^ n ∧ (2 : Int) ^ n ≤ 32 := by
      have : n = 0 ∨ n = 1 ∨ n = 2 ∨ n = 3 ∨ n = 4 ∨ n = 5 := by omega
      rcases this with rfl | rfl | rfl | rfl | rfl | rfl <;> decide
    have hk := z1 n (by omega)
    have he := relaxI_via hk (fun i j => by have := (b1 i j).2; omega) 6
    have hfun : relaxK (n + 1) (start l) = fun a b => if a < 6 ∧ b < 6 then via n (relaxK n (start l)) a b else relaxK n (start l) a b := by
      funext a b
      exact he a b
    refine ⟨?_, fun i j => ?_, hdiag (n + 1) hn⟩
    · rw [hfun]
      exact closed_via (by omega) hk c1 fun i j => (b1 i j).1
    · rw [hfun]
      have hpow : (2 : Int) ^ (n + 1) = 2 * 2 ^ n := by rw [Int.pow_succ]; omega
      simp only
      rw [hpow]
      have x1 := b1 i j; have x2 := b1 i n; have x3 := b1 n j
      generalize (2 : Int) ^ n = P at *
      unfold via
      split
      · split <;> omega
      · omega
end Go.Proofs.Ytmmhcpigcdlnmaa.Cs

namespace Go.Proofs.Ytmmhcpigcdlnmaa.Cs

/-- values satisfy a whole list -/
def SatAll (v : Nat → Int) (l : List Cn) : Prop := Val v ∧ ∀ c ∈ l, Sat v c
def ok (l : List Cn) : Prop := ∀ c ∈ l, cOk c = true
theorem tab_keeps {v : Nat → Int} {l : List Cn} (hok : ok l) (h : SatAll v l) : Keeps v (tab l) := (keeps_start h.1 hok h.2).relaxK 6
/-- a way that goes round and grows: nothing satisfies the list -/
theorem not_flat {v : Nat → Int} {l : List Cn} (hok : ok l) (hf : flat l = false) : ¬ SatAll v l := by
  intro h
  have : ∃ i, i < 6 ∧ 0 < tab l i i := by
    apply Classical.byContradiction
    intro hn
    have : flat l = true := (flat_iff l).2 fun i hi => by
      apply Classical.byContradiction
      intro hp
      exact hn ⟨i, hi, by omega⟩
    rw [this] at hf
    cases hf
  obtain ⟨i, _, hi⟩ := this
  have := tab_keeps hok h i i (by omega)
  omega
section
variable {l : List Cn} (hf : flat l = true)
include hf
theorem tab_closed {i j k : Nat} (hi : i < 6) (hj : j < 6) (hk : k < 6) (h1 : 0 ≤ tab l i k) (h2 : 0 ≤ tab l k j) : tab l i k + tab l k j ≤ tab l i j :=
  (tab_stage ((flat_iff l).1 hf) 6 (by omega)).1 k hk i j hi hj h1 h2
theorem tab_bd (i j : Nat) : -1 ≤ tab l i j ∧ tab l i j ≤ 64 := (tab_stage ((flat_iff l).1 hf) 6 (by omega)).2.1 i j
theorem tab_diag {i : Nat} (hi : i < 6) : tab l i i = 0 := (tab_stage ((flat_iff l).1 hf) 6 (by omega)).2.2 i hi
end
theorem tab_ge (l : List Cn) (i j : Nat) : start l i j ≤ tab l i j := (Up.relaxK (fun i j => by have := (start_le l i j).2; omega) 6 i j).1
theorem tab_zero (l : List Cn) (j : Nat) : 0 ≤ tab l 0 j := by
  have h1 := tab_ge l 0 j
  have h2 := start_base l 0 j
  have h3 : base 0 j = 0 := by simp [base]
  omega
/-- values that keep the distances of the nodes satisfy the list -/
theorem sat_of_keeps {v : Nat → Int} {l : List Cn} (hok : ok l) (hv : Val v) (h : ∀ i j, i < 6 → j < 6 → 0 ≤ tab l i j → v i + tab l i j ≤ v j) : SatAll v l := by
  refine ⟨hv, fun c hc => ?_⟩
  have ho := (cOk_iff c).1 (hok c hc)
  have n1 := node_lt ho.1.1 ho.1.2
  have n2 := node_lt ho.2.1.1 ho.2.1.2
  have hm := start_mem hc
  have g1 := tab_ge l (node c.1) (node c.2.2)
  have g2 := tab_ge l (node c.2.2) (node c.1)
  have k1 := h _ _ n1 n2
  have k2 := h _ _ n2 n1
  unfold Sat
  by_cases e0 : c.2.1 = 0
  · rw [if_pos e0]
    have := hm.1
    rw [if_neg (by omega)] at this
    have := k1 (by omega)
    omega
  · rw [if_neg e0]
    by_cases e1 : c.2.1 = 1
    · rw [if_pos e1]
      have := hm.1
      rw [if_pos e1] at this
      have := k1 (by omega)
      omega
    · rw [if_neg e1]
      have h1 := hm.1
      rw [if_neg e1] at h1
      have h2 := hm.2 (by omega)
      have := k1 (by omega)
      have := k2 (by omega)
      omega
/-- the least values -/
def least (l : List Cn) : Nat → Int := fun x => tab l 0 x
theorem least_sat {l : List Cn} (hok : ok l) (hf : flat l = true) : SatAll (least l) l :=
  sat_of_keeps hok ⟨tab_diag hf (by omega), fun x => tab_zero l x⟩ fun i j hi hj h => tab_closed hf (by omega) hj hi (tab_zero l i) h
theorem least_le {v : Nat → Int} {l : List Cn} (hok : ok l) (h : SatAll v l) (x : Nat) : least l x ≤ v x := by
  have := tab_keeps hok h 0 x (tab_zero l x)
  rw [h.1.1] at this
  unfold least
  omega
/-- a list is satisfiable just where no way goes round and grows -/
theorem sat_iff {l : List Cn} (hok : ok l) : flat l = true ↔ ∃ v, SatAll v l := by
  constructor
  · exact fun h => ⟨least l, least_sat hok h⟩
  · rintro ⟨v, hv⟩
    cases e : flat l with
    | true => rfl
    | false => exact absurd hv (not_flat hok e)
/-- values in which node i is N higher than it must be, and all that must follow it -/
def lifted (l : List Cn) (i : Nat) (N : Int) : Nat → Int := fun x => if 0 ≤ tab l i x then max (tab l 0 x) (N + tab l i x) else tab l 0 x
theorem lifted_sat {l : List Cn} (hok : ok l) (hf : flat l = true) {i : Nat} (hi : i < 6) (h0 : tab l i 0 < 0) (N : Int) : SatAll (lifted l i N) l := by
  refine sat_of_keeps hok ⟨?_, fun x => ?_⟩ fun a b ha hb hab => ?_
  · unfold lifted
    rw [if_neg (by omega)]
    exact tab_diag hf (by omega)
  · have := tab_zero l x
    unfold lifted
    split <;> omega
  · have c0 := tab_closed hf (by omega) hb ha (tab_zero l a) hab
    unfold lifted
    by_cases h1 : 0 ≤ tab l i a
    · have c1 := tab_closed hf hi hb ha h1 hab
      rw [if_pos h1, if_pos (by omega)]
      omega
    · rw [if_neg h1]
      split <;> omega
/-- ConsFar is just what is implied: some values keep no more than it -/
theorem far_tight {l : List Cn} (hok : ok l) (hf : flat l = true) {i j : Nat} (hi : i < 6) (hj : j < 6) : ∃ v, SatAll v l ∧ (0 ≤ tab l i j → v j = v i + tab l i j) ∧ (tab l i j < 0 → v j < v i) := by
  by_cases h0 : 0 ≤ tab l i 0
  · have c1 := tab_closed hf (i := 0) (j := 0) (k := i) (by omega) (by omega) hi (tab_zero l i) h0
    have d0 := tab_diag hf (i := 0) (by omega)
    have z := tab_zero l i
    have c2 := tab_closed hf hi hj (by omega) h0 (tab_zero l j)
    have zj := tab_zero l j
    refine ⟨least l, least_sat hok hf, fun hij => ?_, fun hij => by omega⟩
    have c3 := tab_closed hf (i := 0) (by omega) hj hi z hij
    unfold least
    omega
  · have bi := (tab_bd hf 0 i).2
    have bj := (tab_bd hf 0 j).2
    have di := tab_diag hf hi
    refine ⟨lifted l i 100, lifted_sat hok hf hi (by omega) 100, fun hij => ?_, fun hij => ?_⟩
    · unfold lifted
      rw [if_pos hij, if_pos (by omega), di]
      omega
    · unfold lifted
      rw [if_neg (by omega), if_pos (by omega), di]
      omega
/-- a distance that all values keep is at most the table's -/
theorem far_iff {l : List Cn} (hok : ok l) (hf : flat l = true) {i j : Nat} (hi : i < 6) (hj : j < 6) {w : Int} (hw : 0 ≤ w) : w ≤ tab l i j ↔ ∀ v, SatAll v l → v i + w ≤ v j := by
  constructor
  · intro h v hv
    have := tab_keeps hok hv i j (by omega)
    omega
  · intro h
    obtain ⟨v, hv, h1, h2⟩ := far_tight hok hf hi hj
    have := h v hv
    by_cases hn : 0 ≤ tab l i j
    · have := h1 hn; omega
    · have := h2 (by omega); omega
end Go.Proofs.Ytmmhcpigcdlnmaa.Cs

namespace Go.Proofs.Ytmmhcpigcdlnmaa.Cs

/-- ConsImply's answer for a satisfiable list -/
def imp (l : List Cn) (c : Cn) : Bool :=
  if c.2.1 = 0 then decide (0 ≤ tab l (node c.1) (node c.2.2)) else if c.2.1 = 1 then decide (1 ≤ tab l (node c.1) (node c.2.2)) else decide (0 ≤ tab l (node c.1) (node c.2.2)) && decide (0 ≤ tab l (node c.2.2) (node c.1))
theorem imp_iff {l : List Cn} (hok : ok l) (hf : flat l = true) {c : Cn} (hc : cOk c = true) : imp l c = true ↔ ∀ v, SatAll v l → Sat v c := by
  have ho := (cOk_iff c).1 hc
  have n1 := node_lt ho.1.1 ho.1.2
  have n2 := node_lt ho.2.1.1 ho.2.1.2
  unfold imp Sat
  by_cases e0 : c.2.1 = 0
  · rw [if_pos e0, decide_eq_true_eq, far_iff hok hf n1 n2 (Int.le_refl 0)]
    constructor
    · intro h v hv; rw [if_pos e0]; have := h v hv; omega
    · intro h v hv; have := h v hv; rw [if_pos e0] at this; omega
  · rw [if_neg e0]
    by_cases e1 : c.2.1 = 1
    · rw [if_pos e1, decide_eq_true_eq, far_iff hok hf n1 n2 (by omega)]
      constructor
      · intro h v hv; rw [if_neg e0, if_pos e1]; have := h v hv; omega
      · intro h v hv; have := h v hv; rw [if_neg e0, if_pos e1] at this; omega
    · rw [if_neg e1, Bool.and_eq_true, decide_eq_true_eq, decide_eq_true_eq, far_iff hok hf n1 n2 (Int.le_refl 0), far_iff hok hf n2 n1 (Int.le_refl 0)]
      constructor
      · rintro ⟨h1, h2⟩ v hv; rw [if_neg e0, if_neg e1]; have := h1 v hv; have := h2 v hv; omega
      · intro h
        refine ⟨fun v hv => ?_, fun v hv => ?_⟩ <;> (have := h v hv; rw [if_neg e0, if_neg e1] at this; omega)

/-- the constraints that are not gone, the first of them number k -/
def skipFrom : Nat → List Cn → (Nat → Bool) → List Cn
  | _, [], _ => []
  | k, c :: r, g => if g k = true then skipFrom (k + 1) r g else c :: skipFrom (k + 1) r g
def skip (l : List Cn) (g : Nat → Bool) : List Cn := skipFrom 0 l g
theorem mem_skipFrom {c : Cn} {g : Nat → Bool} : ∀ {l : List Cn} {k : Nat}, c ∈ skipFrom k l g ↔ ∃ i, i < l.length ∧ g (k + i) = false ∧ l.getD i (0, 0, 0) = c := by
  intro l
  induction l with
  | nil => intro k; simp [skipFrom]
  | cons x r ih =>
    intro k
    have tail : (∃ i, i < r.length ∧ g (k + 1 + i) = false ∧ r.getD i (0, 0, 0) = c) → ∃ i, i < (x :: r).length ∧ g (k + i) = false ∧ (x :: r).getD i (0, 0, 0) = c := by
      rintro ⟨i, h1, h2, h3⟩
      exact ⟨i + 1, by simpa using h1, by rw [show k + (i + 1) = k + 1 + i by omega]; exact h2, by simpa using h3⟩
    have back : ∀ i, i < (x :: r).length → g (k + i) = false → (x :: r).getD i (0, 0, 0) = c → (i = 0 ∧ x = c ∧ g k = false) ∨ ∃ i, i < r.length ∧ g (k + 1 + i) = false ∧ r.getD i (0, 0, 0) = c := by
      intro i h1 h2 h3
      cases i with
      | zero => exact .inl ⟨rfl, by simpa using h3, by simpa using h2⟩
      | succ i => exact .inr ⟨i, by simpa using h1, by rw [show k + 1 + i = k + (i + 1) by omega]; exact h2, by simpa using h3⟩
    simp only [skipFrom]
    by_cases hg : g k = true
    · rw [if_pos hg, ih]
      refine ⟨tail, fun ⟨i, h1, h2, h3⟩ => ?_⟩
      rcases back i h1 h2 h3 with ⟨_, _, h⟩ | h
      · rw [hg] at h; cases h
      · exact h
    · rw [if_neg hg, List.mem_cons, ih]
      constructor
      · rintro (rfl | h)
        · exact ⟨0, by simp, by simpa using hg, by simp⟩
        · exact tail h
      · rintro ⟨i, h1, h2, h3⟩
        rcases back i h1 h2 h3 with ⟨_, h, _⟩ | h
        · exact .inl h.symm
        · exact .inr h
theorem mem_skip {c : Cn} {g : Nat → Bool} {l : List Cn} : c ∈ skip l g ↔ ∃ i, i < l.length ∧ g i = false ∧ l.getD i (0, 0, 0) = c := by
  unfold skip
  rw [mem_skipFrom]
  simp only [Nat.zero_add]
theorem skip_ok {l : List Cn} (h : ok l) (g : Nat → Bool) : ok (skip l g) := fun c hc => by
  obtain ⟨i, hi, _, rfl⟩ := mem_skip.1 hc
  refine h _ ?_
  rw [List.getD_eq_getElem?_getD, List.getElem?_eq_getElem hi]
  exact List.getElem_mem _
def mark (g : Nat → Bool) (i : Nat) (b : Bool) : Nat → Bool := fun x => if x = i then b else g x
/-- more gone: more values satisfy what is left -/
theorem sat_more {v : Nat → Int} {l : List Cn} {g h : Nat → Bool} (hg : ∀ i, g i = true → h i = true) (hv : SatAll v (skip l g)) : SatAll v (skip l h) := by
  refine ⟨hv.1, fun c hc => hv.2 c ?_⟩
  obtain ⟨i, h1, h2, h3⟩ := mem_skip.1 hc
  refine mem_skip.2 ⟨i, h1, ?_, h3⟩
  cases e : g i with
  | false => rfl
  | true => rw [hg i e] at h2; cases h2

/-- ConsCore: what is gone behind the first n constraints -/
def coreTo (l : List Cn) : Nat → (Nat → Bool)
  | 0 => fun _ => false
  | n + 1 => if flat (skip l (mark (coreTo l n) n true)) = true then coreTo l n else mark (coreTo l n) n true
theorem coreTo_mono (l : List Cn) (n m i : Nat) (h : coreTo l n i = true) : coreTo l (n + m) i = true := by
  induction m with
  | zero => exact h
  | succ m ih =>
    show coreTo l (n + m + 1) i = true
    simp only [coreTo]
    split
    · exact ih
    · unfold mark; split
      · rfl
      · exact ih
theorem coreTo_late (l : List Cn) (n i : Nat) (hi : n ≤ i) : coreTo l n i = false := by
  induction n with
  | zero => rfl
  | succ n ih =>
    simp only [coreTo]
    split
    · exact ih (by omega)
    · unfold mark; rw [if_neg (by omega)]; exact ih (by omega)
/-- what is left is never satisfiable -/
theorem core_bad {l : List Cn} (hok : ok l) (hf : flat l = false) : ∀ n, flat (skip l (coreTo l n)) = false := by
  intro n
  induction n with
  | zero =>
    cases e : flat (skip l (coreTo l 0)) with
    | false => rfl
    | true =>
      obtain ⟨v, hv⟩ := (sat_iff (skip_ok hok _)).1 e
      refine absurd (⟨hv.1, fun c hc => hv.2 c ?_⟩ : SatAll v l) (not_flat hok hf)
      obtain ⟨i, hi, rfl⟩ := List.getElem_of_mem hc
      exact mem_skip.2 ⟨i, hi, rfl, by rw [List.getD_eq_getElem?_getD, List.getElem?_eq_getElem hi]; rfl⟩
  | succ n ih =>
    simp only [coreTo]
    by_cases h : flat (skip l (mark (coreTo l n) n true)) = true
    · rw [if_pos h]; exact ih
    · rw [if_neg h]; simpa using h
/-- without any one of those that are left the rest is satisfiable -/
theorem core_min {l : List Cn} (hok : ok l) {i : Nat} (hi : i < l.length) (hk : coreTo l l.length i = false) : flat (skip l (mark (coreTo l l.length) i true)) = true := by
  have hstep : coreTo l (i + 1) i = false := by
    cases e : coreTo l (i + 1) i with
    | false => rfl
    | true =>
      have := coreTo_mono l (i + 1) (l.length - (i + 1)) i e
      rw [show i + 1 + (l.length - (i + 1)) = l.length by omega, hk] at this
      cases this
  have hsat : flat (skip l (mark (coreTo l i) i true)) = true := by
    simp only [coreTo] at hstep
    by_cases h : flat (skip l (mark (coreTo l i) i true)) = true
    · exact h
    · rw [if_neg h] at hstep
      simp [mark] at hstep
  obtain ⟨v, hv⟩ := (sat_iff (skip_ok hok _)).1 hsat
  refine (sat_iff (skip_ok hok _)).2 ⟨v, sat_more (fun j hj => ?_) hv⟩
  unfold mark at hj ⊢
  split
  · rfl
  · rename_i e
    rw [if_neg e] at hj
    have := coreTo_mono l i (l.length - i) j hj
    rwa [show i + (l.length - i) = l.length by omega] at this

/-- ConsThin: what is gone behind the first n constraints -/
def thinTo (l : List Cn) : Nat → (Nat → Bool)
  | 0 => fun _ => false
  | n + 1 => mark (thinTo l n) n (imp (skip l (mark (thinTo l n) n true)) (l.getD n (0, 0, 0)))
theorem thinTo_late (l : List Cn) (n i : Nat) (hi : n ≤ i) : thinTo l n i = false := by
  induction n with
  | zero => rfl
  | succ n ih =>
    simp only [thinTo, mark]
    rw [if_neg (by omega)]
    exact ih (by omega)
theorem thinTo_keep (l : List Cn) (n m i : Nat) (hi : i < n) : thinTo l (n + m) i = thinTo l n i := by
  induction m with
  | zero => rfl
  | succ m ih =>
    show thinTo l (n + m + 1) i = thinTo l n i
    simp only [thinTo, mark]
    rw [if_neg (by omega)]
    exact ih
section
variable {l : List Cn} (hok : ok l) (hf : flat l = true)
include hok hf
theorem skip_flat (g : Nat → Bool) : flat (skip l g) = true := by
  obtain ⟨v, hv⟩ := (sat_iff hok).1 hf
  refine (sat_iff (skip_ok hok g)).2 ⟨v, hv.1, fun c hc => hv.2 c ?_⟩
  obtain ⟨i, hi, _, rfl⟩ := mem_skip.1 hc
  rw [List.getD_eq_getElem?_getD, List.getElem?_eq_getElem hi]
  exact List.getElem_mem _
/-- what is left says what the list says -/
theorem thin_same : ∀ n, n ≤ l.length → ∀ v, SatAll v (skip l (thinTo l n)) → SatAll v l := by
  intro n
  induction n with
  | zero =>
    intro _ v hv
    refine ⟨hv.1, fun c hc => hv.2 c ?_⟩
    obtain ⟨i, hi, rfl⟩ := List.getElem_of_mem hc
    exact mem_skip.2 ⟨i, hi, rfl, by rw [List.getD_eq_getElem?_getD, List.getElem?_eq_getElem hi]; rfl⟩
  | succ n ih =>
    intro hn v hv
    refine ih (by omega) v ?_
    have hcn : cOk (l.getD n (0, 0, 0)) = true := by
      refine hok _ ?_
      rw [List.getD_eq_getElem?_getD, List.getElem?_eq_getElem (by omega)]
      exact List.getElem_mem _
    cases hi : imp (skip l (mark (thinTo l n) n true)) (l.getD n (0, 0, 0)) with
    | false =>
      refine sat_more (fun j hj => ?_) hv
      simp only [thinTo, hi, mark] at hj
      split at hj
      · cases hj
      · exact hj
    | true =>
      have hg : thinTo l (n + 1) = mark (thinTo l n) n true := by simp only [thinTo, hi]
      rw [hg] at hv
      have hs := (imp_iff (skip_ok hok _) (skip_flat hok hf _) hcn).1 hi v hv
      refine ⟨hv.1, fun c hc => ?_⟩
      obtain ⟨i, h1, h2, rfl⟩ := mem_skip.1 hc
      by_cases e : i = n
      · subst e; exact hs
      · exact hv.2 _ (mem_skip.2 ⟨i, h1, by unfold mark; rw [if_neg e]; exact h2, rfl⟩)
/-- none of what is left is implied by the others -/
theorem thin_min {i : Nat} (hi : i < l.length) (hk : thinTo l l.length i = false) : imp (skip l (mark (thinTo l l.length) i true)) (l.getD i (0, 0, 0)) = false := by
  have hci : cOk (l.getD i (0, 0, 0)) = true := by
    refine hok _ ?_
    rw [List.getD_eq_getElem?_getD, List.getElem?_eq_getElem hi]
    exact List.getElem_mem _
  have h1 : imp (skip l (mark (thinTo l i) i true)) (l.getD i (0, 0, 0)) = false := by
    have := thinTo_keep l (i + 1) (l.length - (i + 1)) i (by omega)
    rw [show i + 1 + (l.length - (i + 1)) = l.length by omega, hk] at this
    simp only [thinTo, mark, if_true] at this
    exact this.symm
  cases e : imp (skip l (mark (thinTo l l.length) i true)) (l.getD i (0, 0, 0)) with
  | false => rfl
  | true =>
    have h2 := (imp_iff (skip_ok hok _) (skip_flat hok hf _) hci).1 e
    have h3 : imp (skip l (mark (thinTo l i) i true)) (l.getD i (0, 0, 0)) = true := (imp_iff (skip_ok hok _) (skip_flat hok hf _) hci).2 fun v hv => by
      refine h2 v (sat_more (fun j hj => ?_) hv)
      unfold mark at hj ⊢
      split
      · rfl
      · rename_i ne
        rw [if_neg ne] at hj
        have hjl : j < i := by
          apply Classical.byContradiction
          intro hge
          rw [thinTo_late l i j (by omega)] at hj
          cases hj
        have := thinTo_keep l i (l.length - i) j hjl
        rw [show i + (l.length - i) = l.length by omega] at this
        rw [this]
        exact hj
    rw [h1] at h3
    cases h3
end
end Go.Proofs.Ytmmhcpigcdlnmaa.Cs

namespace Go.Proofs.Ytmmhcpigcdlnmaa.Cs

/-- the values of the nodes in an env -/
def valOf (env : List Int) : Nat → Int
  | 0 => 0
  | x + 1 => env.getD x 0
theorem valOf_val {env : List Int} (h : ∀ p, 0 ≤ env.getD p 0) : Val (valOf env) := ⟨rfl, fun x => by
  cases x with
  | zero => exact Int.le_refl _
  | succ x => exact h x⟩
/-- the env of the least values -/
def leastEnv (l : List Cn) : List Int := (List.range 5).map fun p => tab l 0 (p + 1)
theorem leastEnv_len (l : List Cn) : (leastEnv l).length = 5 := by simp [leastEnv]
theorem leastEnv_get (l : List Cn) {p : Nat} (hp : p < 5) : (leastEnv l).getD p 0 = tab l 0 (p + 1) := by
  simp [leastEnv, List.getD_eq_getElem?_getD, hp]
/-- values that agree on the six nodes satisfy the same constraints -/
theorem sat_congr {v u : Nat → Int} {c : Cn} (hc : cOk c = true) (h : ∀ x, x < 6 → v x = u x) : Sat v c ↔ Sat u c := by
  have ho := (cOk_iff c).1 hc
  unfold Sat
  rw [h _ (node_lt ho.1.1 ho.1.2), h _ (node_lt ho.2.1.1 ho.2.1.2)]
theorem valOf_least {l : List Cn} (hf : flat l = true) : ∀ x, x < 6 → valOf (leastEnv l) x = least l x := by
  intro x hx
  cases x with
  | zero => exact (tab_diag hf (by omega)).symm
  | succ x => exact leastEnv_get l (by omega)
/-- the least env satisfies the list -/
theorem leastEnv_sat {l : List Cn} (hok : ok l) (hf : flat l = true) : SatAll (valOf (leastEnv l)) l := by
  refine ⟨valOf_val fun p => ?_, fun c hc => ?_⟩
  · by_cases hp : p < 5
    · rw [leastEnv_get l hp]; exact tab_zero l _
    · have := leastEnv_len l
      rw [List.getD_eq_getElem?_getD, List.getElem?_eq_none (by omega)]
      exact Int.le_refl _
  · exact (sat_congr (hok c hc) (valOf_least hf)).2 ((least_sat hok hf).2 c hc)
theorem leastEnv_bd {l : List Cn} (hf : flat l = true) : ∀ x ∈ leastEnv l, 0 ≤ x ∧ x ≤ 1000 := fun x hx => by
  simp only [leastEnv, List.mem_map] at hx
  obtain ⟨p, _, rfl⟩ := hx
  have := tab_zero l (p + 1)
  have := (tab_bd hf 0 (p + 1)).2
  omega
/-- it is at most every env that does -/
theorem leastEnv_le {l : List Cn} (hok : ok l) {env : List Int} (h : SatAll (valOf env) l) {p : Nat} (hp : p < 5) : (leastEnv l).getD p 0 ≤ env.getD p 0 := by
  rw [leastEnv_get l hp]
  exact least_le hok h (p + 1)
/-- a list is satisfiable by some env just where no way goes round and grows -/
theorem env_iff {l : List Cn} (hok : ok l) : flat l = true ↔ ∃ env : List Int, env.length = 5 ∧ (∀ x ∈ env, 0 ≤ x ∧ x ≤ 1000) ∧ SatAll (valOf env) l :=
  ⟨fun h => ⟨leastEnv l, leastEnv_len l, leastEnv_bd h, leastEnv_sat hok h⟩, fun ⟨_, _, _, h⟩ => (sat_iff hok).2 ⟨_, h⟩⟩

/-- the constraint that a sign lays on a parameter: positive, or 0 -/
def signC (pos : Bool) (p : Nat) : Cn := if pos = true then (-1, 1, (p : Int)) else ((p : Int), 0, -1)
theorem signC_ok (pos : Bool) {p : Nat} (hp : p < 5) : cOk (signC pos p) = true := by
  rw [cOk_iff]
  unfold signC
  split <;> (simp only; omega)
theorem signC_sat {v : Nat → Int} (hv : Val v) (pos : Bool) (p : Nat) : Sat v (signC pos p) ↔ (pos = true ↔ 0 < v (p + 1)) := by
  have h0 := hv.1
  have h1 := hv.2 (p + 1)
  have n1 : node (p : Int) = p + 1 := by unfold node; omega
  have n2 : node (-1) = 0 := rfl
  cases pos with
  | true =>
    have e : Sat v (signC true p) ↔ v 0 < v (p + 1) := by
      have e1 : signC true p = (-1, 1, (p : Int)) := rfl
      rw [e1, Sat, if_neg (show ¬ ((1 : Int) = 0) by decide), if_pos rfl, n1, n2]
    rw [e, h0]
    exact ⟨fun h => ⟨fun _ => h, fun _ => rfl⟩, fun h => h.1 rfl⟩
  | false =>
    have e : Sat v (signC false p) ↔ v (p + 1) ≤ v 0 := by
      have e1 : signC false p = ((p : Int), 0, -1) := rfl
      rw [e1, Sat, if_pos rfl, n1, n2]
    rw [e, h0]
    refine ⟨fun h => ⟨(fun e => by cases e), (fun e => by omega)⟩, fun h => ?_⟩
    apply Classical.byContradiction
    intro hn
    have := h.2 (by omega)
    cases this
/-- a list with the constraints of a sign -/
def signed (l : List Cn) (s : Nat → Bool) : List Cn := l ++ (List.range 5).map fun p => signC (s p) p
theorem signed_ok {l : List Cn} (h : ok l) (s : Nat → Bool) : ok (signed l s) := fun c hc => by
  rcases List.mem_append.1 hc with hc | hc
  · exact h c hc
  · obtain ⟨p, hp, rfl⟩ := List.mem_map.1 hc
    exact signC_ok _ (List.mem_range.1 hp)
theorem signed_sat {v : Nat → Int} {l : List Cn} {s : Nat → Bool} : SatAll v (signed l s) ↔ SatAll v l ∧ ∀ p, p < 5 → (s p = true ↔ 0 < v (p + 1)) := by
  constructor
  · rintro ⟨hv, h⟩
    refine ⟨⟨hv, fun c hc => h c (List.mem_append.2 (.inl hc))⟩, fun p hp => (signC_sat hv (s p) p).1 (h _ (List.mem_append.2 (.inr (List.mem_map.2 ⟨p, List.mem_range.2 hp, rfl⟩))))⟩
  · rintro ⟨⟨hv, h⟩, hs⟩
    refine ⟨hv, fun c hc => ?_⟩
    rcases List.mem_append.1 hc with hc | hc
    · exact h c hc
    · obtain ⟨p, hp, rfl⟩ := List.mem_map.1 hc
      exact (signC_sat hv (s p) p).2 (hs p (List.mem_range.1 hp))
/-- a sign is one of a satisfying env just where the list with its constraints is satisfiable -/
theorem signs_iff {l : List Cn} (hok : ok l) (s : Nat → Bool) : flat (signed l s) = true ↔ ∃ env : List Int, env.length = 5 ∧ (∀ x ∈ env, 0 ≤ x ∧ x ≤ 1000) ∧ SatAll (valOf env) l ∧ ∀ p, p < 5 → (s p = true ↔ 0 < env.getD p 0) := by
  rw [env_iff (signed_ok hok s)]
  constructor
  · rintro ⟨env, h5, hb, h⟩
    have := signed_sat.1 h
    exact ⟨env, h5, hb, this.1, this.2⟩
  · rintro ⟨env, h5, hb, h1, h2⟩
    exact ⟨env, h5, hb, signed_sat.2 ⟨h1, h2⟩⟩
end Go.Proofs.Ytmmhcpigcdlnmaa.Cs

namespace Go.Proofs.Ytmmhcpigcdlnmaa.Cs

/-- one step of lengthening -/
def ext1 (t e : Tb) (i k j : Nat) (o : Tb) : Tb := if t i k ≠ -1 ∧ e k j ≠ -1 then put o i j (max (o i j) (t i k + e k j)) else o
def extJ (t e : Tb) (i k : Nat) : Nat → Tb → Tb
  | 0, o => o
  | n + 1, o => ext1 t e i k n (extJ t e i k n o)
def extK (t e : Tb) (i : Nat) : Nat → Tb → Tb
  | 0, o => o
  | n + 1, o => extJ t e i n 6 (extK t e i n o)
def extI (t e : Tb) : Nat → Tb → Tb
  | 0, o => o
  | n + 1, o => extK t e n 6 (extI t e n o)
/-- all ways with up to one more edge -/
def ext (t e : Tb) : Tb := extI t e 6 t
theorem extJ_skip {t e : Tb} {i k : Nat} (h : t i k = -1) : ∀ n o, extJ t e i k n o = o
  | 0, _ => rfl
  | n + 1, o => by
    show ext1 t e i k n (extJ t e i k n o) = o
    rw [extJ_skip h n o]
    exact if_neg (fun c => c.1 h)

theorem ext1_ge (t e : Tb) (i k j : Nat) (o : Tb) : Ge o (ext1 t e i k j o) := by
  unfold ext1
  split
  · exact ge_put o i j _
  · exact fun _ _ => Int.le_refl _
theorem ge_trans {a b c : Tb} (h : Ge a b) (k : Ge b c) : Ge a c := fun i j => Int.le_trans (h i j) (k i j)
theorem extJ_ge (t e : Tb) (i k : Nat) : ∀ n o, Ge o (extJ t e i k n o)
  | 0, _ => fun _ _ => Int.le_refl _
  | n + 1, o => ge_trans (extJ_ge t e i k n o) (ext1_ge t e i k n _)
theorem extK_ge (t e : Tb) (i : Nat) : ∀ n o, Ge o (extK t e i n o)
  | 0, _ => fun _ _ => Int.le_refl _
  | n + 1, o => ge_trans (extK_ge t e i n o) (extJ_ge t e i n 6 _)
theorem extI_ge (t e : Tb) : ∀ n o, Ge o (extI t e n o)
  | 0, _ => fun _ _ => Int.le_refl _
  | n + 1, o => ge_trans (extI_ge t e n o) (extK_ge t e n 6 _)
theorem ext_ge (t e : Tb) : Ge t (ext t e) := extI_ge t e 6 t

theorem extJ_has {t e : Tb} {i k : Nat} (h1 : t i k ≠ -1) : ∀ n o j, j < n → e k j ≠ -1 → t i k + e k j ≤ extJ t e i k n o i j
  | 0, _, j, hj, _ => absurd hj (by omega)
  | n + 1, o, j, hj, h2 => by
    by_cases h : j = n
    · subst h
      show _ ≤ ext1 t e i k j (extJ t e i k j o) i j
      unfold ext1
      rw [if_pos ⟨h1, h2⟩, put_same]
      omega
    · exact Int.le_trans (extJ_has h1 n o j (by omega) h2) (ext1_ge t e i k n _ i j)
theorem extK_has {t e : Tb} {i : Nat} : ∀ n o k j, k < n → j < 6 → t i k ≠ -1 → e k j ≠ -1 → t i k + e k j ≤ extK t e i n o i j
  | 0, _, k, _, hk, _, _, _ => absurd hk (by omega)
  | n + 1, o, k, j, hk, hj, h1, h2 => by
    by_cases h : k = n
    · subst h
      exact extJ_has h1 6 _ j hj h2
    · exact Int.le_trans (extK_has n o k j (by omega) hj h1 h2) (extJ_ge t e i n 6 _ i j)
theorem extI_has {t e : Tb} : ∀ n o i k j, i < n → k < 6 → j < 6 → t i k ≠ -1 → e k j ≠ -1 → t i k + e k j ≤ extI t e n o i j
  | 0, _, i, _, _, hi, _, _, _, _ => absurd hi (by omega)
  | n + 1, o, i, k, j, hi, hk, hj, h1, h2 => by
    by_cases h : i = n
    · subst h
      exact extK_has 6 _ k j hk hj h1 h2
    · exact Int.le_trans (extI_has n o i k j (by omega) hk hj h1 h2) (extK_ge t e n 6 _ i j)
theorem ext_has {t e : Tb} {i k j : Nat} (hi : i < 6) (hk : k < 6) (hj : j < 6) (h1 : t i k ≠ -1) (h2 : e k j ≠ -1) : t i k + e k j ≤ ext t e i j := extI_has 6 t i k j hi hk hj h1 h2

/-- each place is as it was, or a way with one more edge -/
def Of (t e o : Tb) : Prop := ∀ a b, o a b = t a b ∨ ∃ k, k < 6 ∧ t a k ≠ -1 ∧ e k b ≠ -1 ∧ o a b = t a k + e k b
theorem Of.ext1 {t e o : Tb} (h : Of t e o) {i k : Nat} (hk : k < 6) (j : Nat) : Of t e (ext1 t e i k j o) := by
  unfold Cs.ext1
  split
  · rename_i hc
    intro a b
    by_cases hab : a = i ∧ b = j
    · obtain ⟨rfl, rfl⟩ := hab
      rw [put_same]
      by_cases hm : o a b ≤ t a k + e k b
      · exact .inr ⟨k, hk, hc.1, hc.2, by omega⟩
      · rw [show max (o a b) (t a k + e k b) = o a b by omega]
        exact h a b
    · rw [put_other o _ hab]
      exact h a b
  · exact h
theorem Of.extJ {t e o : Tb} (h : Of t e o) {i k : Nat} (hk : k < 6) : ∀ n, Of t e (extJ t e i k n o)
  | 0 => h
  | n + 1 => (Of.extJ h hk n).ext1 hk n
theorem Of.extK {t e o : Tb} (h : Of t e o) {i : Nat} : ∀ n, n ≤ 6 → Of t e (extK t e i n o)
  | 0, _ => h
  | n + 1, hn => (Of.extK h n (by omega)).extJ (by omega) 6
theorem Of.extI {t e o : Tb} (h : Of t e o) : ∀ n, Of t e (extI t e n o)
  | 0 => h
  | n + 1 => (Of.extI h n).extK 6 (by omega)
theorem ext_of (t e : Tb) : Of t e (ext t e) := Of.extI (fun _ _ => .inl rfl) 6

/-- ways with up to n + 1 edges -/
def ways (e : Tb) : Nat → Tb
  | 0 => e
  | n + 1 => ext (ways e n) e
theorem ways_mono (e : Tb) (n i j : Nat) : ways e n i j ≤ ways e (n + 1) i j := ext_ge (ways e n) e i j
theorem ways_le (e : Tb) (i j : Nat) (n : Nat) : ∀ m, ways e n i j ≤ ways e (n + m) i j
  | 0 => Int.le_refl _
  | m + 1 => Int.le_trans (ways_le e i j n m) (ways_mono e (n + m) i j)
theorem ways_bd {e : Tb} (he : ∀ i j, -1 ≤ e i j ∧ e i j ≤ 1) : ∀ n i j, -1 ≤ ways e n i j ∧ ways e n i j ≤ (n : Int) + 1
  | 0, i, j => by have := he i j; exact ⟨this.1, by show e i j ≤ _; omega⟩
  | n + 1, i, j => by
    have h0 := ways_bd he n i j
    have hm := ways_mono e n i j
    rcases ext_of (ways e n) e i j with h | ⟨k, _, _, _, h⟩
    · have h' : ways e (n + 1) i j = ways e n i j := h
      omega
    · have h' : ways e (n + 1) i j = ways e n i k + e k j := h
      have h1 := ways_bd he n i k
      have h2 := he k j
      omega
/-- tables that are equal at the six nodes -/
def Same (a b : Tb) : Prop := ∀ i j, i < 6 → j < 6 → a i j = b i j

section
variable {l : List Cn} {n : Nat}
/-- a table that stays is closed -/
theorem fix_trans (h : Same (ways (start l) (n + 1)) (ways (start l) n)) : ∀ m i k j, i < 6 → k < 6 → j < 6 → 0 ≤ ways (start l) n i k → 0 ≤ ways (start l) m k j → ways (start l) n i k + ways (start l) m k j ≤ ways (start l) n i j := by
  intro m
  induction m with
  | zero =>
    intro i k j hi hk hj h1 h2
    rw [← h i j hi hj]
    exact ext_has hi hk hj (by omega) (by show start l k j ≠ -1; have : 0 ≤ start l k j := h2; omega)
  | succ m ih =>
    intro i k j hi hk hj h1 h2
    rcases ext_of (ways (start l) m) (start l) k j with hx | ⟨p, hp, q1, q2, hx⟩
    · have hx' : ways (start l) (m + 1) k j = ways (start l) m k j := hx
      rw [hx'] at h2 ⊢
      exact ih i k j hi hk hj h1 h2
    · have hx' : ways (start l) (m + 1) k j = ways (start l) m k p + start l p j := hx
      have b1 := (ways_bd (start_le l) m k p).1
      have c1 := ih i k p hi hk hp h1 (by omega)
      have c2 : ways (start l) n i p + start l p j ≤ ways (start l) n i j := by
        rw [← h i j hi hj]
        exact ext_has hi hp hj (by omega) q2
      omega
theorem le_relax {d T : Tb} (hT : ∀ i k j, i < 6 → k < 6 → j < 6 → 0 ≤ T i k → 0 ≤ T k j → T i k + T k j ≤ T i j) (h : ∀ i j, i < 6 → j < 6 → d i j ≤ T i j) {k i j : Nat} (hk : k < 6) (hi : i < 6) (hj : j < 6) : ∀ a b, a < 6 → b < 6 → relax k i j d a b ≤ T a b := by
  intro a b ha hb
  unfold relax
  split
  · rename_i hc
    by_cases hab : a = i ∧ b = j
    · obtain ⟨rfl, rfl⟩ := hab
      rw [put_same]
      have h1 := h a k ha hk
      have h2 := h k b hk hb
      have h3 := hT a k b ha hk hb (by omega) (by omega)
      have h4 := h a b ha hb
      omega
    · rw [put_other d _ hab]
      exact h a b ha hb
  · exact h a b ha hb
theorem le_relaxJ {d T : Tb} (hT : ∀ i k j, i < 6 → k < 6 → j < 6 → 0 ≤ T i k → 0 ≤ T k j → T i k + T k j ≤ T i j) (h : ∀ i j, i < 6 → j < 6 → d i j ≤ T i j) {k i : Nat} (hk : k < 6) (hi : i < 6) : ∀ n, n ≤ 6 → ∀ a b, a < 6 → b < 6 → relaxJ k i n d a b ≤ T a b
  | 0, _ => h
  | n + 1, hn => le_relax hT (le_relaxJ hT h hk hi n (by omega)) hk hi (by omega)
theorem le_relaxI {d T : Tb} (hT : ∀ i k j, i < 6 → k < 6 → j < 6 → 0 ≤ T i k → 0 ≤ T k j → T i k + T k j ≤ T i j) (h : ∀ i j, i < 6 → j < 6 → d i j ≤ T i j) {k : Nat} (hk : k < 6) : ∀ n, n ≤ 6 → ∀ a b, a < 6 → b < 6 → relaxI k n d a b ≤ T a b
  | 0, _ => h
  | n + 1, hn => le_relaxJ hT (le_relaxI hT h hk n (by omega)) hk (by omega) 6 (by omega)
theorem le_relaxK {d T : Tb} (hT : ∀ i k j, i < 6 → k < 6 → j < 6 → 0 ≤ T i k → 0 ≤ T k j → T i k + T k j ≤ T i j) (h : ∀ i j, i < 6 → j < 6 → d i j ≤ T i j) : ∀ n, n ≤ 6 → ∀ a b, a < 6 → b < 6 → relaxK n d a b ≤ T a b
  | 0, _ => h
  | n + 1, hn => le_relaxI hT (le_relaxK hT h n (by omega)) (by omega) 6 (by omega)
theorem ways_start (l : List Cn) (n i j : Nat) : start l i j ≤ ways (start l) n i j := by
  have := ways_le (start l) i j 0 n
  rw [Nat.zero_add] at this
  exact this
theorem tab_le_fix (h : Same (ways (start l) (n + 1)) (ways (start l) n)) : ∀ i j, i < 6 → j < 6 → tab l i j ≤ ways (start l) n i j :=
  le_relaxK (fun i k j hi hk hj h1 h2 => fix_trans h n i k j hi hk hj h1 h2) (fun i j _ _ => ways_start l n i j) 6 (by omega)
/-- where the table stays, no way goes round and grows -/
theorem fix_flat (h : Same (ways (start l) (n + 1)) (ways (start l) n)) : flat l = true := by
  rw [flat_iff]
  intro i hi
  have h1 := tab_le_fix h i i hi hi
  have h2 := fix_trans h n i i i hi hi hi
  omega
theorem ways_tab (hf : flat l = true) : ∀ n i j, i < 6 → j < 6 → ways (start l) n i j ≤ tab l i j
  | 0, i, j, _, _ => tab_ge l i j
  | n + 1, i, j, hi, hj => by
    rcases ext_of (ways (start l) n) (start l) i j with hx | ⟨k, hk, q1, q2, hx⟩
    · have hx' : ways (start l) (n + 1) i j = ways (start l) n i j := hx
      rw [hx']
      exact ways_tab hf n i j hi hj
    · have hx' : ways (start l) (n + 1) i j = ways (start l) n i k + start l k j := hx
      rw [hx']
      have b1 := (ways_bd (start_le l) n i k).1
      have b2 := (start_le l k j).1
      have c1 := ways_tab hf n i k hi hk
      have c2 := tab_ge l k j
      have c3 := tab_closed hf hi hj hk (by omega) (by omega)
      omega
theorem fix_tab (h : Same (ways (start l) (n + 1)) (ways (start l) n)) : Same (ways (start l) n) (tab l) := fun i j hi hj =>
  Int.le_antisymm (ways_tab (fix_flat h) n i j hi hj) (tab_le_fix h i j hi hj)
end

/-- a least one of finitely many -/
theorem least_of (P : Nat → Prop) (f : Nat → Int) : ∀ N, (∃ j, j < N ∧ P j) → ∃ j, j < N ∧ P j ∧ ∀ k, k < N → P k → f j ≤ f k
  | 0, h => by obtain ⟨j, hj, _⟩ := h; omega
  | N + 1, h => by
    by_cases hN : P N
    · by_cases hr : ∃ j, j < N ∧ P j
      · obtain ⟨j, hj, hp, hm⟩ := least_of P f N hr
        by_cases hc : f j ≤ f N
        · refine ⟨j, by omega, hp, fun k hk hpk => ?_⟩
          by_cases e : k = N
          · rw [e]; exact hc
          · exact hm k (by omega) hpk
        · refine ⟨N, by omega, hN, fun k hk hpk => ?_⟩
          by_cases e : k = N
          · rw [e]; exact Int.le_refl _
          · have := hm k (by omega) hpk; omega
      · refine ⟨N, by omega, hN, fun k hk hpk => ?_⟩
        by_cases e : k = N
        · rw [e]; exact Int.le_refl _
        · exact absurd ⟨k, by omega, hpk⟩ hr
    · obtain ⟨j, hj, hp⟩ := h
      have hjn : j ≠ N := fun e => hN (e ▸ hp)
      obtain ⟨j, hj, hp, hm⟩ := least_of P f N ⟨j, by omega, hp⟩
      refine ⟨j, by omega, hp, fun k hk hpk => ?_⟩
      have hkn : k ≠ N := fun e => hN (e ▸ hpk)
      exact hm k (by omega) hpk

section
variable {l : List Cn}
/-- node j's place in row i stays from n on -/
def Fin' (l : List Cn) (i n j : Nat) : Prop := ∀ m, ways (start l) (n + m) i j = ways (start l) n i j
theorem fin_step (hok : ok l) (hf : flat l = true) {i n : Nat} (hi6 : i < 6) (h : ∃ j, j < 6 ∧ ¬ Fin' l i n j) : ∃ j, j < 6 ∧ ¬ Fin' l i n j ∧ Fin' l i (n + 1) j := by
  have hk : Keeps (least l) (start l) := keeps_start (least_sat hok hf).1 hok (least_sat hok hf).2
  by_cases hA : ∃ j, j < 6 ∧ (¬ Fin' l i n j ∧ 0 ≤ ways (start l) (n + 1) i j)
  · obtain ⟨j, hj, ⟨hnf, h0⟩, hm⟩ := least_of (fun j => ¬ Fin' l i n j ∧ 0 ≤ ways (start l) (n + 1) i j) (fun j => least l j - ways (start l) (n + 1) i j) 6 hA
    have main : ∀ m x, x < 6 → ¬ Fin' l i n x → 0 ≤ ways (start l) (n + 1 + m) i x → least l j - ways (start l) (n + 1) i j ≤ least l x - ways (start l) (n + 1 + m) i x := by
      intro m
      induction m with
      | zero => intro x hx hn h0; exact hm x hx ⟨hn, h0⟩
      | succ m ih =>
        intro x hx hn h1
        rcases ext_of (ways (start l) (n + 1 + m)) (start l) i x with hx' | ⟨k, hk6, q1, q2, hx'⟩
        · have e : ways (start l) (n + 1 + (m + 1)) i x = ways (start l) (n + 1 + m) i x := hx'
          rw [e] at h1 ⊢
          exact ih x hx hn h1
        · have e : ways (start l) (n + 1 + (m + 1)) i x = ways (start l) (n + 1 + m) i k + start l k x := hx'
          have b1 := (ways_bd (start_le l) (n + 1 + m) i k).1
          have b2 := (start_le l k x).1
          have c1 := hk k x (by omega)
          by_cases hfk : Fin' l i n k
          · have e2 : ways (start l) (n + 1 + m) i k = ways (start l) n i k := by
              have := hfk (1 + m)
              rw [← Nat.add_assoc] at this
              exact this
            have c2 : ways (start l) n i k + start l k x ≤ ways (start l) (n + 1) i x := ext_has hi6 hk6 hx (by omega) q2
            have c3 := hm x hx ⟨hn, by omega⟩
            have c3' : least l j - ways (start l) (n + 1) i j ≤ least l x - ways (start l) (n + 1) i x := c3
            omega
          · have c4 := ih k hk6 hfk (by omega)
            omega
    refine ⟨j, hj, hnf, fun m => ?_⟩
    have c1 := ways_le (start l) i j (n + 1) m
    have c2 := main m j hj hnf (by omega)
    omega
  · exfalso
    obtain ⟨j, hj, hn⟩ := h
    have hst : ∀ x, x < 6 → ways (start l) (n + 1) i x = ways (start l) n i x := fun x hx => by
      by_cases hfx : Fin' l i n x
      · exact hfx 1
      · have h1 : ¬ 0 ≤ ways (start l) (n + 1) i x := fun h0 => hA ⟨x, hx, hfx, h0⟩
        have h2 := ways_mono (start l) n i x
        have h3 := (ways_bd (start_le l) n i x).1
        omega
    have all : ∀ m x, x < 6 → ways (start l) (n + m) i x = ways (start l) n i x := by
      intro m
      induction m with
      | zero => intro x _; rfl
      | succ m ih =>
        intro x hx
        have hmo := ways_mono (start l) (n + m) i x
        rw [ih x hx] at hmo
        refine Int.le_antisymm ?_ hmo
        rcases ext_of (ways (start l) (n + m)) (start l) i x with hx' | ⟨k, hk6, q1, q2, hx'⟩
        · have e : ways (start l) (n + (m + 1)) i x = ways (start l) (n + m) i x := hx'
          rw [e, ih x hx]
          exact Int.le_refl _
        · have e : ways (start l) (n + (m + 1)) i x = ways (start l) (n + m) i k + start l k x := hx'
          rw [ih k hk6] at e q1
          rw [e, ← hst x hx]
          exact ext_has hi6 hk6 hx q1 q2
    exact hn fun m => all m j hj
theorem fin_mono {i n j : Nat} (h : Fin' l i n j) : Fin' l i (n + 1) j := fun m => by
  have h1 := h (1 + m)
  have h2 := h 1
  rw [← Nat.add_assoc] at h1
  rw [h1, h2]
theorem fin_own (hf : flat l = true) {i : Nat} (hi : i < 6) : Fin' l i 0 i := fun m => by
  have h1 := ways_tab hf (0 + m) i i hi hi
  have h2 := ways_tab hf 0 i i hi hi
  have h3 := ways_start l (0 + m) i i
  have h4 := ways_start l 0 i i
  have h5 := start_base l i i
  have h6 : base i i = 0 := if_pos (.inl rfl)
  have h7 := tab_diag hf hi
  omega
open Classical in
/-- how many places of a row stay from n on -/
noncomputable def fins (l : List Cn) (i n : Nat) (j : Nat) : Nat := if Fin' l i n j then 1 else 0
theorem fins_le (i n j : Nat) : fins l i n j ≤ 1 := by unfold fins; split <;> omega
theorem fins_mono (i n j : Nat) : fins l i n j ≤ fins l i (n + 1) j := by
  unfold fins
  by_cases h : Fin' l i n j
  · rw [if_pos h, if_pos (fin_mono h)]; exact Nat.le_refl _
  · rw [if_neg h]; exact Nat.zero_le _
theorem fins_new {i n j : Nat} (h1 : ¬ Fin' l i n j) (h2 : Fin' l i (n + 1) j) : fins l i n j + 1 ≤ fins l i (n + 1) j := by
  unfold fins
  rw [if_neg h1, if_pos h2]
  omega
def cnt (f : Nat → Nat) : Nat := f 0 + f 1 + f 2 + f 3 + f 4 + f 5
theorem cnt_one (f : Nat → Nat) {j : Nat} (hj : j < 6) : f j ≤ cnt f := by
  unfold cnt
  obtain rfl | rfl | rfl | rfl | rfl | rfl : j = 0 ∨ j = 1 ∨ j = 2 ∨ j = 3 ∨ j = 4 ∨ j = 5 := by omega
  all_goals omega
theorem cnt_more (f g : Nat → Nat) (h : ∀ j, f j ≤ g j) {j : Nat} (hj : j < 6) (hs : f j + 1 ≤ g j) : cnt f + 1 ≤ cnt g := by
  unfold cnt
  have h0 := h 0; have h1 := h 1; have h2 := h 2; have h3 := h 3; have h4 := h 4; have h5 := h 5
  obtain rfl | rfl | rfl | rfl | rfl | rfl : j = 0 ∨ j = 1 ∨ j = 2 ∨ j = 3 ∨ j = 4 ∨ j = 5 := by omega
  all_goals omega
theorem cnt_full (f : Nat → Nat) (h : ∀ j, f j ≤ 1) (hc : 6 ≤ cnt f) {j : Nat} (hj : j < 6) : f j = 1 := by
  unfold cnt at hc
  have h0 := h 0; have h1 := h 1; have h2 := h 2; have h3 := h 3; have h4 := h 4; have h5 := h 5
  obtain rfl | rfl | rfl | rfl | rfl | rfl : j = 0 ∨ j = 1 ∨ j = 2 ∨ j = 3 ∨ j = 4 ∨ j = 5 := by omega
  all_goals omega
theorem fin_count (hok : ok l) (hf : flat l = true) {i : Nat} (hi : i < 6) : ∀ n, (∀ j, j < 6 → Fin' l i n j) ∨ n + 1 ≤ cnt (fins l i n)
  | 0 => .inr (by
      have h := cnt_one (fins l i 0) hi
      have : fins l i 0 i = 1 := if_pos (fin_own hf hi)
      omega)
  | n + 1 => by
    rcases fin_count hok hf hi n with h | h
    · exact .inl fun j hj => fin_mono (h j hj)
    · by_cases ha : ∃ j, j < 6 ∧ ¬ Fin' l i n j
      · obtain ⟨j, hj, h1, h2⟩ := fin_step hok hf hi ha
        have := cnt_more (fins l i n) (fins l i (n + 1)) (fun j => fins_mono i n j) hj (fins_new h1 h2)
        exact .inr (by omega)
      · refine .inl fun j hj => fin_mono ?_
        by_cases hx : Fin' l i n j
        · exact hx
        · exact absurd ⟨j, hj, hx⟩ ha
/-- a list that can be satisfied: the table stays by the sixth time -/
theorem ways_stay (hok : ok l) (hf : flat l = true) : Same (ways (start l) 6) (ways (start l) 5) := fun i j hi hj => by
  rcases fin_count hok hf hi 5 with h | h
  · exact h j hj 1
  · have h1 := cnt_full (fins l i 5) (fun j => fins_le i 5 j) h hj
    unfold fins at h1
    by_cases hx : Fin' l i 5 j
    · exact hx 1
    · rw [if_neg hx] at h1
      cases h1
end
end Go.Proofs.Ytmmhcpigcdlnmaa.Cs

namespace Go.Proofs.Ytmmhcpigcdlnmaa.Cs

/-- the indices that are not gone -/
def keptI (l : List Cn) (g : Nat → Bool) : List Nat := (List.range l.length).filter fun i => !g i
/-- the constraints at indices -/
def pickC (l : List Cn) (is : List Nat) : List Cn := is.map fun i => l.getD i (0, 0, 0)
theorem skipFrom_eq (g : Nat → Bool) : ∀ (l : List Cn) (k : Nat), skipFrom k l g = ((List.range' k l.length).filter fun i => !g i).map fun i => l.getD (i - k) (0, 0, 0)
  | [], k => by simp [skipFrom]
  | x :: r, k => by
    have ih := skipFrom_eq g r (k + 1)
    have e : ((List.range' (k + 1) r.length).filter fun i => !g i).map (fun i => r.getD (i - (k + 1)) (0, 0, 0)) = ((List.range' (k + 1) r.length).filter fun i => !g i).map fun i => (x :: r).getD (i - k) (0, 0, 0) := by
      apply List.map_congr_left
      intro i hi
      have h1 := (List.mem_range'_1.1 (List.mem_filter.1 hi).1).1
      rw [show i - k = (i - (k + 1)) + 1 by omega]
      simp
    simp only [skipFrom, List.length_cons, List.range'_succ, List.filter_cons]
    by_cases h : g k = true
    · rw [if_pos h, ih, e]
      simp [h]
    · rw [if_neg h, ih, e]
      simp [h]
theorem skip_eq (l : List Cn) (g : Nat → Bool) : skip l g = pickC l (keptI l g) := by
  unfold skip pickC keptI
  rw [skipFrom_eq g l 0, List.range_eq_range']
  simp
theorem kept_del (l : List Cn) (g : Nat → Bool) (i : Nat) : (keptI l g).filter (fun x => !decide (x = i)) = keptI l (mark g i true) := by
  unfold keptI
  rw [List.filter_filter]
  apply List.filter_congr
  intro x _
  unfold mark
  by_cases h : x = i <;> simp [h]
theorem kept_none (l : List Cn) : keptI l (fun _ => false) = List.range l.length := by
  unfold keptI
  simp
theorem kept_lt {l : List Cn} {g : Nat → Bool} {i : Nat} (h : i ∈ keptI l g) : i < l.length := List.mem_range.1 (List.mem_filter.1 h).1
theorem kept_len (l : List Cn) (g : Nat → Bool) : (keptI l g).length ≤ l.length := by
  have := List.length_filter_le (fun i => !g i) (List.range l.length)
  rw [List.length_range] at this
  exact this
theorem skip_len (l : List Cn) (g : Nat → Bool) : (skip l g).length ≤ l.length := by
  rw [skip_eq]
  unfold pickC
  rw [List.length_map]
  exact kept_len l g
/-- up to n: what the model has found so far -/
def foundI (g : Nat → Bool) (n : Nat) : List Nat := (List.range n).filter fun i => !g i
theorem foundI_all (l : List Cn) (g : Nat → Bool) : foundI g l.length = keptI l g := rfl
theorem foundI_succ (g : Nat → Bool) (n : Nat) : foundI g (n + 1) = if g n = true then foundI g n else foundI g n ++ [n] := by
  unfold foundI
  rw [List.range_succ, List.filter_append]
  by_cases h : g n = true
  · rw [if_pos h]; simp [h]
  · rw [if_neg h]; simp [h]
theorem foundI_congr {g h : Nat → Bool} {n : Nat} (e : ∀ i, i < n → g i = h i) : foundI g n = foundI h n := by
  unfold foundI
  apply List.filter_congr
  intro i hi
  rw [e i (List.mem_range.1 hi)]
theorem core_found (l : List Cn) (n : Nat) : foundI (coreTo l (n + 1)) (n + 1) = if flat (skip l (mark (coreTo l n) n true)) = true then foundI (coreTo l n) n ++ [n] else foundI (coreTo l n) n := by
  by_cases h : flat (skip l (mark (coreTo l n) n true)) = true
  · have e : coreTo l (n + 1) = coreTo l n := by simp only [coreTo]; rw [if_pos h]
    rw [if_pos h, e, foundI_succ, if_neg (by rw [coreTo_late l n n (Nat.le_refl _)]; decide)]
  · have e : coreTo l (n + 1) = mark (coreTo l n) n true := by simp only [coreTo]; rw [if_neg h]
    rw [if_neg h, e, foundI_succ, if_pos (by simp [mark])]
    exact foundI_congr fun i hi => by simp [mark, Nat.ne_of_lt hi]
theorem foundI_len (g : Nat → Bool) (n : Nat) : (foundI g n).length ≤ n := by
  have := List.length_filter_le (fun i => !g i) (List.range n)
  rw [List.length_range] at this
  exact this
end Go.Proofs.Ytmmhcpigcdlnmaa.Cs
