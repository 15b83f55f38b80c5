/- Plain facts for constraints: a table of the longest ways between six nodes, made step by step in place; what it tells of the values that satisfy all constraints. Nothing of the program is imported. -/
namespace Go.Proofs.Ytmmhcpigcdlnmaa.Cs

/-- a table of numbers between nodes -/
abbrev Tb := Nat → Nat → Int
def put (d : Tb) (i j : Nat) (x : Int) : Tb := fun a b => if a = i ∧ b = j then x else d a b
theorem put_same (d : Tb) (i j : Nat) (x : Int) : put d i j x i j = x := by simp [put]
theorem put_other (d : Tb) {i j a b : Nat} (x : Int) (h : ¬ (a = i ∧ b = j)) : put d i j x a b = d a b := by simp only [put, if_neg h]
/-- one step: the way by k -/
def relax (k i j : Nat) (d : Tb) : Tb := if 0 ≤ d i k ∧ 0 ≤ d k j then put d i j (min 1000 (max (d i j) (d i k + d k j))) else d
def relaxJ (k i : Nat) : Nat → Tb → Tb
  | 0, d => d
  | n + 1, d => relax k i n (relaxJ k i n d)
def relaxI (k : Nat) : Nat → Tb → Tb
  | 0, d => d
  | n + 1, d => relaxJ k n 6 (relaxI k n d)
def relaxK : Nat → Tb → Tb
  | 0, d => d
  | n + 1, d => relaxI n 6 (relaxK n d)

/-- values that keep all distances of the table -/
def Keeps (v : Nat → Int) (d : Tb) : Prop := ∀ i j, 0 ≤ d i j → v i + d i j ≤ v j
theorem Keeps.relax {v : Nat → Int} {d : Tb} (h : Keeps v d) (k i j : Nat) : Keeps v (relax k i j d) := by
  unfold Cs.relax
  split
  · rename_i hc
    intro a b hab
    by_cases e : a = i ∧ b = j
    · obtain ⟨rfl, rfl⟩ := e
      rw [put_same] at hab ⊢
      have h1 := h a k hc.1
      have h2 := h k b hc.2
      by_cases h3 : 0 ≤ d a b
      · have := h a b h3; omega
      · omega
    · rw [put_other d _ e] at hab ⊢
      exact h a b hab
  · exact h
theorem Keeps.relaxJ {v : Nat → Int} {d : Tb} (h : Keeps v d) (k i : Nat) : ∀ n, Keeps v (relaxJ k i n d)
  | 0 => h
  | n + 1 => (Keeps.relaxJ h k i n).relax k i n
theorem Keeps.relaxI {v : Nat → Int} {d : Tb} (h : Keeps v d) (k : Nat) : ∀ n, Keeps v (relaxI k n d)
  | 0 => h
  | n + 1 => (Keeps.relaxI h k n).relaxJ k n 6
theorem Keeps.relaxK {v : Nat → Int} {d : Tb} (h : Keeps v d) : ∀ n, Keeps v (relaxK n d)
  | 0 => h
  | n + 1 => (Keeps.relaxK h n).relaxI n 6

/-- the table only grows, and no further than 1000 -/
def Up (d e : Tb) : Prop := ∀ i j, d i j ≤ e i j ∧ e i j ≤ 1000
theorem Up.refl {d : Tb} (h : ∀ i j, d i j ≤ 1000) : Up d d := fun i j => ⟨Int.le_refl _, h i j⟩
theorem Up.trans {a b c : Tb} (h : Up a b) (k : Up b c) : Up a c := fun i j => ⟨Int.le_trans (h i j).1 (k i j).1, (k i j).2⟩
theorem Up.relax {d : Tb} (h : ∀ i j, d i j ≤ 1000) (k i j : Nat) : Up d (relax k i j d) := by
  unfold Cs.relax
  split
  · intro a b
    by_cases e : a = i ∧ b = j
    · obtain ⟨rfl, rfl⟩ := e
      rw [put_same]
      have := h a b
      omega
    · rw [put_other d _ e]
      exact ⟨Int.le_refl _, h a b⟩
  · exact Up.refl h
theorem Up.relaxJ {d : Tb} (h : ∀ i j, d i j ≤ 1000) (k i : Nat) : ∀ n, Up d (relaxJ k i n d)
  | 0 => Up.refl h
  | n + 1 => (Up.relaxJ h k i n).trans (Up.relax (fun a b => (Up.relaxJ h k i n a b).2) k i n)
theorem Up.relaxI {d : Tb} (h : ∀ i j, d i j ≤ 1000) (k : Nat) : ∀ n, Up d (relaxI k n d)
  | 0 => Up.refl h
  | n + 1 => (Up.relaxI h k n).trans (Up.relaxJ (fun a b => (Up.relaxI h k n a b).2) k n 6)
theorem Up.relaxK {d : Tb} (h : ∀ i j, d i j ≤ 1000) : ∀ n, Up d (relaxK n d)
  | 0 => Up.refl h
  | n + 1 => (Up.relaxK h n).trans (Up.relaxI (fun a b => (Up.relaxK h n a b).2) n 6)

/-- what a whole pass by k makes of a place, where no way leads round by k -/
def via (k : Nat) (d : Tb) : Tb := fun i j => if 0 ≤ d i k ∧ 0 ≤ d k j then max (d i j) (d i k + d k j) else d i j
/-- where k's own place is 0, a pass in place is that -/
theorem relax_via {k : Nat} {d e : Tb} (hk : d k k = 0) (hb : ∀ i j, d i j ≤ 400) {i j : Nat} (he : ∀ a b, e a b = via k d a b ∨ e a b = d a b) (hij : e i j = d i j ∨ e i j = via k d i j) :
    ∀ a b, relax k i j e a b = if a = i ∧ b = j then via k d i j else e a b := by
  have hrow : ∀ b, e k b = d k b := fun b => by
    rcases he k b with h | h
    · rw [h]; unfold via; rw [hk]; split <;> omega
    · exact h
  have hcol : ∀ a, e a k = d a k := fun a => by
    rcases he a k with h | h
    · rw [h]; unfold via; rw [hk]; split <;> omega
    · exact h
  intro a b
  unfold relax
  rw [hcol i, hrow j]
  have h1 := hb i k
  have h2 := hb k j
  have h3 := hb i j
  split
  · rename_i hc
    by_cases e' : a = i ∧ b = j
    · rw [if_pos e']
      obtain ⟨rfl, rfl⟩ := e'
      rw [put_same]
      unfold via at hij ⊢
      rw [if_pos hc] at hij ⊢
      omega
    · rw [if_neg e', put_other e _ e']
  · rename_i hc
    by_cases e' : a = i ∧ b = j
    · rw [if_pos e']
      obtain ⟨rfl, rfl⟩ := e'
      unfold via at hij ⊢
      rw [if_neg hc] at hij ⊢
      omega
    · rw [if_neg e']
theorem relaxJ_via {k : Nat} {d e : Tb} (hk : d k k = 0) (hb : ∀ i j, d i j ≤ 400) {i : Nat} (he : ∀ a b, e a b = via k d a b ∨ e a b = d a b) :
    ∀ n, ∀ a b, relaxJ k i n e a b = if a = i ∧ b < n then via k d i b else e a b := by
  intro n
  induction n with
  | zero => intro a b; rw [if_neg (by omega)]; rfl
  | succ n ih =>
    intro a b
    have he' : ∀ a b, relaxJ k i n e a b = via k d a b ∨ relaxJ k i n e a b = d a b := fun a b => by
      rw [ih a b]
      split
      · rename_i h; rw [h.1]; exact .inl rfl
      · exact he a b
    have := relax_via hk hb (i := i) (j := n) he' ((he' i n).symm) a b
    show relax k i n (relaxJ k i n e) a b = _
    rw [this]
    by_cases e1 : a = i ∧ b = n
    · rw [if_pos e1, if_pos ⟨e1.1, by omega⟩, e1.2]
    · rw [if_neg e1, ih a b]
      by_cases e2 : a = i ∧ b < n
      · rw [if_pos e2, if_pos ⟨e2.1, by omega⟩]
      · rw [if_neg e2, if_neg (fun h => e2 ⟨h.1, by have := h.2; have : b ≠ n := fun e3 => e1 ⟨h.1, e3⟩; omega⟩)]
theorem relaxI_via {k : Nat} {d : Tb} (hk : d k k = 0) (hb : ∀ i j, d i j ≤ 400) :
    ∀ n, ∀ a b, relaxI k n d a b = if a < n ∧ b < 6 then via k d a b else d a b := by
  intro n
  induction n with
  | zero => intro a b; rw [if_neg (by omega)]; rfl
  | succ n ih =>
    intro a b
    have he' : ∀ a b, relaxI k n d a b = via k d a b ∨ relaxI k n d a b = d a b := fun a b => by
      rw [ih a b]
      split
      · exact .inl rfl
      · exact .inr rfl
    show relaxJ k n 6 (relaxI k n d) a b = _
    rw [relaxJ_via hk hb (i := n) he' 6 a b, ih a b]
    by_cases e1 : a = n ∧ b < 6
    · rw [if_pos e1, if_pos ⟨by omega, e1.2⟩, e1.1]
    · rw [if_neg e1]
      by_cases e2 : a < n ∧ b < 6
      · rw [if_pos e2, if_pos ⟨by omega, e2.2⟩]
      · rw [if_neg e2, if_neg (fun h => by have : a ≠ n := fun e3 => e1 ⟨e3, h.2⟩; exact e2 ⟨by omega, h.2⟩)]

/-- ways by the first K nodes are in the table -/
def Closed (K : Nat) (d : Tb) : Prop := ∀ k, k < K → ∀ i j, i < 6 → j < 6 → 0 ≤ d i k → 0 ≤ d k j → d i k + d k j ≤ d i j
theorem closed_via {K : Nat} (hK : K < 6) {d : Tb} (hk : d K K = 0) (hc : Closed K d) (hm : ∀ i j, -1 ≤ d i j) : Closed (K + 1) (fun a b => if a < 6 ∧ b < 6 then via K d a b else d a b) := by
  intro k hkK i j hi hj h1 h2
  simp only at h1 h2 ⊢
  rw [if_pos ⟨hi, by omega⟩] at h1 ⊢
  rw [if_pos ⟨by omega, hj⟩] at h2 ⊢
  rw [if_pos ⟨hi, hj⟩]
  by_cases e : k = K
  · subst e
    have r1 : via k d i k = d i k := by unfold via; rw [hk]; split <;> omega
    have r2 : via k d k j = d k j := by unfold via; rw [hk]; split <;> omega
    rw [r1] at h1 ⊢
    rw [r2] at h2 ⊢
    unfold via
    rw [if_pos ⟨h1, h2⟩]
    omega
  · have hlt : k < K := by omega
    have c := hc k hlt
    have a1 := c i j hi hj
    have a2 := c i K hi hK
    have a3 := c K j hK hj
    have a4 := c K K hK hK
    have m1 := hm i k; have m2 := hm k j; have m3 := hm i K; have m4 := hm K k; have m5 := hm k K; have m6 := hm K j; have m7 := hm i j
    unfold via at h1 h2 ⊢
    by_cases p1 : 0 ≤ d i K ∧ 0 ≤ d K k
    · rw [if_pos p1] at h1 ⊢
      by_cases p2 : 0 ≤ d k K ∧ 0 ≤ d K j
      · rw [if_pos p2] at h2 ⊢
        rw [if_pos ⟨p1.1, p2.2⟩]
        have := a4 p1.2 p2.1
        by_cases q1 : 0 ≤ d i k
        · have b2 := a2 q1 p2.1
          by_cases q2 : 0 ≤ d k j
          · have b1 := a1 q1 q2; have b3 := a3 p1.2 q2; omega
          · omega
        · by_cases q2 : 0 ≤ d k j
          · have b3 := a3 p1.2 q2; omega
          · omega
      · rw [if_neg p2] at h2 ⊢
        have b3 := a3 p1.2 h2
        rw [if_pos ⟨p1.1, by omega⟩]
        by_cases q1 : 0 ≤ d i k
        · have b1 := a1 q1 h2; omega
        · omega
    · rw [if_neg p1] at h1 ⊢
      by_cases p2 : 0 ≤ d k K ∧ 0 ≤ d K j
      · rw [if_pos p2] at h2 ⊢
        have b2 := a2 h1 p2.1
        rw [if_pos ⟨by omega, p2.2⟩]
        by_cases q2 : 0 ≤ d k j
        · have b1 := a1 h1 q2; omega
        · omega
      · rw [if_neg p2] at h2 ⊢
        have b1 := a1 h1 h2
        split <;> omega
end Go.Proofs.Ytmmhcpigcdlnmaa.Cs
