/- Plain facts for constraints: the table that is made out of a list of constraints; what it tells of the values that satisfy them. -/
import Derived.Test.YtmmhcpigcdlnmaaCsMath
namespace Go.Proofs.Ytmmhcpigcdlnmaa.Cs

/-- a constraint: U, Rel, V -/
abbrev Cn := Int × Int × Int
def node (n : Int) : Nat := (n + 1).toNat
def cOk (c : Cn) : Bool := decide (-1 ≤ c.1) && decide (c.1 < 5) && decide (-1 ≤ c.2.2) && decide (c.2.2 < 5) && decide (0 ≤ c.2.1) && decide (c.2.1 ≤ 2)
theorem cOk_iff (c : Cn) : cOk c = true ↔ (-1 ≤ c.1 ∧ c.1 < 5) ∧ (-1 ≤ c.2.2 ∧ c.2.2 < 5) ∧ 0 ≤ c.2.1 ∧ c.2.1 ≤ 2 := by
  simp [cOk]; omega
theorem node_lt {n : Int} (h0 : -1 ≤ n) (h5 : n < 5) : node n < 6 := by unfold node; omega
/-- values of the nodes satisfy a constraint -/
def Sat (v : Nat → Int) (c : Cn) : Prop := if c.2.1 = 0 then v (node c.1) ≤ v (node c.2.2) else if c.2.1 = 1 then v (node c.1) < v (node c.2.2) else v (node c.1) = v (node c.2.2)
/-- values of the nodes: 0 for the number, none below it -/
def Val (v : Nat → Int) : Prop := v 0 = 0 ∧ ∀ x, 0 ≤ v x
def base : Tb := fun i j => if i = j ∨ i = 0 then 0 else -1
def add1 (d : Tb) (c : Cn) : Tb := put d (node c.1) (node c.2.2) (max (d (node c.1) (node c.2.2)) (if c.2.1 = 1 then 1 else 0))
def addC (d : Tb) (c : Cn) : Tb := if c.2.1 = 2 then put (add1 d c) (node c.2.2) (node c.1) (max (add1 d c (node c.2.2) (node c.1)) 0) else add1 d c
def start (l : List Cn) : Tb := l.foldl addC base
/-- the table of a list -/
def tab (l : List Cn) : Tb := relaxK 6 (start l)
/-- no way goes round and grows -/
def flat (l : List Cn) : Bool := (List.range 6).all fun i => decide (tab l i i ≤ 0)
theorem flat_iff (l : List Cn) : flat l = true ↔ ∀ i, i < 6 → tab l i i ≤ 0 := by simp [flat]

theorem keeps_base {v : Nat → Int} (h : Val v) : Keeps v base := by
  intro i j hij
  unfold base at hij ⊢
  split
  · rename_i hc
    rcases hc with rfl | rfl
    · omega
    · have := h.2 j; rw [h.1]; omega
  · rename_i hc; rw [if_neg hc] at hij; omega
theorem keeps_put {v : Nat → Int} {d : Tb} {i j : Nat} {x : Int} (h : Keeps v d) (hx : v i + x ≤ v j) : Keeps v (put d i j (max (d i j) x)) := by
  intro a b hab
  by_cases e : a = i ∧ b = j
  · obtain ⟨rfl, rfl⟩ := e
    rw [put_same] at hab ⊢
    by_cases h1 : 0 ≤ d a b
    · have := h a b h1; omega
    · omega
  · rw [put_other d _ e] at hab ⊢
    exact h a b hab
theorem keeps_addC {v : Nat → Int} {d : Tb} {c : Cn} (hc : cOk c = true) (h : Keeps v d) (hs : Sat v c) : Keeps v (addC d c) := by
  have ho := (cOk_iff c).1 hc
  unfold Sat at hs
  have h1 : Keeps v (add1 d c) := by
    unfold add1
    refine keeps_put h ?_
    split at hs
    · rename_i e; rw [if_neg (by omega)]; omega
    · split at hs
      · rename_i e; rw [if_pos e]; omega
      · rename_i e; rw [if_neg e]; omega
  unfold addC
  split
  · rename_i e
    rw [if_neg (by omega), if_neg (by omega)] at hs
    exact keeps_put h1 (by omega)
  · exact h1
theorem keeps_start {v : Nat → Int} (hv : Val v) {l : List Cn} (hok : ∀ c ∈ l, cOk c = true) (hs : ∀ c ∈ l, Sat v c) : Keeps v (start l) := by
  have H : ∀ (l : List Cn) (d : Tb), (∀ c ∈ l, cOk c = true) → (∀ c ∈ l, Sat v c) → Keeps v d → Keeps v (l.foldl addC d) := by
    intro l
    induction l with
    | nil => exact fun d _ _ h => h
    | cons c r ih => exact fun d h1 h2 h => ih _ (fun x hx => h1 x (by simp [hx])) (fun x hx => h2 x (by simp [hx])) (keeps_addC (h1 c (by simp)) h (h2 c (by simp)))
  exact H l base hok hs (keeps_base hv)

/-- one table is at least another -/
def Ge (d e : Tb) : Prop := ∀ i j, d i j ≤ e i j
theorem ge_put (d : Tb) (i j : Nat) (x : Int) : Ge d (put d i j (max (d i j) x)) := fun a b => by
  by_cases e : a = i ∧ b = j
  · obtain ⟨rfl, rfl⟩ := e; rw [put_same]; omega
  · rw [put_other d _ e]; exact Int.le_refl _
theorem ge_addC (d : Tb) (c : Cn) : Ge d (addC d c) := by
  have h1 : Ge d (add1 d c) := ge_put _ _ _ _
  unfold addC
  split
  · exact fun a b => Int.le_trans (h1 a b) (ge_put (add1 d c) _ _ 0 a b)
  · exact h1
theorem addC_le {d : Tb} {c : Cn} (h : ∀ i j, -1 ≤ d i j ∧ d i j ≤ 1) : ∀ i j, -1 ≤ addC d c i j ∧ addC d c i j ≤ 1 := by
  have h1 : ∀ i j, -1 ≤ add1 d c i j ∧ add1 d c i j ≤ 1 := fun i j => by
    unfold add1
    by_cases e : i = node c.1 ∧ j = node c.2.2
    · obtain ⟨rfl, rfl⟩ := e
      rw [put_same]
      have := h (node c.1) (node c.2.2)
      split <;> omega
    · rw [put_other d _ e]; exact h i j
  intro i j
  unfold addC
  split
  · by_cases e : i = node c.2.2 ∧ j = node c.1
    · obtain ⟨rfl, rfl⟩ := e
      rw [put_same]
      have := h1 (node c.2.2) (node c.1)
      omega
    · rw [put_other _ _ e]; exact h1 i j
  · exact h1 i j
theorem start_le (l : List Cn) : ∀ i j, -1 ≤ start l i j ∧ start l i j ≤ 1 := by
  have H : ∀ (l : List Cn) (d : Tb), (∀ i j, -1 ≤ d i j ∧ d i j ≤ 1) → ∀ i j, -1 ≤ l.foldl addC d i j ∧ l.foldl addC d i j ≤ 1 := by
    intro l
    induction l with
    | nil => exact fun _ h => h
    | cons c r ih => exact fun d h => ih _ (addC_le h)
  refine H l base fun i j => ?_
  unfold base
  split <;> omega
theorem start_base (l : List Cn) : Ge base (start l) := by
  have H : ∀ (l : List Cn) (d : Tb), Ge d (l.foldl addC d) := by
    intro l
    induction l with
    | nil => exact fun d i j => Int.le_refl _
    | cons c r ih => exact fun d i j => Int.le_trans (ge_addC d c i j) (ih _ i j)
  exact H l base
/-- a constraint's own edge is in the table -/
theorem start_mem {l : List Cn} {c : Cn} (hc : c ∈ l) : (if c.2.1 = 1 then (1 : Int) else 0) ≤ start l (node c.1) (node c.2.2) ∧ (c.2.1 = 2 → 0 ≤ start l (node c.2.2) (node c.1)) := by
  have ge : ∀ (l : List Cn) (d : Tb), Ge d (l.foldl addC d) := by
    intro l
    induction l with
    | nil => exact fun d i j => Int.le_refl _
    | cons c r ih => exact fun d i j => Int.le_trans (ge_addC d c i j) (ih _ i j)
  have H : ∀ (l : List Cn) (d : Tb), c ∈ l → (if c.2.1 = 1 then (1 : Int) else 0) ≤ l.foldl addC d (node c.1) (node c.2.2) ∧ (c.2.1 = 2 → 0 ≤ l.foldl addC d (node c.2.2) (node c.1)) := by
    intro l
    induction l with
    | nil => exact fun d h => by simp at h
    | cons x r ih =>
      intro d hx
      rcases List.mem_cons.1 hx with rfl | hx
      · have g := ge r (addC d c)
        have a1 : (if c.2.1 = 1 then (1 : Int) else 0) ≤ add1 d c (node c.1) (node c.2.2) := by unfold add1; rw [put_same]; omega
        refine ⟨?_, fun e => ?_⟩
        · refine Int.le_trans ?_ (g _ _)
          unfold addC
          by_cases e2 : c.2.1 = 2
          · rw [if_pos e2]
            exact Int.le_trans a1 (ge_put (add1 d c) _ _ 0 _ _)
          · rw [if_neg e2]
            exact a1
        · refine Int.le_trans ?_ (g _ _)
          unfold addC
          rw [if_pos e, put_same]
          omega
      · exact ih _ hx
  exact H l base hc

/-- where no way goes round and grows, the table holds all ways -/
theorem tab_stage {l : List Cn} (hf : ∀ i, i < 6 → tab l i i ≤ 0) : ∀ n, n ≤ 6 → Closed n (relaxK n (start l)) ∧ (∀ i j, -1 ≤ relaxK n (start l) i j ∧ relaxK n (start l) i j ≤ 2 ^ n) ∧ ∀ i, i < 6 → relaxK n (start l) i i = 0 := by
  have h1000 : ∀ i j, start l i j ≤ 1000 := fun i j => by have := (start_le l i j).2; omega
  have hdiag : ∀ n, n ≤ 6 → ∀ i, i < 6 → relaxK n (start l) i i = 0 := by
    intro n hn i hi
    have hup : ∀ m k, Up (relaxK m (start l)) (relaxK (m + k) (start l)) := by
      intro m k
      induction k with
      | zero => exact Up.refl fun a b => (Up.relaxK h1000 m a b).2
      | succ k ih => exact ih.trans (Up.relaxI (fun a b => (Up.relaxK h1000 (m + k) a b).2) (m + k) 6)
    have u1 := (hup n (6 - n) i i).1
    rw [show n + (6 - n) = 6 by omega] at u1
    have u2 := hf i hi
    unfold tab at u2
    have u3 := (Up.relaxK h1000 n i i).1
    have u4 := start_base l i i
    have u5 : base i i = 0 := by simp [base]
    omega
  intro n
  induction n with
  | zero =>
    intro _
    refine ⟨fun k hk => absurd hk (by omega), fun i j => ?_, hdiag 0 (by omega)⟩
    have := start_le l i j
    exact ⟨this.1, Int.le_trans this.2 (by decide)⟩
  | succ n ih =>
    intro hn
    obtain ⟨c1, b1, z1⟩ := ih (by omega)
    have hp : 0 ≤ (2 : Int) ^ n ∧ (2 : Int) ^ n ≤ 32 := by
      have : n = 0 ∨ n = 1 ∨ n = 2 ∨ n = 3 ∨ n = 4 ∨ n = 5 := by omega
      rcases this with rfl | rfl | rfl | rfl | rfl | rfl <;> decide
    have hk := z1 n (by omega)
    have he := relaxI_via hk (fun i j => by have := (b1 i j).2; omega) 6
    have hfun : relaxK (n + 1) (start l) = fun a b => if a < 6 ∧ b < 6 then via n (relaxK n (start l)) a b else relaxK n (start l) a b := by
      funext a b
      exact he a b
    refine ⟨?_, fun i j => ?_, hdiag (n + 1) hn⟩
    · rw [hfun]
      exact closed_via (by omega) hk c1 fun i j => (b1 i j).1
    · rw [hfun]
      have hpow : (2 : Int) ^ (n + 1) = 2 * 2 ^ n := by rw [Int.pow_succ]; omega
      simp only
      rw [hpow]
      have x1 := b1 i j; have x2 := b1 i n; have x3 := b1 n j
      generalize (2 : Int) ^ n = P at *
      unfold via
      split
      · split <;> omega
      · omega
end Go.Proofs.Ytmmhcpigcdlnmaa.Cs
