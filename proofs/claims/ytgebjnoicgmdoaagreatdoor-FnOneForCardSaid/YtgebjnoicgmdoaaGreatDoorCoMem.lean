/- Plain facts for constraints: the table that is made out of a list of constraints; what it tells of the values that satisfy them. -/
/- Plain facts for constraints: when a list is satisfiable, its least values, and what it implies. -/
/- Plain facts for constraints: what is implied; what is left when the constraints are considered one by one and each is removed that is not needed. -/
/- Plain facts for constraints: envs that satisfy a list; the least env; the signs of satisfying envs. -/
/- Words for memory: a slice that reads as a list of constraints; one that a call owns. -/
import Derived.Test.YtgebjnoicgmdoaaGreatDoorCsMath
import Derived.Test.YtgebjnoicgmdoaaGreatDoorSlc

namespace Go.Proofs.YtgebjnoicgmdoaaGreatDoor.Cs

/-- a constraint: U, Rel, V -/
abbrev Cn := Int × Int × Int
def node (n : Int) : Nat := (n + 1).toNat
def cOk (c : Cn) : Bool := decide (-1 ≤ c.1) && decide (c.1 < 5) && decide (-1 ≤ c.2.2) && decide (c.2.2 < 5) && decide (0 ≤ c.2.1) && decide (c.2.1 ≤ 2)
theorem cOk_iff (c : Cn) : cOk c = true ↔ (-1 ≤ c.1 ∧ c.1 < 5) ∧ (-1 ≤ c.2.2 ∧ c.2.2 < 5) ∧ 0 ≤ c.2.1 ∧ c.2.1 ≤ 2 := by
  simp [cOk]; omega
theorem node_lt {n : Int} (h0 : -1 ≤ n) (h5 : n < 5) : node n < 6 := by unfold node; omega
/-- values of the nodes satisfy a constraint -/
def Sat (v : Nat → Int) (c : Cn) : Prop := if c.2.1 = 0 then v (node c.1) ≤ v (node c.2.2) else if c.2.1 = 1 then v (node c.1) < v (node c.2.2) else v (node c.1) = v (node c.2.2)
/-- values of the nodes: 0 for the number, none below it -/
def Val (v : Nat → Int) : Prop := v 0 = 0 ∧ ∀ x, 0 ≤ v x
def base : Tb := fun i j => if i = j ∨ i = 0 then 0 else -1
def add1 (d : Tb) (c : Cn) : Tb := put d (node c.1) (node c.2.2) (max (d (node c.1) (node c.2.2)) (if c.2.1 = 1 then 1 else 0))
def addC (d : Tb) (c : Cn) : Tb := if c.2.1 = 2 then put (add1 d c) (node c.2.2) (node c.1) (max (add1 d c (node c.2.2) (node c.1)) 0) else add1 d c
def start (l : List Cn) : Tb := l.foldl addC base
/-- the table of a list -/
def tab (l : List Cn) : Tb := relaxK 6 (start l)
/-- no way goes round and grows -/
def flat (l : List Cn) : Bool := (List.range 6).all fun i => decide (tab l i i ≤ 0)
theorem flat_iff (l : List Cn) : flat l = true ↔ ∀ i, i < 6 → tab l i i ≤ 0 := by simp [flat]

theorem keeps_base {v : Nat → Int} (h : Val v) : Keeps v base := by
  intro i j hij
  unfold base at hij ⊢
  split
  · rename_i hc
    rcases hc with rfl | rfl
    · omega
    · have := h.2 j; rw [h.1]; omega
  · rename_i hc; rw [if_neg hc] at hij; omega
theorem keeps_put {v : Nat → Int} {d : Tb} {i j : Nat} {x : Int} (h : Keeps v d) (hx : v i + x ≤ v j) : Keeps v (put d i j (max (d i j) x)) := by
  intro a b hab
  by_cases e : a = i ∧ b = j
  · obtain ⟨rfl, rfl⟩ := e
    rw [put_same] at hab ⊢
    by_cases h1 : 0 ≤ d a b
    · have := h a b h1; omega
    · omega
  · rw [put_other d _ e] at hab ⊢
    exact h a b hab
theorem keeps_addC {v : Nat → Int} {d : Tb} {c : Cn} (hc : cOk c = true) (h : Keeps v d) (hs : Sat v c) : Keeps v (addC d c) := by
  have ho := (cOk_iff c).1 hc
  unfold Sat at hs
  have h1 : Keeps v (add1 d c) := by
    unfold add1
    refine keeps_put h ?_
    split at hs
    · rename_i e; rw [if_neg (by omega)]; omega
    · split at hs
      · rename_i e; rw [if_pos e]; omega
      · rename_i e; rw [if_neg e]; omega
  unfold addC
  split
  · rename_i e
    rw [if_neg (by omega), if_neg (by omega)] at hs
    exact keeps_put h1 (by omega)
  · exact h1
theorem keeps_start {v : Nat → Int} (hv : Val v) {l : List Cn} (hok : ∀ c ∈ l, cOk c = true) (hs : ∀ c ∈ l, Sat v c) : Keeps v (start l) := by
  have H : ∀ (l : List Cn) (d : Tb), (∀ c ∈ l, cOk c = true) → (∀ c ∈ l, Sat v c) → Keeps v d → Keeps v (l.foldl addC d) := by
    intro l
    induction l with
    | nil => exact fun d _ _ h => h
    | cons c r ih => exact fun d h1 h2 h => ih _ (fun x hx => h1 x (by simp [hx])) (fun x hx => h2 x (by simp [hx])) (keeps_addC (h1 c (by simp)) h (h2 c (by simp)))
  exact H l base hok hs (keeps_base hv)

/-- one table is at least another -/
def Ge (d e : Tb) : Prop := ∀ i j, d i j ≤ e i j
theorem ge_put (d : Tb) (i j : Nat) (x : Int) : Ge d (put d i j (max (d i j) x)) := fun a b => by
  by_cases e : a = i ∧ b = j
  · obtain ⟨rfl, rfl⟩ := e; rw [put_same]; omega
  · rw [put_other d _ e]; exact Int.le_refl _
theorem ge_addC (d : Tb) (c : Cn) : Ge d (addC d c) := by
  have h1 : Ge d (add1 d c) := ge_put _ _ _ _
  unfold addC
  split
  · exact fun a b => Int.le_trans (h1 a b) (ge_put (add1 d c) _ _ 0 a b)
  · exact h1
theorem addC_le {d : Tb} {c : Cn} (h : ∀ i j, -1 ≤ d i j ∧ d i j ≤ 1) : ∀ i j, -1 ≤ addC d c i j ∧ addC d c i j ≤ 1 := by
  have h1 : ∀ i j, -1 ≤ add1 d c i j ∧ add1 d c i j ≤ 1 := fun i j => by
    unfold add1
    by_cases e : i = node c.1 ∧ j = node c.2.2
    · obtain ⟨rfl, rfl⟩ := e
      rw [put_same]
      have := h (node c.1) (node c.2.2)
      split <;> omega
    · rw [put_other d _ e]; exact h i j
  intro i j
  unfold addC
  split
  · by_cases e : i = node c.2.2 ∧ j = node c.1
    · obtain ⟨rfl, rfl⟩ := e
      rw [put_same]
      have := h1 (node c.2.2) (node c.1)
      omega
    · rw [put_other _ _ e]; exact h1 i j
  · exact h1 i j
theorem start_le (l : List Cn) : ∀ i j, -1 ≤ start l i j ∧ start l i j ≤ 1 := by
  have H : ∀ (l : List Cn) (d : Tb), (∀ i j, -1 ≤ d i j ∧ d i j ≤ 1) → ∀ i j, -1 ≤ l.foldl addC d i j ∧ l.foldl addC d i j ≤ 1 := by
    intro l
    induction l with
    | nil => exact fun _ h => h
    | cons c r ih => exact fun d h => ih _ (addC_le h)
  refine H l base fun i j => ?_
  unfold base
  split <;> omega
theorem start_base (l : List Cn) : Ge base (start l) := by
  have H : ∀ (l : List Cn) (d : Tb), Ge d (l.foldl addC d) := by
    intro l
    induction l with
    | nil => exact fun d i j => Int.le_refl _
    | cons c r ih => exact fun d i j => Int.le_trans (ge_addC d c i j) (ih _ i j)
  exact H l base
/-- a constraint's own edge is in the table -/
theorem start_mem {l : List Cn} {c : Cn} (hc : c ∈ l) : (if c.2.1 = 1 then (1 : Int) else 0) ≤ start l (node c.1) (node c.2.2) ∧ (c.2.1 = 2 → 0 ≤ start l (node c.2.2) (node c.1)) := by
  have ge : ∀ (l : List Cn) (d : Tb), Ge d (l.foldl addC d) := by
    intro l
    induction l with
    | nil => exact fun d i j => Int.le_refl _
    | cons c r ih => exact fun d i j => Int.le_trans (ge_addC d c i j) (ih _ i j)
  have H : ∀ (l : List Cn) (d : Tb), c ∈ l → (if c.2.1 = 1 then (1 : Int) else 0) ≤ l.foldl addC d (node c.1) (node c.2.2) ∧ (c.2.1 = 2 → 0 ≤ l.foldl addC d (node c.2.2) (node c.1)) := by
    intro l
    induction l with
    | nil => exact fun d h => by simp at h
    | cons x r ih =>
      intro d hx
      rcases List.mem_cons.1 hx with rfl | hx
      · have g := ge r (addC d c)
        have a1 : (if c.2.1 = 1 then (1 : Int) else 0) ≤ add1 d c (node c.1) (node c.2.2) := by unfold add1; rw [put_same]; omega
        refine ⟨?_, fun e => ?_⟩
        · refine Int.le_trans ?_ (g _ _)
          unfold addC
          by_cases e2 : c.2.1 = 2
          · rw [if_pos e2]
            exact Int.le_trans a1 (ge_put (add1 d c) _ _ 0 _ _)
          · rw [if_neg e2]
            exact a1
        · refine Int.le_trans ?_ (g _ _)
          unfold addC
          rw [if_pos e, put_same]
          omega
      · exact ih _ hx
  exact H l base hc

/-- where no way goes round and grows, the table holds all ways -/
theorem tab_stage {l : List Cn} (hf : ∀ i, i < 6 → tab l i i ≤ 0) : ∀ n, n ≤ 6 → Closed n (relaxK n (start l)) ∧ (∀ i j, -1 ≤ relaxK n (start l) i j ∧ relaxK n (start l) i j ≤ 2 ^ n) ∧ ∀ i, i < 6 → relaxK n (start l) i i = 0 := by
  have h1000 : ∀ i j, start l i j ≤ 1000 := fun i j => by have := (start_le l i j).2; omega
  have hdiag : ∀ n, n ≤ 6 → ∀ i, i < 6 → relaxK n (start l) i i = 0 := by
    intro n hn i hi
    have hup : ∀ m k, Up (relaxK m (start l)) (relaxK (m + k) (start l)) := by
      intro m k
      induction k with
      | zero => exact Up.refl fun a b => (Up.relaxK h1000 m a b).2
      | succ k ih => exact ih.trans (Up.relaxI (fun a b => (Up.relaxK h1000 (m + k) a b).2) (m + k) 6)
    have u1 := (hup n (6 - n) i i).1
    rw [show n + (6 - n) = 6 by omega] at u1
    have u2 := hf i hi
    unfold tab at u2
    have u3 := (Up.relaxK h1000 n i i).1
    have u4 := start_base l i i
    have u5 : base i i = 0 := by simp [base]
    omega
  intro n
  induction n with
  | zero =>
    intro _
    refine ⟨fun k hk => absurd hk (by omega), fun i j => ?_, hdiag 0 (by omega)⟩
    have := start_le l i j
    exact ⟨this.1, Int.le_trans this.2 (by decide)⟩
  | succ n ih =>
    intro hn
    obtain ⟨c1, b1, z1⟩ := ih (by omega)
    have hp : 0 ≤ (2 : Int) ^ n ∧ (2 : Int) ^ n ≤ 32 := by
      have : n = 0 ∨ n = 1 ∨ n = 2 ∨ n = 3 ∨ n = 4 ∨ n = 5 := by omega
      rcases this with rfl | rfl | rfl | rfl | rfl | rfl <;> decide
    have hk := z1 n (by omega)
    have he := relaxI_via hk (fun i j => by have := (b1 i j).2; omega) 6
    have hfun : relaxK (n + 1) (start l) = fun a b => if a < 6 ∧ b < 6 then via n (relaxK n (start l)) a b else relaxK n (start l) a b := by
      funext a b
      exact he a b
    refine ⟨?_, fun i j => ?_, hdiag (n + 1) hn⟩
    · rw [hfun]
      exact closed_via (by omega) hk c1 fun i j => (b1 i j).1
    · rw [hfun]
      have hpow : (2 : Int) ^ (n + 1) = 2 * 2 ^ n := by rw [Int.pow_succ]; omega
      simp only
      rw [hpow]
      have x1 := b1 i j; have x2 := b1 i n; have x3 := b1 n j
      generalize (2 : Int) ^ n = P at *
      unfold via
      split
      · split <;> omega
      · omega
end Go.Proofs.YtgebjnoicgmdoaaGreatDoor.Cs

namespace Go.Proofs.YtgebjnoicgmdoaaGreatDoor.Cs

/-- values satisfy a whole list -/
def SatAll (v : Nat → Int) (l : List Cn) : Prop := Val v ∧ ∀ c ∈ l, Sat v c
def ok (l : List Cn) : Prop := ∀ c ∈ l, cOk c = true
theorem tab_keeps {v : Nat → Int} {l : List Cn} (hok : ok l) (h : SatAll v l) : Keeps v (tab l) := (keeps_start h.1 hok h.2).relaxK 6
/-- a way that goes round and grows: nothing satisfies the list -/
theorem not_flat {v : Nat → Int} {l : List Cn} (hok : ok l) (hf : flat l = false) : ¬ SatAll v l := by
  intro h
  have : ∃ i, i < 6 ∧ 0 < tab l i i := by
    apply Classical.byContradiction
    intro hn
    have : flat l = true := (flat_iff l).2 fun i hi => by
      apply Classical.byContradiction
      intro hp
      exact hn ⟨i, hi, by omega⟩
    rw [this] at hf
    cases hf
  obtain ⟨i, _, hi⟩ := this
  have := tab_keeps hok h i i (by omega)
  omega
section
variable {l : List Cn} (hf : flat l = true)
include hf
theorem tab_closed {i j k : Nat} (hi : i < 6) (hj : j < 6) (hk : k < 6) (h1 : 0 ≤ tab l i k) (h2 : 0 ≤ tab l k j) : tab l i k + tab l k j ≤ tab l i j :=
  (tab_stage ((flat_iff l).1 hf) 6 (by omega)).1 k hk i j hi hj h1 h2
theorem tab_bd (i j : Nat) : -1 ≤ tab l i j ∧ tab l i j ≤ 64 := (tab_stage ((flat_iff l).1 hf) 6 (by omega)).2.1 i j
theorem tab_diag {i : Nat} (hi : i < 6) : tab l i i = 0 := (tab_stage ((flat_iff l).1 hf) 6 (by omega)).2.2 i hi
end
theorem tab_ge (l : List Cn) (i j : Nat) : start l i j ≤ tab l i j := (Up.relaxK (fun i j => by have := (start_le l i j).2; omega) 6 i j).1
theorem tab_zero (l : List Cn) (j : Nat) : 0 ≤ tab l 0 j := by
  have h1 := tab_ge l 0 j
  have h2 := start_base l 0 j
  have h3 : base 0 j = 0 := by simp [base]
  omega
/-- values that keep the distances of the nodes satisfy the list -/
theorem sat_of_keeps {v : Nat → Int} {l : List Cn} (hok : ok l) (hv : Val v) (h : ∀ i j, i < 6 → j < 6 → 0 ≤ tab l i j → v i + tab l i j ≤ v j) : SatAll v l := by
  refine ⟨hv, fun c hc => ?_⟩
  have ho := (cOk_iff c).1 (hok c hc)
  have n1 := node_lt ho.1.1 ho.1.2
  have n2 := node_lt ho.2.1.1 ho.2.1.2
  have hm := start_mem hc
  have g1 := tab_ge l (node c.1) (node c.2.2)
  have g2 := tab_ge l (node c.2.2) (node c.1)
  have k1 := h _ _ n1 n2
  have k2 := h _ _ n2 n1
  unfold Sat
  by_cases e0 : c.2.1 = 0
  · rw [if_pos e0]
    have := hm.1
    rw [if_neg (by omega)] at this
    have := k1 (by omega)
    omega
  · rw [if_neg e0]
    by_cases e1 : c.2.1 = 1
    · rw [if_pos e1]
      have := hm.1
      rw [if_pos e1] at this
      have := k1 (by omega)
      omega
    · rw [if_neg e1]
      have h1 := hm.1
      rw [if_neg e1] at h1
      have h2 := hm.2 (by omega)
      have := k1 (by omega)
      have := k2 (by omega)
      omega
/-- the least values -/
def least (l : List Cn) : Nat → Int := fun x => tab l 0 x
theorem least_sat {l : List Cn} (hok : ok l) (hf : flat l = true) : SatAll (least l) l :=
  sat_of_keeps hok ⟨tab_diag hf (by omega), fun x => tab_zero l x⟩ fun i j hi hj h => tab_closed hf (by omega) hj hi (tab_zero l i) h
theorem least_le {v : Nat → Int} {l : List Cn} (hok : ok l) (h : SatAll v l) (x : Nat) : least l x ≤ v x := by
  have := tab_keeps hok h 0 x (tab_zero l x)
  rw [h.1.1] at this
  unfold least
  omega
/-- a list is satisfiable just where no way goes round and grows -/
theorem sat_iff {l : List Cn} (hok : ok l) : flat l = true ↔ ∃ v, SatAll v l := by
  constructor
  · exact fun h => ⟨least l, least_sat hok h⟩
  · rintro ⟨v, hv⟩
    cases e : flat l with
    | true => rfl
    | false => exact absurd hv (not_flat hok e)
/-- values in which node i is N higher than it must be, and all that must follow it -/
def lifted (l : List Cn) (i : Nat) (N : Int) : Nat → Int := fun x => if 0 ≤ tab l i x then max (tab l 0 x) (N + tab l i x) else tab l 0 x
theorem lifted_sat {l : List Cn} (hok : ok l) (hf : flat l = true) {i : Nat} (hi : i < 6) (h0 : tab l i 0 < 0) (N : Int) : SatAll (lifted l i N) l := by
  refine sat_of_keeps hok ⟨?_, fun x => ?_⟩ fun a b ha hb hab => ?_
  · unfold lifted
    rw [if_neg (by omega)]
    exact tab_diag hf (by omega)
  · have := tab_zero l x
    unfold lifted
    split <;> omega
  · have c0 := tab_closed hf (by omega) hb ha (tab_zero l a) hab
    unfold lifted
    by_cases h1 : 0 ≤ tab l i a
    · have c1 := tab_closed hf hi hb ha h1 hab
      rw [if_pos h1, if_pos (by omega)]
      omega
    · rw [if_neg h1]
      split <;> omega
/-- ConsFar is just what is implied: some values keep no more than it -/
theorem far_tight {l : List Cn} (hok : ok l) (hf : flat l = true) {i j : Nat} (hi : i < 6) (hj : j < 6) : ∃ v, SatAll v l ∧ (0 ≤ tab l i j → v j = v i + tab l i j) ∧ (tab l i j < 0 → v j < v i) := by
  by_cases h0 : 0 ≤ tab l i 0
  · have c1 := tab_closed hf (i := 0) (j := 0) (k := i) (by omega) (by omega) hi (tab_zero l i) h0
    have d0 := tab_diag hf (i := 0) (by omega)
    have z := tab_zero l i
    have c2 := tab_closed hf hi hj (by omega) h0 (tab_zero l j)
    have zj := tab_zero l j
    refine ⟨least l, least_sat hok hf, fun hij => ?_, fun hij => by omega⟩
    have c3 := tab_closed hf (i := 0) (by omega) hj hi z hij
    unfold least
    omega
  · have bi := (tab_bd hf 0 i).2
    have bj := (tab_bd hf 0 j).2
    have di := tab_diag hf hi
    refine ⟨lifted l i 100, lifted_sat hok hf hi (by omega) 100, fun hij => ?_, fun hij => ?_⟩
    · unfold lifted
      rw [if_pos hij, if_pos (by omega), di]
      omega
    · unfold lifted
      rw [if_neg (by omega), if_pos (by omega), di]
      omega
/-- a distance that all values keep is at most the table's -/
theorem far_iff {l : List Cn} (hok : ok l) (hf : flat l = true) {i j : Nat} (hi : i < 6) (hj : j < 6) {w : Int} (hw : 0 ≤ w) : w ≤ tab l i j ↔ ∀ v, SatAll v l → v i + w ≤ v j := by
  constructor
  · intro h v hv
    have := tab_keeps hok hv i j (by omega)
    omega
  · intro h
    obtain ⟨v, hv, h1, h2⟩ := far_tight hok hf hi hj
    have := h v hv
    by_cases hn : 0 ≤ tab l i j
    · have := h1 hn; omega
    · have := h2 (by omega); omega
end Go.Proofs.YtgebjnoicgmdoaaGreatDoor.Cs

namespace Go.Proofs.YtgebjnoicgmdoaaGreatDoor.Cs

/-- ConsImply's answer for a satisfiable list -/
def imp (l : List Cn) (c : Cn) : Bool :=
  if c.2.1 = 0 then decide (0 ≤ tab l (node c.1) (node c.2.2)) else if c.2.1 = 1 then decide (1 ≤ tab l (node c.1) (node c.2.2)) else decide (0 ≤ tab l (node c.1) (node c.2.2)) && decide (0 ≤ tab l (node c.2.2) (node c.1))
theorem imp_iff {l : List Cn} (hok : ok l) (hf : flat l = true) {c : Cn} (hc : cOk c = true) : imp l c = true ↔ ∀ v, SatAll v l → Sat v c := by
  have ho := (cOk_iff c).1 hc
  have n1 := node_lt ho.1.1 ho.1.2
  have n2 := node_lt ho.2.1.1 ho.2.1.2
  unfold imp Sat
  by_cases e0 : c.2.1 = 0
  · rw [if_pos e0, decide_eq_true_eq, far_iff hok hf n1 n2 (Int.le_refl 0)]
    constructor
    · intro h v hv; rw [if_pos e0]; have := h v hv; omega
    · intro h v hv; have := h v hv; rw [if_pos e0] at this; omega
  · rw [if_neg e0]
    by_cases e1 : c.2.1 = 1
    · rw [if_pos e1, decide_eq_true_eq, far_iff hok hf n1 n2 (by omega)]
      constructor
      · intro h v hv; rw [if_neg e0, if_pos e1]; have := h v hv; omega
      · intro h v hv; have := h v hv; rw [if_neg e0, if_pos e1] at this; omega
    · rw [if_neg e1, Bool.and_eq_true, decide_eq_true_eq, decide_eq_true_eq, far_iff hok hf n1 n2 (Int.le_refl 0), far_iff hok hf n2 n1 (Int.le_refl 0)]
      constructor
      · rintro ⟨h1, h2⟩ v hv; rw [if_neg e0, if_neg e1]; have := h1 v hv; have := h2 v hv; omega
      · intro h
        refine ⟨fun v hv => ?_, fun v hv => ?_⟩ <;> (have := h v hv; rw [if_neg e0, if_neg e1] at this; omega)

/-- the constraints that are not gone, the first of them number k -/
def skipFrom : Nat → List Cn → (Nat → Bool) → List Cn
  | _, [], _ => []
  | k, c :: r, g => if g k = true then skipFrom (k + 1) r g else c :: skipFrom (k + 1) r g
def skip (l : List Cn) (g : Nat → Bool) : List Cn := skipFrom 0 l g
theorem mem_skipFrom {c : Cn} {g : Nat → Bool} : ∀ {l : List Cn} {k : Nat}, c ∈ skipFrom k l g ↔ ∃ i, i < l.length ∧ g (k + i) = false ∧ l.getD i (0, 0, 0) = c := by
  intro l
  induction l with
  | nil => intro k; simp [skipFrom]
  | cons x r ih =>
    intro k
    have tail : (∃ i, i < r.length ∧ g (k + 1 + i) = false ∧ r.getD i (0, 0, 0) = c) → ∃ i, i < (x :: r).length ∧ g (k + i) = false ∧ (x :: r).getD i (0, 0, 0) = c := by
      rintro ⟨i, h1, h2, h3⟩
      exact ⟨i + 1, by simpa using h1, by rw [show k + (i + 1) = k + 1 + i by omega]; exact h2, by simpa using h3⟩
    have back : ∀ i, i < (x :: r).length → g (k + i) = false → (x :: r).getD i (0, 0, 0) = c → (i = 0 ∧ x = c ∧ g k = false) ∨ ∃ i, i < r.length ∧ g (k + 1 + i) = false ∧ r.getD i (0, 0, 0) = c := by
      intro i h1 h2 h3
      cases i with
      | zero => exact .inl ⟨rfl, by simpa using h3, by simpa using h2⟩
      | succ i => exact .inr ⟨i, by simpa using h1, by rw [show k + 1 + i = k + (i + 1) by omega]; exact h2, by simpa using h3⟩
    simp only [skipFrom]
    by_cases hg : g k = true
    · rw [if_pos hg, ih]
      refine ⟨tail, fun ⟨i, h1, h2, h3⟩ => ?_⟩
      rcases back i h1 h2 h3 with ⟨_, _, h⟩ | h
      · rw [hg] at h; cases h
      · exact h
    · rw [if_neg hg, List.mem_cons, ih]
      constructor
      · rintro (rfl | h)
        · exact ⟨0, by simp, by simpa using hg, by simp⟩
        · exact tail h
      · rintro ⟨i, h1, h2, h3⟩
        rcases back i h1 h2 h3 with ⟨_, h, _⟩ | h
        · exact .inl h.symm
        · exact .inr h
theorem mem_skip {c : Cn} {g : Nat → Bool} {l : List Cn} : c ∈ skip l g ↔ ∃ i, i < l.length ∧ g i = false ∧ l.getD i (0, 0, 0) = c := by
  unfold skip
  rw [mem_skipFrom]
  simp only [Nat.zero_add]
theorem skip_ok {l : List Cn} (h : ok l) (g : Nat → Bool) : ok (skip l g) := fun c hc => by
  obtain ⟨i, hi, _, rfl⟩ := mem_skip.1 hc
  refine h _ ?_
  rw [List.getD_eq_getElem?_getD, List.getElem?_eq_getElem hi]
  exact List.getElem_mem _
def mark (g : Nat → Bool) (i : Nat) (b : Bool) : Nat → Bool := fun x => if x = i then b else g x
/-- more gone: more values satisfy what is left -/
theorem sat_more {v : Nat → Int} {l : List Cn} {g h : Nat → Bool} (hg : ∀ i, g i = true → h i = true) (hv : SatAll v (skip l g)) : SatAll v (skip l h) := by
  refine ⟨hv.1, fun c hc => hv.2 c ?_⟩
  obtain ⟨i, h1, h2, h3⟩ := mem_skip.1 hc
  refine mem_skip.2 ⟨i, h1, ?_, h3⟩
  cases e : g i with
  | false => rfl
  | true => rw [hg i e] at h2; cases h2

/-- ConsThin: what is gone behind the first n constraints -/
def thinTo (l : List Cn) : Nat → (Nat → Bool)
  | 0 => fun _ => false
  | n + 1 => mark (thinTo l n) n (imp (skip l (mark (thinTo l n) n true)) (l.getD n (0, 0, 0)))
theorem thinTo_late (l : List Cn) (n i : Nat) (hi : n ≤ i) : thinTo l n i = false := by
  induction n with
  | zero => rfl
  | succ n ih =>
    simp only [thinTo, mark]
    rw [if_neg (by omega)]
    exact ih (by omega)
section
variable {l : List Cn} (hok : ok l) (hf : flat l = true)
include hok hf
theorem skip_flat (g : Nat → Bool) : flat (skip l g) = true := by
  obtain ⟨v, hv⟩ := (sat_iff hok).1 hf
  refine (sat_iff (skip_ok hok g)).2 ⟨v, hv.1, fun c hc => hv.2 c ?_⟩
  obtain ⟨i, hi, _, rfl⟩ := mem_skip.1 hc
  rw [List.getD_eq_getElem?_getD, List.getElem?_eq_getElem hi]
  exact List.getElem_mem _
/-- what is left says what the list says -/
theorem thin_same : ∀ n, n ≤ l.length → ∀ v, SatAll v (skip l (thinTo l n)) → SatAll v l := by
  intro n
  induction n with
  | zero =>
    intro _ v hv
    refine ⟨hv.1, fun c hc => hv.2 c ?_⟩
    obtain ⟨i, hi, rfl⟩ := List.getElem_of_mem hc
    exact mem_skip.2 ⟨i, hi, rfl, by rw [List.getD_eq_getElem?_getD, List.getElem?_eq_getElem hi]; rfl⟩
  | succ n ih =>
    intro hn v hv
    refine ih (by omega) v ?_
    have hcn : cOk (l.getD n (0, 0, 0)) = true := by
      refine hok _ ?_
      rw [List.getD_eq_getElem?_getD, List.getElem?_eq_getElem (by omega)]
      exact List.getElem_mem _
    cases hi : imp (skip l (mark (thinTo l n) n true)) (l.getD n (0, 0, 0)) with
    | false =>
      refine sat_more (fun j hj => ?_) hv
      simp only [thinTo, hi, mark] at hj
      split at hj
      · cases hj
      · exact hj
    | true =>
      have hg : thinTo l (n + 1) = mark (thinTo l n) n true := by simp only [thinTo, hi]
      rw [hg] at hv
      have hs := (imp_iff (skip_ok hok _) (skip_flat hok hf _) hcn).1 hi v hv
      refine ⟨hv.1, fun c hc => ?_⟩
      obtain ⟨i, h1, h2, rfl⟩ := mem_skip.1 hc
      by_cases e : i = n
      · subst e; exact hs
      · exact hv.2 _ (mem_skip.2 ⟨i, h1, by unfold mark; rw [if_neg e]; exact h2, rfl⟩)
end
end Go.Proofs.YtgebjnoicgmdoaaGreatDoor.Cs

namespace Go.Proofs.YtgebjnoicgmdoaaGreatDoor.Cs

/-- the values of the nodes in an env -/
def valOf (env : List Int) : Nat → Int
  | 0 => 0
  | x + 1 => env.getD x 0
theorem valOf_val {env : List Int} (h : ∀ p, 0 ≤ env.getD p 0) : Val (valOf env) := ⟨rfl, fun x => by
  cases x with
  | zero => exact Int.le_refl _
  | succ x => exact h x⟩
/-- the env of the least values -/
def leastEnv (l : List Cn) : List Int := (List.range 5).map fun p => tab l 0 (p + 1)
theorem leastEnv_len (l : List Cn) : (leastEnv l).length = 5 := by simp [leastEnv]
theorem leastEnv_get (l : List Cn) {p : Nat} (hp : p < 5) : (leastEnv l).getD p 0 = tab l 0 (p + 1) := by
  simp [leastEnv, List.getD_eq_getElem?_getD, hp]
/-- values that agree on the six nodes satisfy the same constraints -/
theorem sat_congr {v u : Nat → Int} {c : Cn} (hc : cOk c = true) (h : ∀ x, x < 6 → v x = u x) : Sat v c ↔ Sat u c := by
  have ho := (cOk_iff c).1 hc
  unfold Sat
  rw [h _ (node_lt ho.1.1 ho.1.2), h _ (node_lt ho.2.1.1 ho.2.1.2)]
theorem valOf_least {l : List Cn} (hf : flat l = true) : ∀ x, x < 6 → valOf (leastEnv l) x = least l x := by
  intro x hx
  cases x with
  | zero => exact (tab_diag hf (by omega)).symm
  | succ x => exact leastEnv_get l (by omega)
/-- the least env satisfies the list -/
theorem leastEnv_sat {l : List Cn} (hok : ok l) (hf : flat l = true) : SatAll (valOf (leastEnv l)) l := by
  refine ⟨valOf_val fun p => ?_, fun c hc => ?_⟩
  · by_cases hp : p < 5
    · rw [leastEnv_get l hp]; exact tab_zero l _
    · have := leastEnv_len l
      rw [List.getD_eq_getElem?_getD, List.getElem?_eq_none (by omega)]
      exact Int.le_refl _
  · exact (sat_congr (hok c hc) (valOf_least hf)).2 ((least_sat hok hf).2 c hc)
theorem leastEnv_bd {l : List Cn} (hf : flat l = true) : ∀ x ∈ leastEnv l, 0 ≤ x ∧ x ≤ 1000 := fun x hx => by
  simp only [leastEnv, List.mem_map] at hx
  obtain ⟨p, _, rfl⟩ := hx
  have := tab_zero l (p + 1)
  have := (tab_bd hf 0 (p + 1)).2
  omega
/-- it is at most every env that does -/
theorem leastEnv_le {l : List Cn} (hok : ok l) {env : List Int} (h : SatAll (valOf env) l) {p : Nat} (hp : p < 5) : (leastEnv l).getD p 0 ≤ env.getD p 0 := by
  rw [leastEnv_get l hp]
  exact least_le hok h (p + 1)
/-- the constraint that a sign lays on a parameter: positive, or 0 -/
def signC (pos : Bool) (p : Nat) : Cn := if pos = true then (-1, 1, (p : Int)) else ((p : Int), 0, -1)
theorem signC_ok (pos : Bool) {p : Nat} (hp : p < 5) : cOk (signC pos p) = true := by
  rw [cOk_iff]
  unfold signC
  split <;> (simp only; omega)
theorem signC_sat {v : Nat → Int} (hv : Val v) (pos : Bool) (p : Nat) : Sat v (signC pos p) ↔ (pos = true ↔ 0 < v (p + 1)) := by
  have h0 := hv.1
  have h1 := hv.2 (p + 1)
  have n1 : node (p : Int) = p + 1 := by unfold node; omega
  have n2 : node (-1) = 0 := rfl
  cases pos with
  | true =>
    have e : Sat v (signC true p) ↔ v 0 < v (p + 1) := by
      have e1 : signC true p = (-1, 1, (p : Int)) := rfl
      rw [e1, Sat, if_neg (show ¬ ((1 : Int) = 0) by decide), if_pos rfl, n1, n2]
    rw [e, h0]
    exact ⟨fun h => ⟨fun _ => h, fun _ => rfl⟩, fun h => h.1 rfl⟩
  | false =>
    have e : Sat v (signC false p) ↔ v (p + 1) ≤ v 0 := by
      have e1 : signC false p = ((p : Int), 0, -1) := rfl
      rw [e1, Sat, if_pos rfl, n1, n2]
    rw [e, h0]
    refine ⟨fun h => ⟨(fun e => by cases e), (fun e => by omega)⟩, fun h => ?_⟩
    apply Classical.byContradiction
    intro hn
    have := h.2 (by omega)
    cases this
/-- a list with the constraints of a sign -/
def signed (l : List Cn) (s : Nat → Bool) : List Cn := l ++ (List.range 5).map fun p => signC (s p) p
theorem signed_ok {l : List Cn} (h : ok l) (s : Nat → Bool) : ok (signed l s) := fun c hc => by
  rcases List.mem_append.1 hc with hc | hc
  · exact h c hc
  · obtain ⟨p, hp, rfl⟩ := List.mem_map.1 hc
    exact signC_ok _ (List.mem_range.1 hp)
theorem signed_sat {v : Nat → Int} {l : List Cn} {s : Nat → Bool} : SatAll v (signed l s) ↔ SatAll v l ∧ ∀ p, p < 5 → (s p = true ↔ 0 < v (p + 1)) := by
  constructor
  · rintro ⟨hv, h⟩
    refine ⟨⟨hv, fun c hc => h c (List.mem_append.2 (.inl hc))⟩, fun p hp => (signC_sat hv (s p) p).1 (h _ (List.mem_append.2 (.inr (List.mem_map.2 ⟨p, List.mem_range.2 hp, rfl⟩))))⟩
  · rintro ⟨⟨hv, h⟩, hs⟩
    refine ⟨hv, fun c hc => ?_⟩
    rcases List.mem_append.1 hc with hc | hc
    · exact h c hc
    · obtain ⟨p, hp, rfl⟩ := List.mem_map.1 hc
      exact (signC_sat hv (s p) p).2 (hs p (List.mem_range.1 hp))
end Go.Proofs.YtgebjnoicgmdoaaGreatDoor.Cs

namespace Go.Proofs.YtgebjnoicgmdoaaGreatDoor
open Go.RowKit
open Cs (Cn)

/-- the slice value '.slice A n c' reads as the constraints l; its cells lie below block B -/
def ConR (w : World) (B : Nat) (A : Option Addr) (n : Nat) (l : List Cn) : Prop :=
  l.length = n ∧ (0 < n → ∃ b off, A = some ⟨b, off, none⟩ ∧ b < B ∧ ∀ k, k < n →
    w.cell? ⟨b, off + k * 3, none⟩ = some (.int .i64 (l.getD k (0, 0, 0)).1) ∧ w.cell? ⟨b, off + k * 3 + 1, none⟩ = some (.int .i64 (l.getD k (0, 0, 0)).2.1) ∧ w.cell? ⟨b, off + k * 3 + 2, none⟩ = some (.int .i64 (l.getD k (0, 0, 0)).2.2))
section
variable {w w' : World} {B B' n : Nat} {A : Option Addr}
theorem ConR.keep {l : List Cn} (h : ConR w B A n l) (hk : ∀ p : Addr, p.block < B → w'.cell? p = w.cell? p) : ConR w' B A n l :=
  ⟨h.1, fun hn => by
    obtain ⟨b, off, e, hb, hc⟩ := h.2 hn
    exact ⟨b, off, e, hb, fun k hk' => by rw [hk _ (by exact hb), hk _ (by exact hb), hk _ (by exact hb)]; exact hc k hk'⟩⟩
theorem ConR.below {l : List Cn} (h : ConR w B A n l) (hb : Below B w w') : ConR w' B A n l := h.keep fun _ hp => hb.cell hp
theorem ConR.more {l : List Cn} (h : ConR w B A n l) (hB : B ≤ B') : ConR w B' A n l :=
  ⟨h.1, fun hn => by
    obtain ⟨b, off, e, hb, hc⟩ := h.2 hn
    exact ⟨b, off, e, by omega, hc⟩⟩
end
/-- the cells of a list of constraints -/
def conCells (l : List Cn) : List Value := l.flatMap fun t => [.int .i64 t.1, .int .i64 t.2.1, .int .i64 t.2.2]
theorem conCells_nil : conCells [] = [] := rfl
theorem conCells_cons (t : Cn) (l : List Cn) : conCells (t :: l) = .int .i64 t.1 :: .int .i64 t.2.1 :: .int .i64 t.2.2 :: conCells l := rfl
theorem conCells_len (l : List Cn) : (conCells l).length = l.length * 3 := by
  induction l with
  | nil => rfl
  | cons t r ih => rw [conCells_cons]; simp [ih]; omega
theorem conCells_append (a b : List Cn) : conCells (a ++ b) = conCells a ++ conCells b := by simp [conCells]
theorem conCells_one (l : List Cn) : ∀ u ∈ conCells l, u.oneCell' = true := by
  intro u hu
  simp only [conCells, List.mem_flatMap] at hu
  obtain ⟨t, _, ht⟩ := hu
  simp at ht
  rcases ht with rfl | rfl | rfl <;> rfl
theorem conCells_at (l : List Cn) (k : Nat) (hk : k < l.length) : (conCells l)[k * 3]? = some (.int .i64 (l.getD k (0, 0, 0)).1) ∧ (conCells l)[k * 3 + 1]? = some (.int .i64 (l.getD k (0, 0, 0)).2.1) ∧ (conCells l)[k * 3 + 2]? = some (.int .i64 (l.getD k (0, 0, 0)).2.2) := by
  induction l generalizing k with
  | nil => simp at hk
  | cons t r ih =>
    rw [conCells_cons]
    cases k with
    | zero => exact ⟨rfl, rfl, rfl⟩
    | succ k =>
      have h := ih k (by simpa using hk)
      rw [show (k + 1) * 3 = k * 3 + 1 + 1 + 1 by omega]
      exact h
/-- a row of the call's own, of constraints -/
abbrev OwnC (w : World) (base : Nat) (A : Option Addr) (n c : Nat) (l : List Cn) : Prop := w.ownsRow base 41 3 (.slice A n c) n (conCells l)
theorem OwnC.reads {w : World} {base : Nat} {A : Option Addr} {n c : Nat} {l : List Cn} (h : OwnC w base A n c l) : ConR w w.heap.size A n l := by
  have hl : l.length = n := by have := h.1; rw [conCells_len] at this; omega
  refine ⟨hl, fun hn => ?_⟩
  rcases h.2 with ⟨_, h0⟩ | ⟨g, cap, cur, hv, hb, hgg, h1, h2, h3, h4⟩
  · omega
  · injection hv with e1 e2 e3
    subst e1
    refine ⟨g, 0, rfl, (Array.getElem?_eq_some_iff.1 hgg).1, fun k hk => ?_⟩
    have hat := conCells_at l k (by omega)
    have c1 := h.cells (g := g) rfl (k * 3) _ hat.1
    have c2 := h.cells (g := g) rfl (k * 3 + 1) _ hat.2.1
    have c3 := h.cells (g := g) rfl (k * 3 + 2) _ hat.2.2
    rw [own_adds] at c1 c2 c3
    rw [Nat.zero_add]
    exact ⟨c1, c2, c3⟩
theorem info_con : (Tryz.prog.info? 41).map (fun i => (i.zero, i.size, i.bytes)) = some (some (.agg #[.int .i64 0, .int .i64 0, .int .i64 0]), 3, 24) := by kernel_rfl
end Go.Proofs.YtgebjnoicgmdoaaGreatDoor
