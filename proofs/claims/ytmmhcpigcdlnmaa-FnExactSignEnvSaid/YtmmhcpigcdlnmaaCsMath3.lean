/- Plain facts for constraints: when a list is satisfiable, its least values, and what it implies. -/
import Derived.Test.YtmmhcpigcdlnmaaCsMath2
namespace Go.Proofs.Ytmmhcpigcdlnmaa.Cs

/-- values satisfy a whole list -/
def SatAll (v : Nat → Int) (l : List Cn) : Prop := Val v ∧ ∀ c ∈ l, Sat v c
def ok (l : List Cn) : Prop := ∀ c ∈ l, cOk c = true
theorem tab_keeps {v : Nat → Int} {l : List Cn} (hok : ok l) (h : SatAll v l) : Keeps v (tab l) := (keeps_start h.1 hok h.2).relaxK 6
/-- a way that goes round and grows: nothing satisfies the list -/
theorem not_flat {v : Nat → Int} {l : List Cn} (hok : ok l) (hf : flat l = false) : ¬ SatAll v l := by
  intro h
  have : ∃ i, i < 6 ∧ 0 < tab l i i := by
    apply Classical.byContradiction
    intro hn
    have : flat l = true := (flat_iff l).2 fun i hi => by
      apply Classical.byContradiction
      intro hp
      exact hn ⟨i, hi, by omega⟩
    rw [this] at hf
    cases hf
  obtain ⟨i, _, hi⟩ := this
  have := tab_keeps hok h i i (by omega)
  omega
section
variable {l : List Cn} (hf : flat l = true)
include hf
theorem tab_closed {i j k : Nat} (hi : i < 6) (hj : j < 6) (hk : k < 6) (h1 : 0 ≤ tab l i k) (h2 : 0 ≤ tab l k j) : tab l i k + tab l k j ≤ tab l i j :=
  (tab_stage ((flat_iff l).1 hf) 6 (by omega)).1 k hk i j hi hj h1 h2
theorem tab_bd (i j : Nat) : -1 ≤ tab l i j ∧ tab l i j ≤ 64 := (tab_stage ((flat_iff l).1 hf) 6 (by omega)).2.1 i j
theorem tab_diag {i : Nat} (hi : i < 6) : tab l i i = 0 := (tab_stage ((flat_iff l).1 hf) 6 (by omega)).2.2 i hi
end
theorem tab_ge (l : List Cn) (i j : Nat) : start l i j ≤ tab l i j := (Up.relaxK (fun i j => by have := (start_le l i j).2; omega) 6 i j).1
theorem tab_zero (l : List Cn) (j : Nat) : 0 ≤ tab l 0 j := by
  have h1 := tab_ge l 0 j
  have h2 := start_base l 0 j
  have h3 : base 0 j = 0 := by simp [base]
  omega
/-- values that keep the distances of the nodes satisfy the list -/
theorem sat_of_keeps {v : Nat → Int} {l : List Cn} (hok : ok l) (hv : Val v) (h : ∀ i j, i < 6 → j < 6 → 0 ≤ tab l i j → v i + tab l i j ≤ v j) : SatAll v l := by
  refine ⟨hv, fun c hc => ?_⟩
  have ho := (cOk_iff c).1 (hok c hc)
  have n1 := node_lt ho.1.1 ho.1.2
  have n2 := node_lt ho.2.1.1 ho.2.1.2
  have hm := start_mem hc
  have g1 := tab_ge l (node c.1) (node c.2.2)
  have g2 := tab_ge l (node c.2.2) (node c.1)
  have k1 := h _ _ n1 n2
  have k2 := h _ _ n2 n1
  unfold Sat
  by_cases e0 : c.2.1 = 0
  · rw [if_pos e0]
    have := hm.1
    rw [if_neg (by omega)] at this
    have := k1 (by omega)
    omega
  · rw [if_neg e0]
    by_cases e1 : c.2.1 = 1
    · rw [if_pos e1]
      have := hm.1
      rw [if_pos e1] at this
      have := k1 (by omega)
      omega
    · rw [if_neg e1]
      have h1 := hm.1
      rw [if_neg e1] at h1
      have h2 := hm.2 (by omega)
      have := k1 (by omega)
      have := k2 (by omega)
      omega
/-- the least values -/
def least (l : List Cn) : Nat → Int := fun x => tab l 0 x
theorem least_sat {l : List Cn} (hok : ok l) (hf : flat l = true) : SatAll (least l) l :=
  sat_of_keeps hok ⟨tab_diag hf (by omega), fun x => tab_zero l x⟩ fun i j hi hj h => tab_closed hf (by omega) hj hi (tab_zero l i) h
theorem least_le {v : Nat → Int} {l : List Cn} (hok : ok l) (h : SatAll v l) (x : Nat) : least l x ≤ v x := by
  have := tab_keeps hok h 0 x (tab_zero l x)
  rw [h.1.1] at this
  unfold least
  omega
/-- a list is satisfiable just where no way goes round and grows -/
theorem sat_iff {l : List Cn} (hok : ok l) : flat l = true ↔ ∃ v, SatAll v l := by
  constructor
  · exact fun h => ⟨least l, least_sat hok h⟩
  · rintro ⟨v, hv⟩
    cases e : flat l with
    | true => rfl
    | false => exact absurd hv (not_flat hok e)
/-- values in which node i is N higher than it must be, and all that must follow it -/
def lifted (l : List Cn) (i : Nat) (N : Int) : Nat → Int := fun x => if 0 ≤ tab l i x then max (tab l 0 x) (N + tab l i x) else tab l 0 x
theorem lifted_sat {l : List Cn} (hok : ok l) (hf : flat l = true) {i : Nat} (hi : i < 6) (h0 : tab l i 0 < 0) (N : Int) : SatAll (lifted l i N) l := by
  refine sat_of_keeps hok ⟨?_, fun x => ?_⟩ fun a b ha hb hab => ?_
  · unfold lifted
    rw [if_neg (by omega)]
    exact tab_diag hf (by omega)
  · have := tab_zero l x
    unfold lifted
    split <;> omega
  · have c0 := tab_closed hf (by omega) hb ha (tab_zero l a) hab
    unfold lifted
    by_cases h1 : 0 ≤ tab l i a
    · have c1 := tab_closed hf hi hb ha h1 hab
      rw [if_pos h1, if_pos (by omega)]
      omega
    · rw [if_neg h1]
      split <;> omega
/-- ConsFar is just what is implied: some values keep no more than it -/
theorem far_tight {l : List Cn} (hok : ok l) (hf : flat l = true) {i j : Nat} (hi : i < 6) (hj : j < 6) : ∃ v, SatAll v l ∧ (0 ≤ tab l i j → v j = v i + tab l i j) ∧ (tab l i j < 0 → v j < v i) := by
  by_cases h0 : 0 ≤ tab l i 0
  · have c1 := tab_closed hf (i := 0) (j := 0) (k := i) (by omega) (by omega) hi (tab_zero l i) h0
    have d0 := tab_diag hf (i := 0) (by omega)
    have z := tab_zero l i
    have c2 := tab_closed hf hi hj (by omega) h0 (tab_zero l j)
    have zj := tab_zero l j
    refine ⟨least l, least_sat hok hf, fun hij => ?_, fun hij => by omega⟩
    have c3 := tab_closed hf (i := 0) (by omega) hj hi z hij
    unfold least
    omega
  · have bi := (tab_bd hf 0 i).2
    have bj := (tab_bd hf 0 j).2
    have di := tab_diag hf hi
    refine ⟨lifted l i 100, lifted_sat hok hf hi (by omega) 100, fun hij => ?_, fun hij => ?_⟩
    · unfold lifted
      rw [if_pos hij, if_pos (by omega), di]
      omega
    · unfold lifted
      rw [if_neg (by omega), if_pos (by omega), di]
      omega
/-- a distance that all values keep is at most the table's -/
theorem far_iff {l : List Cn} (hok : ok l) (hf : flat l = true) {i j : Nat} (hi : i < 6) (hj : j < 6) {w : Int} (hw : 0 ≤ w) : w ≤ tab l i j ↔ ∀ v, SatAll v l → v i + w ≤ v j := by
  constructor
  · intro h v hv
    have := tab_keeps hok hv i j (by omega)
    omega
  · intro h
    obtain ⟨v, hv, h1, h2⟩ := far_tight hok hf hi hj
    have := h v hv
    by_cases hn : 0 ≤ tab l i j
    · have := h1 hn; omega
    · have := h2 (by omega); omega
end Go.Proofs.Ytmmhcpigcdlnmaa.Cs
