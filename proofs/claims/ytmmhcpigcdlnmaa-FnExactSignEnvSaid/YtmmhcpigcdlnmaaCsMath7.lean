/- Plain facts for constraints: what is left by its indices, as the program keeps it. Nothing of the program is imported. -/
import Derived.Test.YtmmhcpigcdlnmaaCsMath6
namespace Go.Proofs.Ytmmhcpigcdlnmaa.Cs

/-- the indices that are not gone -/
def keptI (l : List Cn) (g : Nat → Bool) : List Nat := (List.range l.length).filter fun i => !g i
/-- the constraints at indices -/
def pickC (l : List Cn) (is : List Nat) : List Cn := is.map fun i => l.getD i (0, 0, 0)
theorem skipFrom_eq (g : Nat → Bool) : ∀ (l : List Cn) (k : Nat), skipFrom k l g = ((List.range' k l.length).filter fun i => !g i).map fun i => l.getD (i - k) (0, 0, 0)
  | [], k => by simp [skipFrom]
  | x :: r, k => by
    have ih := skipFrom_eq g r (k + 1)
    have e : ((List.range' (k + 1) r.length).filter fun i => !g i).map (fun i => r.getD (i - (k + 1)) (0, 0, 0)) = ((List.range' (k + 1) r.length).filter fun i => !g i).map fun i => (x :: r).getD (i - k) (0, 0, 0) := by
      apply List.map_congr_left
      intro i hi
      have h1 := (List.mem_range'_1.1 (List.mem_filter.1 hi).1).1
      rw [show i - k = (i - (k + 1)) + 1 by omega]
      simp
    simp only [skipFrom, List.length_cons, List.range'_succ, List.filter_cons]
    by_cases h : g k = true
    · rw [if_pos h, ih, e]
      simp [h]
    · rw [if_neg h, ih, e]
      simp [h]
theorem skip_eq (l : List Cn) (g : Nat → Bool) : skip l g = pickC l (keptI l g) := by
  unfold skip pickC keptI
  rw [skipFrom_eq g l 0, List.range_eq_range']
  simp
theorem kept_del (l : List Cn) (g : Nat → Bool) (i : Nat) : (keptI l g).filter (fun x => !decide (x = i)) = keptI l (mark g i true) := by
  unfold keptI
  rw [List.filter_filter]
  apply List.filter_congr
  intro x _
  unfold mark
  by_cases h : x = i <;> simp [h]
theorem kept_none (l : List Cn) : keptI l (fun _ => false) = List.range l.length := by
  unfold keptI
  simp
theorem kept_lt {l : List Cn} {g : Nat → Bool} {i : Nat} (h : i ∈ keptI l g) : i < l.length := List.mem_range.1 (List.mem_filter.1 h).1
theorem kept_len (l : List Cn) (g : Nat → Bool) : (keptI l g).length ≤ l.length := by
  have := List.length_filter_le (fun i => !g i) (List.range l.length)
  rw [List.length_range] at this
  exact this
theorem skip_len (l : List Cn) (g : Nat → Bool) : (skip l g).length ≤ l.length := by
  rw [skip_eq]
  unfold pickC
  rw [List.length_map]
  exact kept_len l g
/-- up to n: what the model has found so far -/
def foundI (g : Nat → Bool) (n : Nat) : List Nat := (List.range n).filter fun i => !g i
theorem foundI_all (l : List Cn) (g : Nat → Bool) : foundI g l.length = keptI l g := rfl
theorem foundI_succ (g : Nat → Bool) (n : Nat) : foundI g (n + 1) = if g n = true then foundI g n else foundI g n ++ [n] := by
  unfold foundI
  rw [List.range_succ, List.filter_append]
  by_cases h : g n = true
  · rw [if_pos h]; simp [h]
  · rw [if_neg h]; simp [h]
theorem foundI_congr {g h : Nat → Bool} {n : Nat} (e : ∀ i, i < n → g i = h i) : foundI g n = foundI h n := by
  unfold foundI
  apply List.filter_congr
  intro i hi
  rw [e i (List.mem_range.1 hi)]
theorem core_found (l : List Cn) (n : Nat) : foundI (coreTo l (n + 1)) (n + 1) = if flat (skip l (mark (coreTo l n) n true)) = true then foundI (coreTo l n) n ++ [n] else foundI (coreTo l n) n := by
  by_cases h : flat (skip l (mark (coreTo l n) n true)) = true
  · have e : coreTo l (n + 1) = coreTo l n := by simp only [coreTo]; rw [if_pos h]
    rw [if_pos h, e, foundI_succ, if_neg (by rw [coreTo_late l n n (Nat.le_refl _)]; decide)]
  · have e : coreTo l (n + 1) = mark (coreTo l n) n true := by simp only [coreTo]; rw [if_neg h]
    rw [if_neg h, e, foundI_succ, if_pos (by simp [mark])]
    exact foundI_congr fun i hi => by simp [mark, Nat.ne_of_lt hi]
theorem foundI_len (g : Nat → Bool) (n : Nat) : (foundI g n).length ≤ n := by
  have := List.length_filter_le (fun i => !g i) (List.range n)
  rw [List.length_range] at this
  exact this
end Go.Proofs.Ytmmhcpigcdlnmaa.Cs
