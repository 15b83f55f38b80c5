/- Plain words: a list with the constraints of a sign; an atom and a list of atoms under a table of longest ways. -/
import Derived.Test.YtmmhcpigcdlnmaaSgMath
import Derived.Test.YtmmhcpigcdlnmaaNMath3
import Derived.Test.YtmmhcpigcdlnmaaCsMath7

namespace Go.Proofs.Ytmmhcpigcdlnmaa.Un
open Go.Proofs.Ytmmhcpigcdlnmaa.Nm
open Go.Proofs.Ytmmhcpigcdlnmaa.Cs (Cn Tb)

/-- the list with the constraints of a sign -/
def sgL (l : List Cn) (s : Int) : List Cn := Cs.signed l fun p => Sg.has s (p : Int)
theorem sgL_ok {l : List Cn} (h : Cs.ok l) (s : Int) : Cs.ok (sgL l s) := Cs.signed_ok h _
theorem sgL_len (l : List Cn) (s : Int) : (sgL l s).length = l.length + 5 := by simp [sgL, Cs.signed]
/-- an atom is at most another one, and at most a list, by a table of longest ways -/
def leB (T : Tb) (x y : At) : Bool := decide (0 ≤ T (Cs.node x.1) (Cs.node y.1)) && decide (x.2 ≤ T (Cs.node x.1) (Cs.node y.1) + y.2)
def atB (T : Tb) (x : At) (n : List At) : Bool := n.any (leB T x)
/-- no atom serves up to k -/
theorem atB_none {T : Tb} {x : At} {n : List At} (h : ∀ k, k < n.length → leB T x (n.getD k (0, 0)) = false) : atB T x n = false := by
  unfold atB
  rw [List.any_eq_false]
  intro y hy
  obtain ⟨k, hk, rfl⟩ := List.mem_iff_getElem.1 hy
  have := h k hk
  rw [List.getD_eq_getElem?_getD, List.getElem?_eq_getElem hk, Option.getD_some] at this
  rw [this]
  decide
theorem atB_some {T : Tb} {x : At} {n : List At} {k : Nat} (hk : k < n.length) (h : leB T x (n.getD k (0, 0)) = true) : atB T x n = true := by
  unfold atB
  rw [List.any_eq_true]
  rw [List.getD_eq_getElem?_getD, List.getElem?_eq_getElem hk, Option.getD_some] at h
  exact ⟨n[k], List.getElem_mem hk, h⟩

theorem drop_get {l : List At} {k : Nat} (hk : k < l.length) : l.drop k = l.getD k (0, 0) :: l.drop (k + 1) := by
  rw [List.drop_eq_getElem_cons hk, List.getD_eq_getElem?_getD, List.getElem?_eq_getElem hk, Option.getD_some]
/-- the first atom that is not at most b -/
def exL (T : Tb) (b : List At) : List At → Option At
  | [] => none
  | x :: t => if atB T x b = true then exL T b t else some x
theorem exL_go {T : Tb} {b l : List At} {k : Nat} (hk : k < l.length) (h : atB T (l.getD k (0, 0)) b = true) : exL T b (l.drop k) = exL T b (l.drop (k + 1)) := by
  rw [drop_get hk, exL, if_pos h]
theorem exL_hit {T : Tb} {b l : List At} {k : Nat} (hk : k < l.length) (h : atB T (l.getD k (0, 0)) b = false) : exL T b (l.drop k) = some (l.getD k (0, 0)) := by
  rw [drop_get hk, exL, if_neg (by rw [h]; decide)]
theorem exL_end {T : Tb} {b l : List At} {k : Nat} (hk : l.length ≤ k) : exL T b (l.drop k) = none := by
  rw [List.drop_eq_nil_of_le hk, exL]
theorem exL_mem {T : Tb} {b l : List At} {x : At} (h : exL T b l = some x) : x ∈ l := by
  induction l with
  | nil => cases h
  | cons y t ih =>
    simp only [exL] at h
    split at h
    · exact List.mem_cons_of_mem _ (ih h)
    · injection h with h
      subst h
      exact List.mem_cons_self
theorem exL_no {T : Tb} {b l : List At} {x : At} (h : exL T b l = some x) : atB T x b = false := by
  induction l with
  | nil => cases h
  | cons y t ih =>
    simp only [exL] at h
    split at h
    · exact ih h
    · rename_i h1
      injection h with h
      subst h
      simpa using h1
theorem exL_none {T : Tb} {b l : List At} : exL T b l = none ↔ ∀ x ∈ l, atB T x b = true := by
  induction l with
  | nil => simp [exL]
  | cons y t ih =>
    simp only [exL]
    split
    · rename_i h1
      rw [ih]
      simp [h1]
    · rename_i h1
      simp [h1]

end Go.Proofs.Ytmmhcpigcdlnmaa.Un
