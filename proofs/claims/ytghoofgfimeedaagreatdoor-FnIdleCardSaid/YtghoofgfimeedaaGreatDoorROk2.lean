/- ResidOk of the reference model (written by tools/mkrok2.py). -/
import Derived.Test.YtghoofgfimeedaaGreatDoorROk
import Derived.Test.YtghoofgfimeedaaGreatDoorSgLev
import Derived.Test.YtghoofgfimeedaaGreatDoorNUp

namespace Go.Proofs.YtghoofgfimeedaaGreatDoor
open Go.RowKit

/-- what the model asks of one atom of a residual -/
def RAt (s : Int) (l : List (Int × Int)) (k : Nat) : Prop := Nm.atOk (l.getD k (0, 0)) = true ∧ ((l.getD k (0, 0)).1 = -1 ∨ Sg.has s (l.getD k (0, 0)).1 = true) ∧ (0 < k → (l.getD (k - 1) (0, 0)).1 < (l.getD k (0, 0)).1 ∧ ((l.getD 0 (0, 0)).1 = -1 → (l.getD k (0, 0)).2 + 2 ≤ (l.getD 0 (0, 0)).2))
/-- what the model has seen of the first k atoms -/
def SeenR (s : Int) (l : List (Int × Int)) (k : Nat) : Prop := ∀ j, j < k → RAt s l j
theorem seenR_step {s : Int} {l : List (Int × Int)} {k : Nat} (h : SeenR s l k) (h1 : RAt s l k) : SeenR s l (k + 1) := by
  intro j hj
  by_cases e : j = k
  · subst e; exact h1
  · exact h j (by omega)
theorem seenR_all {s : Int} {l : List (Int × Int)} (hs : Sg.isSign s = true) (h0 : 1 ≤ l.length) (h : SeenR s l l.length) : Nm.ROk s l := by
  refine ⟨hs, h0, fun k hk => (h k hk).1, fun k h0 hk => ((h k hk).2.2 h0).1, fun k hk => (h k hk).2.1, fun e k hk => ?_⟩
  rw [List.length_drop] at hk
  rw [Nm.getD_drop1]
  have := ((h (k + 1) (by omega)).2.2 (by omega)).2 e
  omega
theorem seenR_of {s : Int} {l : List (Int × Int)} (h : Nm.ROk s l) {k : Nat} (hk : k < l.length) : RAt s l k := by
  refine ⟨h.2.2.1 k hk, h.2.2.2.2.1 k hk, fun h0 => ⟨h.2.2.2.1 k h0 hk, fun e => ?_⟩⟩
  have := h.2.2.2.2.2 e (k - 1) (by rw [List.length_drop]; omega)
  rw [Nm.getD_drop1, show k - 1 + 1 = k by omega] at this
  omega

end Go.Proofs.YtghoofgfimeedaaGreatDoor
