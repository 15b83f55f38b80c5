/- NormOk of the reference model. -/
import Derived.Test.YtijiohdddfdjfaaDoorNOk1
import Derived.Test.YtijiohdddfdjfaaDoorCls
namespace Go.Proofs.YtijiohdddfdjfaaDoor
open Go.RowKit

/-- what the model has seen of the first k atoms -/
def SeenOk (l : List (Int × Int)) (k : Nat) : Prop := ∀ j, j < k → Nm.atOk (l.getD j (0, 0)) = true ∧ (0 < j → (l.getD (j - 1) (0, 0)).1 < (l.getD j (0, 0)).1 ∧ ((l.getD 0 (0, 0)).1 = -1 → (l.getD j (0, 0)).2 < (l.getD 0 (0, 0)).2))
theorem seen_step {l : List (Int × Int)} {k : Nat} (h : SeenOk l k) (h1 : Nm.atOk (l.getD k (0, 0)) = true) (h2 : 0 < k → (l.getD (k - 1) (0, 0)).1 < (l.getD k (0, 0)).1 ∧ ((l.getD 0 (0, 0)).1 = -1 → (l.getD k (0, 0)).2 < (l.getD 0 (0, 0)).2)) : SeenOk l (k + 1) := by
  intro j hj
  by_cases e : j = k
  · subst e; exact ⟨h1, h2⟩
  · exact h j (by omega)
theorem seen_all {l : List (Int × Int)} (h0 : 1 ≤ l.length) (h : SeenOk l l.length) : Nm.Ok l := by
  refine ⟨h0, fun k hk => (h k hk).1, fun k h0 hk => ((h k hk).2 h0).1, fun e k hk => ?_⟩
  rw [List.length_drop] at hk
  rw [Nm.getD_drop1]
  exact ((h (k + 1) (by omega)).2 (by omega)).2 e
theorem seen_of {l : List (Int × Int)} (h : Nm.Ok l) {k : Nat} (hk : k < l.length) : Nm.atOk (l.getD k (0, 0)) = true ∧ (0 < k → (l.getD (k - 1) (0, 0)).1 < (l.getD k (0, 0)).1 ∧ ((l.getD 0 (0, 0)).1 = -1 → (l.getD k (0, 0)).2 < (l.getD 0 (0, 0)).2)) := by
  refine ⟨h.2.1 k hk, fun h0 => ⟨h.2.2.1 k h0 hk, fun e => ?_⟩⟩
  have := h.2.2.2 e (k - 1) (by rw [List.length_drop]; omega)
  rw [Nm.getD_drop1, show k - 1 + 1 = k by omega] at this
  exact this

end Go.Proofs.YtijiohdddfdjfaaDoor
