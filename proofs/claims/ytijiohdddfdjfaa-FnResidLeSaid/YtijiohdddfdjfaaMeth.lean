/- The machine's methods: each does what one step on the stack says, or panics with errLevel. -/
import Derived.Test.YtijiohdddfdjfaaBase
namespace Go.Proofs.Ytijiohdddfdjfaa
open Go.RowKit

/-- the panic with errLevel -/
def Bad (T : TypeId) (pv : Value) : Ending := .panicked [{ v := .iface T pv, recovered := false }]

/-- a row of n + 1 cells, cut to n -/
theorem own_pop {w : World} {base g cap n : Nat} {e : TypeId} {xs : List Value} {x : Value} (h : w.ownsRow base e 1 (.slice (some ⟨g, 0, none⟩) (n + 1) cap) (n + 1) (xs ++ [x])) :
    w.ownsRow base e 1 (.slice (some ⟨g, 0, none⟩) n cap) n xs := by
  have hl := h.1
  simp at hl
  rcases h.2 with ⟨h0, _⟩ | ⟨g', cap', cur, hv, hb, hgg, h1, h2, h3, h4⟩
  · cases h0
  · injection hv with e1 e2 e3
    injection e1 with e1
    injection e1 with e1
    subst e1; subst e3
    refine ⟨by omega, .inr ⟨g, cap, cur, rfl, hb, hgg, by omega, h2, h3, ?_⟩⟩
    have := congrArg (List.take n) h4
    rw [List.take_take] at this
    rw [show min n ((n + 1) * 1) = n * 1 by omega] at this
    rw [this, ← hl, List.take_left']
    rfl

end Go.Proofs.Ytijiohdddfdjfaa
