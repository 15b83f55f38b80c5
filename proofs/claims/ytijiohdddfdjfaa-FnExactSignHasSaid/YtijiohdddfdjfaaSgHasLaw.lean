/- The law of SignHas: whatever the numbers, the program and the reference model give one answer. -/
import Derived.Test.YtijiohdddfdjfaaSgHas
namespace Go.Proofs.Ytijiohdddfdjfaa
open Go.RowKit

theorem signHasLaw_any (w : World) (s p : Int) :
    Calls Try.prog 5 #[.int .i64 s, .int .i64 p] w fun e w' => e = .returned (.bool true) ∧ Below w.heap.size w w' := by
  go_enter Try.func5, Try.ntmps5
  go_wp2_with fail
  refine (specSignHas_any w s p).mono ?_
  rintro e w' ⟨rfl, rfl⟩
  go_wp2_with fail
  refine (implSignHas_any _ s p).mono ?_
  rintro e w' ⟨rfl, rfl⟩
  have hbb : ((Sg.has s p) != (Sg.has s p)) = false := by simp
  go_wp2
  go_ret
  exact ⟨rfl, Below.refl _ _⟩
end Go.Proofs.Ytijiohdddfdjfaa
