/- The model's look at a sign. -/
import Derived.Test.YtijiohdddfdjfaaDoorSgHas
namespace Go.Proofs.YtijiohdddfdjfaaDoor
open Go.RowKit

theorem l03Sign_any (w : World) (s : Int) :
    Calls Tryd.prog 50 #[.int .i64 s] w fun e w' => e = .returned (.bool (Sg.isSign s)) ∧ w' = w := by
  by_cases h1 : 0 ≤ s
  · by_cases h2 : s ≤ 31
    · go_enter Tryd.func50, Tryd.ntmps50
      go_wp2
      go_ret
      exact ⟨by simp [Sg.isSign, h1, h2], rfl⟩
    · go_enter Tryd.func50, Tryd.ntmps50
      go_wp2
      go_ret
      exact ⟨by simp [Sg.isSign, h1, h2], rfl⟩
  · go_enter Tryd.func50, Tryd.ntmps50
    go_wp2
    go_ret
    exact ⟨by simp [Sg.isSign]; omega, rfl⟩

end Go.Proofs.YtijiohdddfdjfaaDoor
