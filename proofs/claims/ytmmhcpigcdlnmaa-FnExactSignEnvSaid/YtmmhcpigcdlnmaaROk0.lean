/- The model's look at a sign. -/
import Derived.Test.YtmmhcpigcdlnmaaSgHas
namespace Go.Proofs.Ytmmhcpigcdlnmaa
open Go.RowKit

theorem l03Sign_any (w : World) (s : Int) :
    Calls Try.prog 77 #[.int .i64 s] w fun e w' => e = .returned (.bool (Sg.isSign s)) ∧ w' = w := by
  by_cases h1 : 0 ≤ s
  · by_cases h2 : s ≤ 31
    · go_enter Try.func77, Try.ntmps77
      go_wp2
      go_ret
      exact ⟨by simp [Sg.isSign, h1, h2], rfl⟩
    · go_enter Try.func77, Try.ntmps77
      go_wp2
      go_ret
      exact ⟨by simp [Sg.isSign, h1, h2], rfl⟩
  · go_enter Try.func77, Try.ntmps77
    go_wp2
    go_ret
    exact ⟨by simp [Sg.isSign]; omega, rfl⟩

end Go.Proofs.Ytmmhcpigcdlnmaa
