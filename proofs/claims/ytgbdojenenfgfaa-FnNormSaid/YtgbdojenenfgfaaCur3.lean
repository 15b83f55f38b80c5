/- The model's cursor: levels. -/
import Derived.Test.YtgbdojenenfgfaaCur2
namespace Go.Proofs.Ytgbdojenenfgfaa
open Go.RowKit

def cost : Nat → Nat
  | 0 => 4
  | d + 1 => 8 + 2 * cost d

theorem joinR_some {op : Int} {a b l : List (Int × Int)} (h : joinR op a b = some l) : 1 ≤ l.length ∧ l.length ≤ 24 ∧ Lv.levelOk l = true := by
  unfold joinR at h
  split at h
  · unfold ifR at h
    split at h
    · rename_i hk
      injection h with h
      rw [← h]
      exact ⟨(ok_len hk rfl).1, (ok_len hk rfl).2, hk⟩
    · cases h
  · cases h
theorem succR_some {a l : List (Int × Int)} {k : Int} (h : succR a k = some l) (ha : 1 ≤ a.length) : 1 ≤ l.length ∧ l.length ≤ 24 := by
  unfold succR at h
  split at h
  · rename_i hk
    injection h with h
    rw [← h]
    simp [sxs]
    omega
  · cases h

end Go.Proofs.Ytgbdojenenfgfaa
