/- Signs as numbers: which parameters are positive, the sign of an env, the least env. -/
import Derived.Test.YtmmhcpigcdlnmaaNMath3

namespace Go.Proofs.Ytmmhcpigcdlnmaa

namespace Sg
/-- a sign, a parameter, and the parameter's bit is 1 -/
def has (s p : Int) : Bool := decide (0 ≤ s ∧ s ≤ 31 ∧ 0 ≤ p ∧ p < 5 ∧ s / 2 ^ p.toNat % 2 = 1)
/-- a sign -/
def isSign (s : Int) : Bool := decide (0 ≤ s ∧ s ≤ 31)
/-- a parameter -/
def isPar (p : Int) : Bool := decide (0 ≤ p ∧ p < 5)
/-- the bits of values, the first one the least -/
def bits : List Int → Int
  | [] => 0
  | v :: l => (if v > 0 then 1 else 0) + 2 * bits l
/-- the value of a parameter in the least env of a sign -/
def bit (s p : Int) : Int := if has s p then 1 else 0
/-- the least env of a sign -/
def least (s : Int) : List Int := [bit s 0, bit s 1, bit s 2, bit s 3, bit s 4]

theorem bits_nonneg (l : List Int) : 0 ≤ bits l := by
  induction l with
  | nil => simp [bits]
  | cons v l ih => unfold bits; split <;> omega
theorem bits_lt (l : List Int) : bits l < 2 ^ l.length := by
  induction l with
  | nil => simp [bits]
  | cons v l ih => unfold bits; rw [List.length_cons, Int.pow_succ]; split <;> omega
end Sg
end Go.Proofs.Ytmmhcpigcdlnmaa
