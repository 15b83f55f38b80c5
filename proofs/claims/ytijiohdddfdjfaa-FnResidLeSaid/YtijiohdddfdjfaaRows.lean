/-
  No cell of these rows narrows 'for every input' (looked for: loops, veiled, ifaces, maps, wideKeys, modest, calm, conditions, laid).
  DERIVED. THE GIVEN ROWS OF THIS SEAT. 6 by the template 'for every input the law returns true; each argument reads behind the call as it read before'; 0 by the template 'total and deterministic' (their statements: YtijiohdddfdjfaaTotals.lean).
  GIVEN WITH THE SEED: the statements are not yours to turn. If you find one false, say at which input.
  Laid BY PROGRAM, IN A SANDBOX (cutbox-rows.mjs): the forced cells as the released guide's own fill.sh prints them over the translation 3090e4d88d9d9686… (all of the seat's roots in one cut). By AI agents, Wed Nov 11 2026. No macro, syntax, notation, axiom, sorry.
-/
import Derived.Test.YtijiohdddfdjfaaChecked
import GoSem.Claim
import GoSem.ClaimJoined
import GoSem.ClaimMapViews
import Derived.JoinedTies
import Derived.KernelRfl
namespace Go.Proofs.Ytijiohdddfdjfaa
/- THE CELL 'sum', in the pinned program and in every row, IS THE sha256 OF THE DUMP (.gsa) THAT YtijiohdddfdjfaaProg.lean LOADS. Nothing in Lean hashes anything: it is a label: what it is worth is what the hold of that sum in a sandbox is worth. -/
noncomputable def Try.pinned : Pinned := { name := "ytijiohdddfdjfaa", sum := "3090e4d88d9d968652b30d25c72d77d9dc8843ec4dac4008713a31ec793ccb7f", checked := Try.checked }
namespace Rows
def none {H : Type} : Left H := { results := [], args := [] }

/-- 'laws.FnResidLe': WHATEVER THE INPUT: true; the input reads as it did. -/
def fnResidLeSpec : ChangeSpec := { name := "fnResidLe", fn := fun _ => fun
  | [d] => { results := [.lit (.bool true)], args := [d] }
  | _ => none }
def fnResidLeRow : OpenClaim := { program := "ytijiohdddfdjfaa", sum := "3090e4d88d9d968652b30d25c72d77d9dc8843ec4dac4008713a31ec793ccb7f", func := "loop.example/g00744/laws.FnResidLe", spec := "fnResidLe", apart := false }
def FnResidLeSaid : Prop := fnResidLeRow.holds Try.pinned (OpenSpec.ofChange fnResidLeSpec)

/-- ITS FALSE NEIGHBOUR: 'it returns false'. Refute it at one input. -/
def fnResidLeWrong : ChangeSpec := { name := "fnResidLe", fn := fun _ => fun
  | [d] => { results := [.lit (.bool false)], args := [d] }
  | _ => none }
def FnResidLeWrongFalsely : Prop := fnResidLeRow.holds Try.pinned (OpenSpec.ofChange fnResidLeWrong)

/-- 'laws.FnExactSignOf': WHATEVER THE INPUT: true; the input reads as it did. -/
def fnExactSignOfSpec : ChangeSpec := { name := "fnExactSignOf", fn := fun _ => fun
  | [d] => { results := [.lit (.bool true)], args := [d] }
  | _ => none }
def fnExactSignOfRow : OpenClaim := { program := "ytijiohdddfdjfaa", sum := "3090e4d88d9d968652b30d25c72d77d9dc8843ec4dac4008713a31ec793ccb7f", func := "loop.example/g00744/laws.FnExactSignOf", spec := "fnExactSignOf", apart := false }
def FnExactSignOfSaid : Prop := fnExactSignOfRow.holds Try.pinned (OpenSpec.ofChange fnExactSignOfSpec)

/-- ITS FALSE NEIGHBOUR: 'it returns false'. Refute it at one input. -/
def fnExactSignOfWrong : ChangeSpec := { name := "fnExactSignOf", fn := fun _ => fun
  | [d] => { results := [.lit (.bool false)], args := [d] }
  | _ => none }
def FnExactSignOfWrongFalsely : Prop := fnExactSignOfRow.holds Try.pinned (OpenSpec.ofChange fnExactSignOfWrong)

/-- 'laws.FnExactSignHas': WHATEVER THE INPUT: true; the input reads as it did. -/
def fnExactSignHasSpec : ChangeSpec := { name := "fnExactSignHas", fn := fun _ => fun
  | [d1, d2] => { results := [.lit (.bool true)], args := [d1, d2] }
  | _ => none }
def fnExactSignHasRow : OpenClaim := { program := "ytijiohdddfdjfaa", sum := "3090e4d88d9d968652b30d25c72d77d9dc8843ec4dac4008713a31ec793ccb7f", func := "loop.example/g00744/laws.FnExactSignHas", spec := "fnExactSignHas", apart := false }
def FnExactSignHasSaid : Prop := fnExactSignHasRow.holds Try.pinned (OpenSpec.ofChange fnExactSignHasSpec)

/-- ITS FALSE NEIGHBOUR: 'it returns false'. Refute it at one input. -/
def fnExactSignHasWrong : ChangeSpec := { name := "fnExactSignHas", fn := fun _ => fun
  | [d1, d2] => { results := [.lit (.bool false)], args := [d1, d2] }
  | _ => none }
def FnExactSignHasWrongFalsely : Prop := fnExactSignHasRow.holds Try.pinned (OpenSpec.ofChange fnExactSignHasWrong)

/-- 'laws.FnExactResidOk': WHATEVER THE INPUT: true; the input reads as it did. -/
def fnExactResidOkSpec : ChangeSpec := { name := "fnExactResidOk", fn := fun _ => fun
  | [d1, d2] => { results := [.lit (.bool true)], args := [d1, d2] }
  | _ => none }
def fnExactResidOkRow : OpenClaim := { program := "ytijiohdddfdjfaa", sum := "3090e4d88d9d968652b30d25c72d77d9dc8843ec4dac4008713a31ec793ccb7f", func := "loop.example/g00744/laws.FnExactResidOk", spec := "fnExactResidOk", apart := false }
def FnExactResidOkSaid : Prop := fnExactResidOkRow.holds Try.pinned (OpenSpec.ofChange fnExactResidOkSpec)

/-- ITS FALSE NEIGHBOUR: 'it returns false'. Refute it at one input. -/
def fnExactResidOkWrong : ChangeSpec := { name := "fnExactResidOk", fn := fun _ => fun
  | [d1, d2] => { results := [.lit (.bool false)], args := [d1, d2] }
  | _ => none }
def FnExactResidOkWrongFalsely : Prop := fnExactResidOkRow.holds Try.pinned (OpenSpec.ofChange fnExactResidOkWrong)

/-- 'laws.FnExactResidLe': WHATEVER THE INPUT: true; the input reads as it did. -/
def fnExactResidLeSpec : ChangeSpec := { name := "fnExactResidLe", fn := fun _ => fun
  | [d1, d2, d3] => { results := [.lit (.bool true)], args := [d1, d2, d3] }
  | _ => none }
def fnExactResidLeRow : OpenClaim := { program := "ytijiohdddfdjfaa", sum := "3090e4d88d9d968652b30d25c72d77d9dc8843ec4dac4008713a31ec793ccb7f", func := "loop.example/g00744/laws.FnExactResidLe", spec := "fnExactResidLe", apart := false }
def FnExactResidLeSaid : Prop := fnExactResidLeRow.holds Try.pinned (OpenSpec.ofChange fnExactResidLeSpec)

/-- ITS FALSE NEIGHBOUR: 'it returns false'. Refute it at one input. -/
def fnExactResidLeWrong : ChangeSpec := { name := "fnExactResidLe", fn := fun _ => fun
  | [d1, d2, d3] => { results := [.lit (.bool false)], args := [d1, d2, d3] }
  | _ => none }
def FnExactResidLeWrongFalsely : Prop := fnExactResidLeRow.holds Try.pinned (OpenSpec.ofChange fnExactResidLeWrong)

/-- 'laws.FnExactResidEval': WHATEVER THE INPUT: true; the input reads as it did. -/
def fnExactResidEvalSpec : ChangeSpec := { name := "fnExactResidEval", fn := fun _ => fun
  | [d1, d2] => { results := [.lit (.bool true)], args := [d1, d2] }
  | _ => none }
def fnExactResidEvalRow : OpenClaim := { program := "ytijiohdddfdjfaa", sum := "3090e4d88d9d968652b30d25c72d77d9dc8843ec4dac4008713a31ec793ccb7f", func := "loop.example/g00744/laws.FnExactResidEval", spec := "fnExactResidEval", apart := false }
def FnExactResidEvalSaid : Prop := fnExactResidEvalRow.holds Try.pinned (OpenSpec.ofChange fnExactResidEvalSpec)

/-- ITS FALSE NEIGHBOUR: 'it returns false'. Refute it at one input. -/
def fnExactResidEvalWrong : ChangeSpec := { name := "fnExactResidEval", fn := fun _ => fun
  | [d1, d2] => { results := [.lit (.bool false)], args := [d1, d2] }
  | _ => none }
def FnExactResidEvalWrongFalsely : Prop := fnExactResidEvalRow.holds Try.pinned (OpenSpec.ofChange fnExactResidEvalWrong)

/- THE SECOND FORM. 'bulk': how many values and letters a reading holds, each counted each time it is reached (what is shared counts as often as it is met; a slice's spare places count too). A statement '..UptoSaid' is the law's where the arguments, and the package variables that the reading takes, are together of bulk at most 1048576: NARROWER than '..Said'. Prove '..Said' where nothing that the law and all that it calls make is longer than what came in: it says more and counts as full. Else prove '..UptoSaid'. A law counts once. -/
mutual
def uptoBulk {H : Type} : DataW H → Nat
  | .lit (.string bytes) => bytes.length + 1
  | .lit _ => 1
  | .nil => 1
  | .ptr d => uptoBulk d + 1
  | .slice elems spare => uptoBulkAll elems + uptoBulkAll spare + 1
  | .agg parts => uptoBulkAll parts + 1
  | .iface _ d => uptoBulk d + 1
  | .map entries => uptoBulkEntries entries + 1
  | .held _ => 1
def uptoBulkAll {H : Type} : List (DataW H) → Nat
  | [] => 0
  | d :: r => uptoBulk d + uptoBulkAll r
def uptoBulkEntries {H : Type} : List (Lit × DataW H) → Nat
  | [] => 0
  | x :: r => uptoBulkEntry x + uptoBulkEntries r
def uptoBulkEntry {H : Type} : Lit × DataW H → Nat
  | (.string bytes, d) => bytes.length + uptoBulk d + 1
  | (_, d) => uptoBulk d + 1
 end
def uptoSmall : (H : Type) → List (DataW H) → Bool := fun _ ds => decide (uptoBulkAll ds ≤ 1048576)
def OpenSpec.upto (s : _root_.Go.ChangeSpec) : _root_.Go.OpenSpec := { _root_.Go.OpenSpec.ofChange s with cond := some uptoSmall }

/-- 'laws.FnResidLe', WHERE WHAT IT READS IS OF BULK AT MOST 1048576: true; the input reads as it did. -/
def fnResidLeUptoRow : OpenClaim := { program := "ytijiohdddfdjfaa", sum := "3090e4d88d9d968652b30d25c72d77d9dc8843ec4dac4008713a31ec793ccb7f", func := "loop.example/g00744/laws.FnResidLe", spec := "fnResidLe", apart := false, narrowed := true }
def FnResidLeUptoSaid : Prop := fnResidLeUptoRow.holds Try.pinned (OpenSpec.upto fnResidLeSpec)

/-- 'laws.FnExactSignOf', WHERE WHAT IT READS IS OF BULK AT MOST 1048576: true; the input reads as it did. -/
def fnExactSignOfUptoRow : OpenClaim := { program := "ytijiohdddfdjfaa", sum := "3090e4d88d9d968652b30d25c72d77d9dc8843ec4dac4008713a31ec793ccb7f", func := "loop.example/g00744/laws.FnExactSignOf", spec := "fnExactSignOf", apart := false, narrowed := true }
def FnExactSignOfUptoSaid : Prop := fnExactSignOfUptoRow.holds Try.pinned (OpenSpec.upto fnExactSignOfSpec)

/-- 'laws.FnExactSignHas', WHERE WHAT IT READS IS OF BULK AT MOST 1048576: true; the input reads as it did. -/
def fnExactSignHasUptoRow : OpenClaim := { program := "ytijiohdddfdjfaa", sum := "3090e4d88d9d968652b30d25c72d77d9dc8843ec4dac4008713a31ec793ccb7f", func := "loop.example/g00744/laws.FnExactSignHas", spec := "fnExactSignHas", apart := false, narrowed := true }
def FnExactSignHasUptoSaid : Prop := fnExactSignHasUptoRow.holds Try.pinned (OpenSpec.upto fnExactSignHasSpec)

/-- 'laws.FnExactResidOk', WHERE WHAT IT READS IS OF BULK AT MOST 1048576: true; the input reads as it did. -/
def fnExactResidOkUptoRow : OpenClaim := { program := "ytijiohdddfdjfaa", sum := "3090e4d88d9d968652b30d25c72d77d9dc8843ec4dac4008713a31ec793ccb7f", func := "loop.example/g00744/laws.FnExactResidOk", spec := "fnExactResidOk", apart := false, narrowed := true }
def FnExactResidOkUptoSaid : Prop := fnExactResidOkUptoRow.holds Try.pinned (OpenSpec.upto fnExactResidOkSpec)

/-- 'laws.FnExactResidLe', WHERE WHAT IT READS IS OF BULK AT MOST 1048576: true; the input reads as it did. -/
def fnExactResidLeUptoRow : OpenClaim := { program := "ytijiohdddfdjfaa", sum := "3090e4d88d9d968652b30d25c72d77d9dc8843ec4dac4008713a31ec793ccb7f", func := "loop.example/g00744/laws.FnExactResidLe", spec := "fnExactResidLe", apart := false, narrowed := true }
def FnExactResidLeUptoSaid : Prop := fnExactResidLeUptoRow.holds Try.pinned (OpenSpec.upto fnExactResidLeSpec)

/-- 'laws.FnExactResidEval', WHERE WHAT IT READS IS OF BULK AT MOST 1048576: true; the input reads as it did. -/
def fnExactResidEvalUptoRow : OpenClaim := { program := "ytijiohdddfdjfaa", sum := "3090e4d88d9d968652b30d25c72d77d9dc8843ec4dac4008713a31ec793ccb7f", func := "loop.example/g00744/laws.FnExactResidEval", spec := "fnExactResidEval", apart := false, narrowed := true }
def FnExactResidEvalUptoSaid : Prop := fnExactResidEvalUptoRow.holds Try.pinned (OpenSpec.upto fnExactResidEvalSpec)

end Rows
end Go.Proofs.Ytijiohdddfdjfaa
