/-
  No cell of these rows narrows 'for every input' (looked for: loops, veiled, ifaces, maps, wideKeys, modest, calm, conditions, laid).
  DERIVED. THE GIVEN ROWS OF THIS SEAT. 8 by the template 'for every input the law returns true; each argument reads behind the call as it read before'; 0 by the template 'total and deterministic' (their statements: YtgbdojenenfgfaaTotals.lean).
  GIVEN WITH THE SEED: the statements are not yours to turn. If you find one false, say at which input.
  Laid BY PROGRAM, IN A SANDBOX (cutbox-rows.mjs): the forced cells as the released guide's own fill.sh prints them over the translation cf5564ef17c77bde… (all of the seat's roots in one cut). By AI agents, Wed Nov 11 2026. No macro, syntax, notation, axiom, sorry.
-/
import Derived.Test.YtgbdojenenfgfaaChecked
import GoSem.Claim
import GoSem.ClaimJoined
import GoSem.ClaimMapViews
import Derived.JoinedTies
import Derived.KernelRfl
namespace Go.Proofs.Ytgbdojenenfgfaa
/- THE CELL 'sum', in the pinned program and in every row, IS THE sha256 OF THE DUMP (.gsa) THAT YtgbdojenenfgfaaProg.lean LOADS. Nothing in Lean hashes anything: it is a label: what it is worth is what the hold of that sum in a sandbox is worth. -/
noncomputable def Try.pinned : Pinned := { name := "ytgbdojenenfgfaa", sum := "cf5564ef17c77bde898f144c95d6eb4e08a07c53470b156100468761f26a1a46", checked := Try.checked }
namespace Rows
def none {H : Type} : Left H := { results := [], args := [] }

/-- 'laws.FnNorm': WHATEVER THE INPUT: true; the input reads as it did. -/
def fnNormSpec : ChangeSpec := { name := "fnNorm", fn := fun _ => fun
  | [d] => { results := [.lit (.bool true)], args := [d] }
  | _ => none }
def fnNormRow : OpenClaim := { program := "ytgbdojenenfgfaa", sum := "cf5564ef17c77bde898f144c95d6eb4e08a07c53470b156100468761f26a1a46", func := "loop.example/g00744/laws.FnNorm", spec := "fnNorm", apart := false }
def FnNormSaid : Prop := fnNormRow.holds Try.pinned (OpenSpec.ofChange fnNormSpec)

/-- ITS FALSE NEIGHBOUR: 'it returns false'. Refute it at one input. -/
def fnNormWrong : ChangeSpec := { name := "fnNorm", fn := fun _ => fun
  | [d] => { results := [.lit (.bool false)], args := [d] }
  | _ => none }
def FnNormWrongFalsely : Prop := fnNormRow.holds Try.pinned (OpenSpec.ofChange fnNormWrong)

/-- 'laws.FnNormLe': WHATEVER THE INPUT: true; the input reads as it did. -/
def fnNormLeSpec : ChangeSpec := { name := "fnNormLe", fn := fun _ => fun
  | [d] => { results := [.lit (.bool true)], args := [d] }
  | _ => none }
def fnNormLeRow : OpenClaim := { program := "ytgbdojenenfgfaa", sum := "cf5564ef17c77bde898f144c95d6eb4e08a07c53470b156100468761f26a1a46", func := "loop.example/g00744/laws.FnNormLe", spec := "fnNormLe", apart := false }
def FnNormLeSaid : Prop := fnNormLeRow.holds Try.pinned (OpenSpec.ofChange fnNormLeSpec)

/-- ITS FALSE NEIGHBOUR: 'it returns false'. Refute it at one input. -/
def fnNormLeWrong : ChangeSpec := { name := "fnNormLe", fn := fun _ => fun
  | [d] => { results := [.lit (.bool false)], args := [d] }
  | _ => none }
def FnNormLeWrongFalsely : Prop := fnNormLeRow.holds Try.pinned (OpenSpec.ofChange fnNormLeWrong)

/-- 'laws.FnExactNormOk': WHATEVER THE INPUT: true; the input reads as it did. -/
def fnExactNormOkSpec : ChangeSpec := { name := "fnExactNormOk", fn := fun _ => fun
  | [d] => { results := [.lit (.bool true)], args := [d] }
  | _ => none }
def fnExactNormOkRow : OpenClaim := { program := "ytgbdojenenfgfaa", sum := "cf5564ef17c77bde898f144c95d6eb4e08a07c53470b156100468761f26a1a46", func := "loop.example/g00744/laws.FnExactNormOk", spec := "fnExactNormOk", apart := false }
def FnExactNormOkSaid : Prop := fnExactNormOkRow.holds Try.pinned (OpenSpec.ofChange fnExactNormOkSpec)

/-- ITS FALSE NEIGHBOUR: 'it returns false'. Refute it at one input. -/
def fnExactNormOkWrong : ChangeSpec := { name := "fnExactNormOk", fn := fun _ => fun
  | [d] => { results := [.lit (.bool false)], args := [d] }
  | _ => none }
def FnExactNormOkWrongFalsely : Prop := fnExactNormOkRow.holds Try.pinned (OpenSpec.ofChange fnExactNormOkWrong)

/-- 'laws.FnExactNormOf': WHATEVER THE INPUT: true; the input reads as it did. -/
def fnExactNormOfSpec : ChangeSpec := { name := "fnExactNormOf", fn := fun _ => fun
  | [d] => { results := [.lit (.bool true)], args := [d] }
  | _ => none }
def fnExactNormOfRow : OpenClaim := { program := "ytgbdojenenfgfaa", sum := "cf5564ef17c77bde898f144c95d6eb4e08a07c53470b156100468761f26a1a46", func := "loop.example/g00744/laws.FnExactNormOf", spec := "fnExactNormOf", apart := false }
def FnExactNormOfSaid : Prop := fnExactNormOfRow.holds Try.pinned (OpenSpec.ofChange fnExactNormOfSpec)

/-- ITS FALSE NEIGHBOUR: 'it returns false'. Refute it at one input. -/
def fnExactNormOfWrong : ChangeSpec := { name := "fnExactNormOf", fn := fun _ => fun
  | [d] => { results := [.lit (.bool false)], args := [d] }
  | _ => none }
def FnExactNormOfWrongFalsely : Prop := fnExactNormOfRow.holds Try.pinned (OpenSpec.ofChange fnExactNormOfWrong)

/-- 'laws.FnExactNormMax': WHATEVER THE INPUT: true; the input reads as it did. -/
def fnExactNormMaxSpec : ChangeSpec := { name := "fnExactNormMax", fn := fun _ => fun
  | [d1, d2] => { results := [.lit (.bool true)], args := [d1, d2] }
  | _ => none }
def fnExactNormMaxRow : OpenClaim := { program := "ytgbdojenenfgfaa", sum := "cf5564ef17c77bde898f144c95d6eb4e08a07c53470b156100468761f26a1a46", func := "loop.example/g00744/laws.FnExactNormMax", spec := "fnExactNormMax", apart := false }
def FnExactNormMaxSaid : Prop := fnExactNormMaxRow.holds Try.pinned (OpenSpec.ofChange fnExactNormMaxSpec)

/-- ITS FALSE NEIGHBOUR: 'it returns false'. Refute it at one input. -/
def fnExactNormMaxWrong : ChangeSpec := { name := "fnExactNormMax", fn := fun _ => fun
  | [d1, d2] => { results := [.lit (.bool false)], args := [d1, d2] }
  | _ => none }
def FnExactNormMaxWrongFalsely : Prop := fnExactNormMaxRow.holds Try.pinned (OpenSpec.ofChange fnExactNormMaxWrong)

/-- 'laws.FnExactNormUp': WHATEVER THE INPUT: true; the input reads as it did. -/
def fnExactNormUpSpec : ChangeSpec := { name := "fnExactNormUp", fn := fun _ => fun
  | [d1, d2] => { results := [.lit (.bool true)], args := [d1, d2] }
  | _ => none }
def fnExactNormUpRow : OpenClaim := { program := "ytgbdojenenfgfaa", sum := "cf5564ef17c77bde898f144c95d6eb4e08a07c53470b156100468761f26a1a46", func := "loop.example/g00744/laws.FnExactNormUp", spec := "fnExactNormUp", apart := false }
def FnExactNormUpSaid : Prop := fnExactNormUpRow.holds Try.pinned (OpenSpec.ofChange fnExactNormUpSpec)

/-- ITS FALSE NEIGHBOUR: 'it returns false'. Refute it at one input. -/
def fnExactNormUpWrong : ChangeSpec := { name := "fnExactNormUp", fn := fun _ => fun
  | [d1, d2] => { results := [.lit (.bool false)], args := [d1, d2] }
  | _ => none }
def FnExactNormUpWrongFalsely : Prop := fnExactNormUpRow.holds Try.pinned (OpenSpec.ofChange fnExactNormUpWrong)

/-- 'laws.FnExactNormEval': WHATEVER THE INPUT: true; the input reads as it did. -/
def fnExactNormEvalSpec : ChangeSpec := { name := "fnExactNormEval", fn := fun _ => fun
  | [d1, d2] => { results := [.lit (.bool true)], args := [d1, d2] }
  | _ => none }
def fnExactNormEvalRow : OpenClaim := { program := "ytgbdojenenfgfaa", sum := "cf5564ef17c77bde898f144c95d6eb4e08a07c53470b156100468761f26a1a46", func := "loop.example/g00744/laws.FnExactNormEval", spec := "fnExactNormEval", apart := false }
def FnExactNormEvalSaid : Prop := fnExactNormEvalRow.holds Try.pinned (OpenSpec.ofChange fnExactNormEvalSpec)

/-- ITS FALSE NEIGHBOUR: 'it returns false'. Refute it at one input. -/
def fnExactNormEvalWrong : ChangeSpec := { name := "fnExactNormEval", fn := fun _ => fun
  | [d1, d2] => { results := [.lit (.bool false)], args := [d1, d2] }
  | _ => none }
def FnExactNormEvalWrongFalsely : Prop := fnExactNormEvalRow.holds Try.pinned (OpenSpec.ofChange fnExactNormEvalWrong)

/-- 'laws.FnExactNormLe': WHATEVER THE INPUT: true; the input reads as it did. -/
def fnExactNormLeSpec : ChangeSpec := { name := "fnExactNormLe", fn := fun _ => fun
  | [d1, d2] => { results := [.lit (.bool true)], args := [d1, d2] }
  | _ => none }
def fnExactNormLeRow : OpenClaim := { program := "ytgbdojenenfgfaa", sum := "cf5564ef17c77bde898f144c95d6eb4e08a07c53470b156100468761f26a1a46", func := "loop.example/g00744/laws.FnExactNormLe", spec := "fnExactNormLe", apart := false }
def FnExactNormLeSaid : Prop := fnExactNormLeRow.holds Try.pinned (OpenSpec.ofChange fnExactNormLeSpec)

/-- ITS FALSE NEIGHBOUR: 'it returns false'. Refute it at one input. -/
def fnExactNormLeWrong : ChangeSpec := { name := "fnExactNormLe", fn := fun _ => fun
  | [d1, d2] => { results := [.lit (.bool false)], args := [d1, d2] }
  | _ => none }
def FnExactNormLeWrongFalsely : Prop := fnExactNormLeRow.holds Try.pinned (OpenSpec.ofChange fnExactNormLeWrong)

/- THE SECOND FORM. 'bulk': how many values and letters a reading holds, each counted each time it is reached (what is shared counts as often as it is met; a slice's spare places count too). A statement '..UptoSaid' is the law's where the arguments, and the package variables that the reading takes, are together of bulk at most 1048576: NARROWER than '..Said'. Prove '..Said' where nothing that the law and all that it calls make is longer than what came in: it says more and counts as full. Else prove '..UptoSaid'. A law counts once. -/
mutual
def uptoBulk {H : Type} : DataW H → Nat
  | .lit (.string bytes) => bytes.length + 1
  | .lit _ => 1
  | .nil => 1
  | .ptr d => uptoBulk d + 1
  | .slice elems spare => uptoBulkAll elems + uptoBulkAll spare + 1
  | .agg parts => uptoBulkAll parts + 1
  | .iface _ d => uptoBulk d + 1
  | .map entries => uptoBulkEntries entries + 1
  | .held _ => 1
def uptoBulkAll {H : Type} : List (DataW H) → Nat
  | [] => 0
  | d :: r => uptoBulk d + uptoBulkAll r
def uptoBulkEntries {H : Type} : List (Lit × DataW H) → Nat
  | [] => 0
  | x :: r => uptoBulkEntry x + uptoBulkEntries r
def uptoBulkEntry {H : Type} : Lit × DataW H → Nat
  | (.string bytes, d) => bytes.length + uptoBulk d + 1
  | (_, d) => uptoBulk d + 1
 end
def uptoSmall : (H : Type) → List (DataW H) → Bool := fun _ ds => decide (uptoBulkAll ds ≤ 1048576)
def OpenSpec.upto (s : _root_.Go.ChangeSpec) : _root_.Go.OpenSpec := { _root_.Go.OpenSpec.ofChange s with cond := some uptoSmall }

/-- 'laws.FnNorm', WHERE WHAT IT READS IS OF BULK AT MOST 1048576: true; the input reads as it did. -/
def fnNormUptoRow : OpenClaim := { program := "ytgbdojenenfgfaa", sum := "cf5564ef17c77bde898f144c95d6eb4e08a07c53470b156100468761f26a1a46", func := "loop.example/g00744/laws.FnNorm", spec := "fnNorm", apart := false, narrowed := true }
def FnNormUptoSaid : Prop := fnNormUptoRow.holds Try.pinned (OpenSpec.upto fnNormSpec)

/-- 'laws.FnNormLe', WHERE WHAT IT READS IS OF BULK AT MOST 1048576: true; the input reads as it did. -/
def fnNormLeUptoRow : OpenClaim := { program := "ytgbdojenenfgfaa", sum := "cf5564ef17c77bde898f144c95d6eb4e08a07c53470b156100468761f26a1a46", func := "loop.example/g00744/laws.FnNormLe", spec := "fnNormLe", apart := false, narrowed := true }
def FnNormLeUptoSaid : Prop := fnNormLeUptoRow.holds Try.pinned (OpenSpec.upto fnNormLeSpec)

/-- 'laws.FnExactNormOk', WHERE WHAT IT READS IS OF BULK AT MOST 1048576: true; the input reads as it did. -/
def fnExactNormOkUptoRow : OpenClaim := { program := "ytgbdojenenfgfaa", sum := "cf5564ef17c77bde898f144c95d6eb4e08a07c53470b156100468761f26a1a46", func := "loop.example/g00744/laws.FnExactNormOk", spec := "fnExactNormOk", apart := false, narrowed := true }
def FnExactNormOkUptoSaid : Prop := fnExactNormOkUptoRow.holds Try.pinned (OpenSpec.upto fnExactNormOkSpec)

/-- 'laws.FnExactNormOf', WHERE WHAT IT READS IS OF BULK AT MOST 1048576: true; the input reads as it did. -/
def fnExactNormOfUptoRow : OpenClaim := { program := "ytgbdojenenfgfaa", sum := "cf5564ef17c77bde898f144c95d6eb4e08a07c53470b156100468761f26a1a46", func := "loop.example/g00744/laws.FnExactNormOf", spec := "fnExactNormOf", apart := false, narrowed := true }
def FnExactNormOfUptoSaid : Prop := fnExactNormOfUptoRow.holds Try.pinned (OpenSpec.upto fnExactNormOfSpec)

/-- 'laws.FnExactNormMax', WHERE WHAT IT READS IS OF BULK AT MOST 1048576: true; the input reads as it did. -/
def fnExactNormMaxUptoRow : OpenClaim := { program := "ytgbdojenenfgfaa", sum := "cf5564ef17c77bde898f144c95d6eb4e08a07c53470b156100468761f26a1a46", func := "loop.example/g00744/laws.FnExactNormMax", spec := "fnExactNormMax", apart := false, narrowed := true }
def FnExactNormMaxUptoSaid : Prop := fnExactNormMaxUptoRow.holds Try.pinned (OpenSpec.upto fnExactNormMaxSpec)

/-- 'laws.FnExactNormUp', WHERE WHAT IT READS IS OF BULK AT MOST 1048576: true; the input reads as it did. -/
def fnExactNormUpUptoRow : OpenClaim := { program := "ytgbdojenenfgfaa", sum := "cf5564ef17c77bde898f144c95d6eb4e08a07c53470b156100468761f26a1a46", func := "loop.example/g00744/laws.FnExactNormUp", spec := "fnExactNormUp", apart := false, narrowed := true }
def FnExactNormUpUptoSaid : Prop := fnExactNormUpUptoRow.holds Try.pinned (OpenSpec.upto fnExactNormUpSpec)

/-- 'laws.FnExactNormEval', WHERE WHAT IT READS IS OF BULK AT MOST 1048576: true; the input reads as it did. -/
def fnExactNormEvalUptoRow : OpenClaim := { program := "ytgbdojenenfgfaa", sum := "cf5564ef17c77bde898f144c95d6eb4e08a07c53470b156100468761f26a1a46", func := "loop.example/g00744/laws.FnExactNormEval", spec := "fnExactNormEval", apart := false, narrowed := true }
def FnExactNormEvalUptoSaid : Prop := fnExactNormEvalUptoRow.holds Try.pinned (OpenSpec.upto fnExactNormEvalSpec)

/-- 'laws.FnExactNormLe', WHERE WHAT IT READS IS OF BULK AT MOST 1048576: true; the input reads as it did. -/
def fnExactNormLeUptoRow : OpenClaim := { program := "ytgbdojenenfgfaa", sum := "cf5564ef17c77bde898f144c95d6eb4e08a07c53470b156100468761f26a1a46", func := "loop.example/g00744/laws.FnExactNormLe", spec := "fnExactNormLe", apart := false, narrowed := true }
def FnExactNormLeUptoSaid : Prop := fnExactNormLeUptoRow.holds Try.pinned (OpenSpec.upto fnExactNormLeSpec)

end Rows
end Go.Proofs.Ytgbdojenenfgfaa
