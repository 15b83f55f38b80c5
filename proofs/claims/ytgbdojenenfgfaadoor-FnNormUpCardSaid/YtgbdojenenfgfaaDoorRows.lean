/-
  NARROWER THAN 'FOR EVERY INPUT', by the rows' own cells (each row's printed sentence says how): FnEval: ifaces, laid · FnNormUp: ifaces, laid · FnExactNormLevel: ifaces, laid · FnExactNormFree: ifaces, laid.
  DERIVED. THE GIVEN ROWS OF THIS SEAT. 4 by the template 'for every input the law returns true; each argument reads behind the call as it read before'; 0 by the template 'total and deterministic' (their statements: YtgbdojenenfgfaaDoorTotals.lean).
  GIVEN WITH THE SEED: the statements are not yours to turn. If you find one false, say at which input.
  Laid BY PROGRAM, IN A SANDBOX (cutbox-rows.mjs): the forced cells as the released guide's own fill.sh prints them over the translation b07f143a7d7449ed… (all of the seat's roots in one cut). By AI agents, Wed Nov 11 2026. No macro, syntax, notation, axiom, sorry.
-/
import Derived.Test.YtgbdojenenfgfaaDoorChecked
import GoSem.Claim
import GoSem.ClaimJoined
import GoSem.ClaimMapViews
import Derived.JoinedTies
import Derived.KernelRfl
namespace Go.Proofs.YtgbdojenenfgfaaDoor
/- THE CELL 'sum', in the pinned program and in every row, IS THE sha256 OF THE DUMP (.gsa) THAT YtgbdojenenfgfaaDoorProg.lean LOADS. Nothing in Lean hashes anything: it is a label: what it is worth is what the hold of that sum in a sandbox is worth. -/
noncomputable def Tryd.pinned : Pinned := { name := "ytgbdojenenfgfaadoor", sum := "b07f143a7d7449edc863ec4d7cb7b0f338099cb46ae48e42593d8541034b0da6", checked := Tryd.checked }
namespace Rows
def none {H : Type} : Left H := { results := [], args := [] }

/- WHAT THE LISTED PACKAGE-LEVEL VARIABLES READ AS WHEN THE CALL BEGINS. Each datum BY PROGRAM (the guide's laid-datum.mjs) off the statement by which the dump's own 'gosem.cut.vars' lays the variable. In a bare row this is a premise. The card (YtgbdojenenfgfaaDoorCards.lean) ties it to the program's text. -/
def laid_loop_example_g00744_impl_errLevel {H : Type} : DataW H := .iface "*errors.errorString" (.ptr (.agg [.lit (.string [110, 111, 116, 32, 97, 32, 118, 97, 108, 105, 100, 32, 108, 101, 118, 101, 108])]))

/-- 'laws.FnEval': WHATEVER THE INPUT: true; the input reads as it did. -/
def fnEvalSpec : ChangeSpec := { name := "fnEval", vars := ["loop.example/g00744/impl.errLevel"], fn := fun _ => fun
  | [d, g1] => { results := [.lit (.bool true)], args := [d], vars := [g1] }
  | _ => none }
def fnEvalRow : OpenClaim := { program := "ytgbdojenenfgfaadoor", sum := "b07f143a7d7449edc863ec4d7cb7b0f338099cb46ae48e42593d8541034b0da6", func := "loop.example/g00744/laws.FnEval", spec := "fnEval", unfollowed := true, recurses := true, named := ["loop.example/g00744/impl.errLevel"], ifaces := true, apart := false, laid := [("loop.example/g00744/impl.errLevel", laid_loop_example_g00744_impl_errLevel)] }
def FnEvalSaid : Prop := fnEvalRow.holds Tryd.pinned (OpenSpec.ofChange fnEvalSpec)

/-- ITS FALSE NEIGHBOUR: 'it returns false'. Refute it at one input. -/
def fnEvalWrong : ChangeSpec := { name := "fnEval", vars := ["loop.example/g00744/impl.errLevel"], fn := fun _ => fun
  | [d, g1] => { results := [.lit (.bool false)], args := [d], vars := [g1] }
  | _ => none }
def FnEvalWrongFalsely : Prop := fnEvalRow.holds Tryd.pinned (OpenSpec.ofChange fnEvalWrong)

/-- 'laws.FnNormUp': WHATEVER THE INPUT: true; the input reads as it did. -/
def fnNormUpSpec : ChangeSpec := { name := "fnNormUp", vars := ["loop.example/g00744/impl.errLevel"], fn := fun _ => fun
  | [d, g1] => { results := [.lit (.bool true)], args := [d], vars := [g1] }
  | _ => none }
def fnNormUpRow : OpenClaim := { program := "ytgbdojenenfgfaadoor", sum := "b07f143a7d7449edc863ec4d7cb7b0f338099cb46ae48e42593d8541034b0da6", func := "loop.example/g00744/laws.FnNormUp", spec := "fnNormUp", unfollowed := true, recurses := true, named := ["loop.example/g00744/impl.errLevel"], ifaces := true, apart := false, laid := [("loop.example/g00744/impl.errLevel", laid_loop_example_g00744_impl_errLevel)] }
def FnNormUpSaid : Prop := fnNormUpRow.holds Tryd.pinned (OpenSpec.ofChange fnNormUpSpec)

/-- ITS FALSE NEIGHBOUR: 'it returns false'. Refute it at one input. -/
def fnNormUpWrong : ChangeSpec := { name := "fnNormUp", vars := ["loop.example/g00744/impl.errLevel"], fn := fun _ => fun
  | [d, g1] => { results := [.lit (.bool false)], args := [d], vars := [g1] }
  | _ => none }
def FnNormUpWrongFalsely : Prop := fnNormUpRow.holds Tryd.pinned (OpenSpec.ofChange fnNormUpWrong)

/-- 'laws.FnExactNormLevel': WHATEVER THE INPUT: true; the input reads as it did. -/
def fnExactNormLevelSpec : ChangeSpec := { name := "fnExactNormLevel", vars := ["loop.example/g00744/impl.errLevel"], fn := fun _ => fun
  | [d, g1] => { results := [.lit (.bool true)], args := [d], vars := [g1] }
  | _ => none }
def fnExactNormLevelRow : OpenClaim := { program := "ytgbdojenenfgfaadoor", sum := "b07f143a7d7449edc863ec4d7cb7b0f338099cb46ae48e42593d8541034b0da6", func := "loop.example/g00744/laws.FnExactNormLevel", spec := "fnExactNormLevel", unfollowed := true, recurses := true, named := ["loop.example/g00744/impl.errLevel"], ifaces := true, apart := false, laid := [("loop.example/g00744/impl.errLevel", laid_loop_example_g00744_impl_errLevel)] }
def FnExactNormLevelSaid : Prop := fnExactNormLevelRow.holds Tryd.pinned (OpenSpec.ofChange fnExactNormLevelSpec)

/-- ITS FALSE NEIGHBOUR: 'it returns false'. Refute it at one input. -/
def fnExactNormLevelWrong : ChangeSpec := { name := "fnExactNormLevel", vars := ["loop.example/g00744/impl.errLevel"], fn := fun _ => fun
  | [d, g1] => { results := [.lit (.bool false)], args := [d], vars := [g1] }
  | _ => none }
def FnExactNormLevelWrongFalsely : Prop := fnExactNormLevelRow.holds Tryd.pinned (OpenSpec.ofChange fnExactNormLevelWrong)

/-- 'laws.FnExactNormFree': WHATEVER THE INPUT: true; the input reads as it did. -/
def fnExactNormFreeSpec : ChangeSpec := { name := "fnExactNormFree", vars := ["loop.example/g00744/impl.errLevel"], fn := fun _ => fun
  | [d, g1] => { results := [.lit (.bool true)], args := [d], vars := [g1] }
  | _ => none }
def fnExactNormFreeRow : OpenClaim := { program := "ytgbdojenenfgfaadoor", sum := "b07f143a7d7449edc863ec4d7cb7b0f338099cb46ae48e42593d8541034b0da6", func := "loop.example/g00744/laws.FnExactNormFree", spec := "fnExactNormFree", unfollowed := true, recurses := true, named := ["loop.example/g00744/impl.errLevel"], ifaces := true, apart := false, laid := [("loop.example/g00744/impl.errLevel", laid_loop_example_g00744_impl_errLevel)] }
def FnExactNormFreeSaid : Prop := fnExactNormFreeRow.holds Tryd.pinned (OpenSpec.ofChange fnExactNormFreeSpec)

/-- ITS FALSE NEIGHBOUR: 'it returns false'. Refute it at one input. -/
def fnExactNormFreeWrong : ChangeSpec := { name := "fnExactNormFree", vars := ["loop.example/g00744/impl.errLevel"], fn := fun _ => fun
  | [d, g1] => { results := [.lit (.bool false)], args := [d], vars := [g1] }
  | _ => none }
def FnExactNormFreeWrongFalsely : Prop := fnExactNormFreeRow.holds Tryd.pinned (OpenSpec.ofChange fnExactNormFreeWrong)

/- THE SECOND FORM. 'bulk': how many values and letters a reading holds, each counted each time it is reached (what is shared counts as often as it is met; a slice's spare places count too). A statement '..UptoSaid' is the law's where the arguments, and the package variables that the reading takes, are together of bulk at most 1048576: NARROWER than '..Said'. Prove '..Said' where nothing that the law and all that it calls make is longer than what came in: it says more and counts as full. Else prove '..UptoSaid'. A law counts once. -/
mutual
def uptoBulk {H : Type} : DataW H → Nat
  | .lit (.string bytes) => bytes.length + 1
  | .lit _ => 1
  | .nil => 1
  | .ptr d => uptoBulk d + 1
  | .slice elems spare => uptoBulkAll elems + uptoBulkAll spare + 1
  | .agg parts => uptoBulkAll parts + 1
  | .iface _ d => uptoBulk d + 1
  | .map entries => uptoBulkEntries entries + 1
  | .held _ => 1
def uptoBulkAll {H : Type} : List (DataW H) → Nat
  | [] => 0
  | d :: r => uptoBulk d + uptoBulkAll r
def uptoBulkEntries {H : Type} : List (Lit × DataW H) → Nat
  | [] => 0
  | x :: r => uptoBulkEntry x + uptoBulkEntries r
def uptoBulkEntry {H : Type} : Lit × DataW H → Nat
  | (.string bytes, d) => bytes.length + uptoBulk d + 1
  | (_, d) => uptoBulk d + 1
 end
def uptoSmall : (H : Type) → List (DataW H) → Bool := fun _ ds => decide (uptoBulkAll ds ≤ 1048576)
def OpenSpec.upto (s : _root_.Go.ChangeSpec) : _root_.Go.OpenSpec := { _root_.Go.OpenSpec.ofChange s with cond := some uptoSmall }

/-- 'laws.FnEval', WHERE WHAT IT READS IS OF BULK AT MOST 1048576: true; the input reads as it did. -/
def fnEvalUptoRow : OpenClaim := { program := "ytgbdojenenfgfaadoor", sum := "b07f143a7d7449edc863ec4d7cb7b0f338099cb46ae48e42593d8541034b0da6", func := "loop.example/g00744/laws.FnEval", spec := "fnEval", unfollowed := true, recurses := true, named := ["loop.example/g00744/impl.errLevel"], ifaces := true, apart := false, laid := [("loop.example/g00744/impl.errLevel", laid_loop_example_g00744_impl_errLevel)], narrowed := true }
def FnEvalUptoSaid : Prop := fnEvalUptoRow.holds Tryd.pinned (OpenSpec.upto fnEvalSpec)

/-- 'laws.FnNormUp', WHERE WHAT IT READS IS OF BULK AT MOST 1048576: true; the input reads as it did. -/
def fnNormUpUptoRow : OpenClaim := { program := "ytgbdojenenfgfaadoor", sum := "b07f143a7d7449edc863ec4d7cb7b0f338099cb46ae48e42593d8541034b0da6", func := "loop.example/g00744/laws.FnNormUp", spec := "fnNormUp", unfollowed := true, recurses := true, named := ["loop.example/g00744/impl.errLevel"], ifaces := true, apart := false, laid := [("loop.example/g00744/impl.errLevel", laid_loop_example_g00744_impl_errLevel)], narrowed := true }
def FnNormUpUptoSaid : Prop := fnNormUpUptoRow.holds Tryd.pinned (OpenSpec.upto fnNormUpSpec)

/-- 'laws.FnExactNormLevel', WHERE WHAT IT READS IS OF BULK AT MOST 1048576: true; the input reads as it did. -/
def fnExactNormLevelUptoRow : OpenClaim := { program := "ytgbdojenenfgfaadoor", sum := "b07f143a7d7449edc863ec4d7cb7b0f338099cb46ae48e42593d8541034b0da6", func := "loop.example/g00744/laws.FnExactNormLevel", spec := "fnExactNormLevel", unfollowed := true, recurses := true, named := ["loop.example/g00744/impl.errLevel"], ifaces := true, apart := false, laid := [("loop.example/g00744/impl.errLevel", laid_loop_example_g00744_impl_errLevel)], narrowed := true }
def FnExactNormLevelUptoSaid : Prop := fnExactNormLevelUptoRow.holds Tryd.pinned (OpenSpec.upto fnExactNormLevelSpec)

/-- 'laws.FnExactNormFree', WHERE WHAT IT READS IS OF BULK AT MOST 1048576: true; the input reads as it did. -/
def fnExactNormFreeUptoRow : OpenClaim := { program := "ytgbdojenenfgfaadoor", sum := "b07f143a7d7449edc863ec4d7cb7b0f338099cb46ae48e42593d8541034b0da6", func := "loop.example/g00744/laws.FnExactNormFree", spec := "fnExactNormFree", unfollowed := true, recurses := true, named := ["loop.example/g00744/impl.errLevel"], ifaces := true, apart := false, laid := [("loop.example/g00744/impl.errLevel", laid_loop_example_g00744_impl_errLevel)], narrowed := true }
def FnExactNormFreeUptoSaid : Prop := fnExactNormFreeUptoRow.holds Tryd.pinned (OpenSpec.upto fnExactNormFreeSpec)

end Rows
end Go.Proofs.YtgbdojenenfgfaaDoor
