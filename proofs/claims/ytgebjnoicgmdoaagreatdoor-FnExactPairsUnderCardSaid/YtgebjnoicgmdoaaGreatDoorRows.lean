/-
  NARROWER THAN 'FOR EVERY INPUT', by the rows' own cells (each row's printed sentence says how): FnTop: ifaces, laid · FnMoreKnown: ifaces, laid · FnOneFor: ifaces, laid · FnWitnessLess: ifaces, laid · FnExactWitness: ifaces, laid · FnExactPairsUnder: ifaces, laid.
  DERIVED. THE GIVEN ROWS OF THIS SEAT. 6 by the template 'for every input the law returns true; each argument reads behind the call as it read before'; 0 by the template 'total and deterministic' (their statements: YtgebjnoicgmdoaaGreatDoorTotals.lean).
  GIVEN WITH THE SEED: the statements are not yours to turn. If you find one false, say at which input.
  Laid BY PROGRAM, IN A SANDBOX (cutbox-rows.mjs): the forced cells as the released guide's own fill.sh prints them over the translation 1480d0d6e41c05d2… (all of the seat's roots in one cut). By AI agents, Wed Nov 11 2026. No macro, syntax, notation, axiom, sorry.
-/
import Derived.Test.YtgebjnoicgmdoaaGreatDoorChecked
import GoSem.Claim
import GoSem.ClaimJoined
import GoSem.ClaimMapViews
import Derived.JoinedTies
import Derived.KernelRfl
namespace Go.Proofs.YtgebjnoicgmdoaaGreatDoor
/- THE CELL 'sum', in the pinned program and in every row, IS THE sha256 OF THE DUMP (.gsa) THAT YtgebjnoicgmdoaaGreatDoorProg.lean LOADS. Nothing in Lean hashes anything: it is a label: what it is worth is what the hold of that sum in a sandbox is worth. -/
noncomputable def Tryz.pinned : Pinned := { name := "ytgebjnoicgmdoaagreatdoor", sum := "1480d0d6e41c05d24e6c4f741110a0ac52d7f29e763c4013f39d3e329f64d800", checked := Tryz.checked }
namespace Rows
def none {H : Type} : Left H := { results := [], args := [] }

/- WHAT THE LISTED PACKAGE-LEVEL VARIABLES READ AS WHEN THE CALL BEGINS. Each datum BY PROGRAM (the guide's laid-datum.mjs) off the statement by which the dump's own 'gosem.cut.vars' lays the variable. In a bare row this is a premise. The card (YtgebjnoicgmdoaaGreatDoorCards.lean) ties it to the program's text. -/
def laid_errors_errorType {H : Type} : DataW H := .iface "internal/reflectlite.rtype" (.agg [.ptr (.lit (.string [101, 114, 114, 111, 114]))])
def laid_loop_example_g00744_impl_errLevel {H : Type} : DataW H := .iface "*errors.errorString" (.ptr (.agg [.lit (.string [110, 111, 116, 32, 97, 32, 118, 97, 108, 105, 100, 32, 108, 101, 118, 101, 108])]))
def laid_loop_example_g00744_impl_errCons {H : Type} : DataW H := .iface "*errors.errorString" (.ptr (.agg [.lit (.string [110, 111, 116, 32, 97, 32, 118, 97, 108, 105, 100, 32, 108, 105, 115, 116, 32, 111, 102, 32, 99, 111, 110, 115, 116, 114, 97, 105, 110, 116, 115])]))

/-- 'laws.FnTop': WHATEVER THE INPUT: true; the input reads as it did. -/
def fnTopSpec : ChangeSpec := { name := "fnTop", vars := ["loop.example/g00744/impl.errCons", "loop.example/g00744/impl.errLevel"], fn := fun _ => fun
  | [d, g1, g2] => { results := [.lit (.bool true)], args := [d], vars := [g1, g2] }
  | _ => none }
def fnTopRow : OpenClaim := { program := "ytgebjnoicgmdoaagreatdoor", sum := "1480d0d6e41c05d24e6c4f741110a0ac52d7f29e763c4013f39d3e329f64d800", func := "loop.example/g00744/laws.FnTop", spec := "fnTop", inPlace := ["sync/atomic.AddInt64", "internal/reflectlite.ValueOf", "(internal/reflectlite.Value).Type", "(internal/reflectlite.Value).IsNil", "internal/reflectlite.TypeOf", "(internal/reflectlite.Value).Elem", "(internal/reflectlite.Value).Set"], unfollowed := true, recurses := true, named := ["loop.example/g00744/impl.errCons", "loop.example/g00744/impl.errLevel", "errors.errorType"], ifaces := true, apart := false, laid := [("errors.errorType", laid_errors_errorType), ("loop.example/g00744/impl.errLevel", laid_loop_example_g00744_impl_errLevel), ("loop.example/g00744/impl.errCons", laid_loop_example_g00744_impl_errCons)] }
def FnTopSaid : Prop := fnTopRow.holds Tryz.pinned (OpenSpec.ofChange fnTopSpec)

/-- ITS FALSE NEIGHBOUR: 'it returns false'. Refute it at one input. -/
def fnTopWrong : ChangeSpec := { name := "fnTop", vars := ["loop.example/g00744/impl.errCons", "loop.example/g00744/impl.errLevel"], fn := fun _ => fun
  | [d, g1, g2] => { results := [.lit (.bool false)], args := [d], vars := [g1, g2] }
  | _ => none }
def FnTopWrongFalsely : Prop := fnTopRow.holds Tryz.pinned (OpenSpec.ofChange fnTopWrong)

/-- 'laws.FnMoreKnown': WHATEVER THE INPUT: true; the input reads as it did. -/
def fnMoreKnownSpec : ChangeSpec := { name := "fnMoreKnown", vars := ["loop.example/g00744/impl.errCons", "loop.example/g00744/impl.errLevel"], fn := fun _ => fun
  | [d, g1, g2] => { results := [.lit (.bool true)], args := [d], vars := [g1, g2] }
  | _ => none }
def fnMoreKnownRow : OpenClaim := { program := "ytgebjnoicgmdoaagreatdoor", sum := "1480d0d6e41c05d24e6c4f741110a0ac52d7f29e763c4013f39d3e329f64d800", func := "loop.example/g00744/laws.FnMoreKnown", spec := "fnMoreKnown", inPlace := ["sync/atomic.AddInt64"], unfollowed := true, recurses := true, named := ["loop.example/g00744/impl.errCons", "loop.example/g00744/impl.errLevel"], ifaces := true, apart := false, laid := [("loop.example/g00744/impl.errLevel", laid_loop_example_g00744_impl_errLevel), ("loop.example/g00744/impl.errCons", laid_loop_example_g00744_impl_errCons)] }
def FnMoreKnownSaid : Prop := fnMoreKnownRow.holds Tryz.pinned (OpenSpec.ofChange fnMoreKnownSpec)

/-- ITS FALSE NEIGHBOUR: 'it returns false'. Refute it at one input. -/
def fnMoreKnownWrong : ChangeSpec := { name := "fnMoreKnown", vars := ["loop.example/g00744/impl.errCons", "loop.example/g00744/impl.errLevel"], fn := fun _ => fun
  | [d, g1, g2] => { results := [.lit (.bool false)], args := [d], vars := [g1, g2] }
  | _ => none }
def FnMoreKnownWrongFalsely : Prop := fnMoreKnownRow.holds Tryz.pinned (OpenSpec.ofChange fnMoreKnownWrong)

/-- 'laws.FnOneFor': WHATEVER THE INPUT: true; the input reads as it did. -/
def fnOneForSpec : ChangeSpec := { name := "fnOneFor", vars := ["loop.example/g00744/impl.errCons", "loop.example/g00744/impl.errLevel"], fn := fun _ => fun
  | [d, g1, g2] => { results := [.lit (.bool true)], args := [d], vars := [g1, g2] }
  | _ => none }
def fnOneForRow : OpenClaim := { program := "ytgebjnoicgmdoaagreatdoor", sum := "1480d0d6e41c05d24e6c4f741110a0ac52d7f29e763c4013f39d3e329f64d800", func := "loop.example/g00744/laws.FnOneFor", spec := "fnOneFor", inPlace := ["sync/atomic.AddInt64"], unfollowed := true, recurses := true, named := ["loop.example/g00744/impl.errCons", "loop.example/g00744/impl.errLevel"], ifaces := true, apart := false, laid := [("loop.example/g00744/impl.errLevel", laid_loop_example_g00744_impl_errLevel), ("loop.example/g00744/impl.errCons", laid_loop_example_g00744_impl_errCons)] }
def FnOneForSaid : Prop := fnOneForRow.holds Tryz.pinned (OpenSpec.ofChange fnOneForSpec)

/-- ITS FALSE NEIGHBOUR: 'it returns false'. Refute it at one input. -/
def fnOneForWrong : ChangeSpec := { name := "fnOneFor", vars := ["loop.example/g00744/impl.errCons", "loop.example/g00744/impl.errLevel"], fn := fun _ => fun
  | [d, g1, g2] => { results := [.lit (.bool false)], args := [d], vars := [g1, g2] }
  | _ => none }
def FnOneForWrongFalsely : Prop := fnOneForRow.holds Tryz.pinned (OpenSpec.ofChange fnOneForWrong)

/-- 'laws.FnWitnessLess': WHATEVER THE INPUT: true; the input reads as it did. -/
def fnWitnessLessSpec : ChangeSpec := { name := "fnWitnessLess", vars := ["loop.example/g00744/impl.errCons", "loop.example/g00744/impl.errLevel"], fn := fun _ => fun
  | [d, g1, g2] => { results := [.lit (.bool true)], args := [d], vars := [g1, g2] }
  | _ => none }
def fnWitnessLessRow : OpenClaim := { program := "ytgebjnoicgmdoaagreatdoor", sum := "1480d0d6e41c05d24e6c4f741110a0ac52d7f29e763c4013f39d3e329f64d800", func := "loop.example/g00744/laws.FnWitnessLess", spec := "fnWitnessLess", inPlace := ["sync/atomic.AddInt64", "internal/reflectlite.ValueOf", "(internal/reflectlite.Value).Type", "(internal/reflectlite.Value).IsNil", "internal/reflectlite.TypeOf", "(internal/reflectlite.Value).Elem", "(internal/reflectlite.Value).Set"], unfollowed := true, recurses := true, named := ["loop.example/g00744/impl.errCons", "loop.example/g00744/impl.errLevel", "errors.errorType"], ifaces := true, apart := false, laid := [("errors.errorType", laid_errors_errorType), ("loop.example/g00744/impl.errLevel", laid_loop_example_g00744_impl_errLevel), ("loop.example/g00744/impl.errCons", laid_loop_example_g00744_impl_errCons)] }
def FnWitnessLessSaid : Prop := fnWitnessLessRow.holds Tryz.pinned (OpenSpec.ofChange fnWitnessLessSpec)

/-- ITS FALSE NEIGHBOUR: 'it returns false'. Refute it at one input. -/
def fnWitnessLessWrong : ChangeSpec := { name := "fnWitnessLess", vars := ["loop.example/g00744/impl.errCons", "loop.example/g00744/impl.errLevel"], fn := fun _ => fun
  | [d, g1, g2] => { results := [.lit (.bool false)], args := [d], vars := [g1, g2] }
  | _ => none }
def FnWitnessLessWrongFalsely : Prop := fnWitnessLessRow.holds Tryz.pinned (OpenSpec.ofChange fnWitnessLessWrong)

/-- 'laws.FnExactWitness': WHATEVER THE INPUT: true; the input reads as it did. -/
def fnExactWitnessSpec : ChangeSpec := { name := "fnExactWitness", vars := ["loop.example/g00744/impl.errCons", "loop.example/g00744/impl.errLevel"], fn := fun _ => fun
  | [d1, d2, d3, g1, g2] => { results := [.lit (.bool true)], args := [d1, d2, d3], vars := [g1, g2] }
  | _ => none }
def fnExactWitnessRow : OpenClaim := { program := "ytgebjnoicgmdoaagreatdoor", sum := "1480d0d6e41c05d24e6c4f741110a0ac52d7f29e763c4013f39d3e329f64d800", func := "loop.example/g00744/laws.FnExactWitness", spec := "fnExactWitness", inPlace := ["sync/atomic.AddInt64", "internal/reflectlite.ValueOf", "(internal/reflectlite.Value).Type", "(internal/reflectlite.Value).IsNil", "internal/reflectlite.TypeOf", "(internal/reflectlite.Value).Elem", "(internal/reflectlite.Value).Set"], unfollowed := true, recurses := true, named := ["loop.example/g00744/impl.errCons", "loop.example/g00744/impl.errLevel", "errors.errorType"], ifaces := true, apart := false, laid := [("errors.errorType", laid_errors_errorType), ("loop.example/g00744/impl.errLevel", laid_loop_example_g00744_impl_errLevel), ("loop.example/g00744/impl.errCons", laid_loop_example_g00744_impl_errCons)] }
def FnExactWitnessSaid : Prop := fnExactWitnessRow.holds Tryz.pinned (OpenSpec.ofChange fnExactWitnessSpec)

/-- ITS FALSE NEIGHBOUR: 'it returns false'. Refute it at one input. -/
def fnExactWitnessWrong : ChangeSpec := { name := "fnExactWitness", vars := ["loop.example/g00744/impl.errCons", "loop.example/g00744/impl.errLevel"], fn := fun _ => fun
  | [d1, d2, d3, g1, g2] => { results := [.lit (.bool false)], args := [d1, d2, d3], vars := [g1, g2] }
  | _ => none }
def FnExactWitnessWrongFalsely : Prop := fnExactWitnessRow.holds Tryz.pinned (OpenSpec.ofChange fnExactWitnessWrong)

/-- 'laws.FnExactPairsUnder': WHATEVER THE INPUT: true; the input reads as it did. -/
def fnExactPairsUnderSpec : ChangeSpec := { name := "fnExactPairsUnder", vars := ["loop.example/g00744/impl.errCons", "loop.example/g00744/impl.errLevel"], fn := fun _ => fun
  | [d1, d2, g1, g2] => { results := [.lit (.bool true)], args := [d1, d2], vars := [g1, g2] }
  | _ => none }
def fnExactPairsUnderRow : OpenClaim := { program := "ytgebjnoicgmdoaagreatdoor", sum := "1480d0d6e41c05d24e6c4f741110a0ac52d7f29e763c4013f39d3e329f64d800", func := "loop.example/g00744/laws.FnExactPairsUnder", spec := "fnExactPairsUnder", inPlace := ["sync/atomic.AddInt64"], unfollowed := true, recurses := true, named := ["loop.example/g00744/impl.errCons", "loop.example/g00744/impl.errLevel"], ifaces := true, apart := false, laid := [("loop.example/g00744/impl.errLevel", laid_loop_example_g00744_impl_errLevel), ("loop.example/g00744/impl.errCons", laid_loop_example_g00744_impl_errCons)] }
def FnExactPairsUnderSaid : Prop := fnExactPairsUnderRow.holds Tryz.pinned (OpenSpec.ofChange fnExactPairsUnderSpec)

/-- ITS FALSE NEIGHBOUR: 'it returns false'. Refute it at one input. -/
def fnExactPairsUnderWrong : ChangeSpec := { name := "fnExactPairsUnder", vars := ["loop.example/g00744/impl.errCons", "loop.example/g00744/impl.errLevel"], fn := fun _ => fun
  | [d1, d2, g1, g2] => { results := [.lit (.bool false)], args := [d1, d2], vars := [g1, g2] }
  | _ => none }
def FnExactPairsUnderWrongFalsely : Prop := fnExactPairsUnderRow.holds Tryz.pinned (OpenSpec.ofChange fnExactPairsUnderWrong)

/- THE SECOND FORM. 'bulk': how many values and letters a reading holds, each counted each time it is reached (what is shared counts as often as it is met; a slice's spare places count too). A statement '..UptoSaid' is the law's where the arguments, and the package variables that the reading takes, are together of bulk at most 1048576: NARROWER than '..Said'. Prove '..Said' where nothing that the law and all that it calls make is longer than what came in: it says more and counts as full. Else prove '..UptoSaid'. A law counts once. -/
mutual
def uptoBulk {H : Type} : DataW H → Nat
  | .lit (.string bytes) => bytes.length + 1
  | .lit _ => 1
  | .nil => 1
  | .ptr d => uptoBulk d + 1
  | .slice elems spare => uptoBulkAll elems + uptoBulkAll spare + 1
  | .agg parts => uptoBulkAll parts + 1
  | .iface _ d => uptoBulk d + 1
  | .map entries => uptoBulkEntries entries + 1
  | .held _ => 1
def uptoBulkAll {H : Type} : List (DataW H) → Nat
  | [] => 0
  | d :: r => uptoBulk d + uptoBulkAll r
def uptoBulkEntries {H : Type} : List (Lit × DataW H) → Nat
  | [] => 0
  | x :: r => uptoBulkEntry x + uptoBulkEntries r
def uptoBulkEntry {H : Type} : Lit × DataW H → Nat
  | (.string bytes, d) => bytes.length + uptoBulk d + 1
  | (_, d) => uptoBulk d + 1
 end
def uptoSmall : (H : Type) → List (DataW H) → Bool := fun _ ds => decide (uptoBulkAll ds ≤ 1048576)
def OpenSpec.upto (s : _root_.Go.ChangeSpec) : _root_.Go.OpenSpec := { _root_.Go.OpenSpec.ofChange s with cond := some uptoSmall }

/-- 'laws.FnTop', WHERE WHAT IT READS IS OF BULK AT MOST 1048576: true; the input reads as it did. -/
def fnTopUptoRow : OpenClaim := { program := "ytgebjnoicgmdoaagreatdoor", sum := "1480d0d6e41c05d24e6c4f741110a0ac52d7f29e763c4013f39d3e329f64d800", func := "loop.example/g00744/laws.FnTop", spec := "fnTop", inPlace := ["sync/atomic.AddInt64", "internal/reflectlite.ValueOf", "(internal/reflectlite.Value).Type", "(internal/reflectlite.Value).IsNil", "internal/reflectlite.TypeOf", "(internal/reflectlite.Value).Elem", "(internal/reflectlite.Value).Set"], unfollowed := true, recurses := true, named := ["loop.example/g00744/impl.errCons", "loop.example/g00744/impl.errLevel", "errors.errorType"], ifaces := true, apart := false, laid := [("errors.errorType", laid_errors_errorType), ("loop.example/g00744/impl.errLevel", laid_loop_example_g00744_impl_errLevel), ("loop.example/g00744/impl.errCons", laid_loop_example_g00744_impl_errCons)], narrowed := true }
def FnTopUptoSaid : Prop := fnTopUptoRow.holds Tryz.pinned (OpenSpec.upto fnTopSpec)

/-- 'laws.FnMoreKnown', WHERE WHAT IT READS IS OF BULK AT MOST 1048576: true; the input reads as it did. -/
def fnMoreKnownUptoRow : OpenClaim := { program := "ytgebjnoicgmdoaagreatdoor", sum := "1480d0d6e41c05d24e6c4f741110a0ac52d7f29e763c4013f39d3e329f64d800", func := "loop.example/g00744/laws.FnMoreKnown", spec := "fnMoreKnown", inPlace := ["sync/atomic.AddInt64"], unfollowed := true, recurses := true, named := ["loop.example/g00744/impl.errCons", "loop.example/g00744/impl.errLevel"], ifaces := true, apart := false, laid := [("loop.example/g00744/impl.errLevel", laid_loop_example_g00744_impl_errLevel), ("loop.example/g00744/impl.errCons", laid_loop_example_g00744_impl_errCons)], narrowed := true }
def FnMoreKnownUptoSaid : Prop := fnMoreKnownUptoRow.holds Tryz.pinned (OpenSpec.upto fnMoreKnownSpec)

/-- 'laws.FnOneFor', WHERE WHAT IT READS IS OF BULK AT MOST 1048576: true; the input reads as it did. -/
def fnOneForUptoRow : OpenClaim := { program := "ytgebjnoicgmdoaagreatdoor", sum := "1480d0d6e41c05d24e6c4f741110a0ac52d7f29e763c4013f39d3e329f64d800", func := "loop.example/g00744/laws.FnOneFor", spec := "fnOneFor", inPlace := ["sync/atomic.AddInt64"], unfollowed := true, recurses := true, named := ["loop.example/g00744/impl.errCons", "loop.example/g00744/impl.errLevel"], ifaces := true, apart := false, laid := [("loop.example/g00744/impl.errLevel", laid_loop_example_g00744_impl_errLevel), ("loop.example/g00744/impl.errCons", laid_loop_example_g00744_impl_errCons)], narrowed := true }
def FnOneForUptoSaid : Prop := fnOneForUptoRow.holds Tryz.pinned (OpenSpec.upto fnOneForSpec)

/-- 'laws.FnWitnessLess', WHERE WHAT IT READS IS OF BULK AT MOST 1048576: true; the input reads as it did. -/
def fnWitnessLessUptoRow : OpenClaim := { program := "ytgebjnoicgmdoaagreatdoor", sum := "1480d0d6e41c05d24e6c4f741110a0ac52d7f29e763c4013f39d3e329f64d800", func := "loop.example/g00744/laws.FnWitnessLess", spec := "fnWitnessLess", inPlace := ["sync/atomic.AddInt64", "internal/reflectlite.ValueOf", "(internal/reflectlite.Value).Type", "(internal/reflectlite.Value).IsNil", "internal/reflectlite.TypeOf", "(internal/reflectlite.Value).Elem", "(internal/reflectlite.Value).Set"], unfollowed := true, recurses := true, named := ["loop.example/g00744/impl.errCons", "loop.example/g00744/impl.errLevel", "errors.errorType"], ifaces := true, apart := false, laid := [("errors.errorType", laid_errors_errorType), ("loop.example/g00744/impl.errLevel", laid_loop_example_g00744_impl_errLevel), ("loop.example/g00744/impl.errCons", laid_loop_example_g00744_impl_errCons)], narrowed := true }
def FnWitnessLessUptoSaid : Prop := fnWitnessLessUptoRow.holds Tryz.pinned (OpenSpec.upto fnWitnessLessSpec)

/-- 'laws.FnExactWitness', WHERE WHAT IT READS IS OF BULK AT MOST 1048576: true; the input reads as it did. -/
def fnExactWitnessUptoRow : OpenClaim := { program := "ytgebjnoicgmdoaagreatdoor", sum := "1480d0d6e41c05d24e6c4f741110a0ac52d7f29e763c4013f39d3e329f64d800", func := "loop.example/g00744/laws.FnExactWitness", spec := "fnExactWitness", inPlace := ["sync/atomic.AddInt64", "internal/reflectlite.ValueOf", "(internal/reflectlite.Value).Type", "(internal/reflectlite.Value).IsNil", "internal/reflectlite.TypeOf", "(internal/reflectlite.Value).Elem", "(internal/reflectlite.Value).Set"], unfollowed := true, recurses := true, named := ["loop.example/g00744/impl.errCons", "loop.example/g00744/impl.errLevel", "errors.errorType"], ifaces := true, apart := false, laid := [("errors.errorType", laid_errors_errorType), ("loop.example/g00744/impl.errLevel", laid_loop_example_g00744_impl_errLevel), ("loop.example/g00744/impl.errCons", laid_loop_example_g00744_impl_errCons)], narrowed := true }
def FnExactWitnessUptoSaid : Prop := fnExactWitnessUptoRow.holds Tryz.pinned (OpenSpec.upto fnExactWitnessSpec)

/-- 'laws.FnExactPairsUnder', WHERE WHAT IT READS IS OF BULK AT MOST 1048576: true; the input reads as it did. -/
def fnExactPairsUnderUptoRow : OpenClaim := { program := "ytgebjnoicgmdoaagreatdoor", sum := "1480d0d6e41c05d24e6c4f741110a0ac52d7f29e763c4013f39d3e329f64d800", func := "loop.example/g00744/laws.FnExactPairsUnder", spec := "fnExactPairsUnder", inPlace := ["sync/atomic.AddInt64"], unfollowed := true, recurses := true, named := ["loop.example/g00744/impl.errCons", "loop.example/g00744/impl.errLevel"], ifaces := true, apart := false, laid := [("loop.example/g00744/impl.errLevel", laid_loop_example_g00744_impl_errLevel), ("loop.example/g00744/impl.errCons", laid_loop_example_g00744_impl_errCons)], narrowed := true }
def FnExactPairsUnderUptoSaid : Prop := fnExactPairsUnderUptoRow.holds Tryz.pinned (OpenSpec.upto fnExactPairsUnderSpec)

end Rows
end Go.Proofs.YtgebjnoicgmdoaaGreatDoor
