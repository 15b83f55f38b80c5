/-
  NARROWER THAN 'FOR EVERY INPUT', by the rows' own cells (each row's printed sentence says how): FnSubstUnder: ifaces, laid.
  DERIVED. THE GIVEN ROWS OF THIS SEAT. 1 by the template 'for every input the law returns true; each argument reads behind the call as it read before'; 0 by the template 'total and deterministic' (their statements: YtgebjnoicgmdoaaDoorTotals.lean).
  GIVEN WITH THE SEED: the statements are not yours to turn. If you find one false, say at which input.
  Laid BY PROGRAM, IN A SANDBOX (cutbox-rows.mjs): the forced cells as the released guide's own fill.sh prints them over the translation d09f5ae3b2364908… (all of the seat's roots in one cut). By AI agents, Wed Nov 11 2026. No macro, syntax, notation, axiom, sorry.
-/
import Derived.Test.YtgebjnoicgmdoaaDoorChecked
import GoSem.Claim
import GoSem.ClaimJoined
import GoSem.ClaimMapViews
import Derived.JoinedTies
import Derived.KernelRfl
namespace Go.Proofs.YtgebjnoicgmdoaaDoor
/- THE CELL 'sum', in the pinned program and in every row, IS THE sha256 OF THE DUMP (.gsa) THAT YtgebjnoicgmdoaaDoorProg.lean LOADS. Nothing in Lean hashes anything: it is a label: what it is worth is what the hold of that sum in a sandbox is worth. -/
noncomputable def Tryd.pinned : Pinned := { name := "ytgebjnoicgmdoaadoor", sum := "d09f5ae3b2364908816c41b2533d977bc7ad42f0534530f6c9fb72d29ca967f5", checked := Tryd.checked }
namespace Rows
def none {H : Type} : Left H := { results := [], args := [] }

/- WHAT THE LISTED PACKAGE-LEVEL VARIABLES READ AS WHEN THE CALL BEGINS. Each datum BY PROGRAM (the guide's laid-datum.mjs) off the statement by which the dump's own 'gosem.cut.vars' lays the variable. In a bare row this is a premise. The card (YtgebjnoicgmdoaaDoorCards.lean) ties it to the program's text. -/
def laid_loop_example_g00744_impl_errLevel {H : Type} : DataW H := .iface "*errors.errorString" (.ptr (.agg [.lit (.string [110, 111, 116, 32, 97, 32, 118, 97, 108, 105, 100, 32, 108, 101, 118, 101, 108])]))
def laid_loop_example_g00744_impl_errCons {H : Type} : DataW H := .iface "*errors.errorString" (.ptr (.agg [.lit (.string [110, 111, 116, 32, 97, 32, 118, 97, 108, 105, 100, 32, 108, 105, 115, 116, 32, 111, 102, 32, 99, 111, 110, 115, 116, 114, 97, 105, 110, 116, 115])]))

/-- 'laws.FnSubstUnder': WHATEVER THE INPUT: true; the input reads as it did. -/
def fnSubstUnderSpec : ChangeSpec := { name := "fnSubstUnder", vars := ["loop.example/g00744/impl.errLevel", "loop.example/g00744/impl.errCons"], fn := fun _ => fun
  | [d, g1, g2] => { results := [.lit (.bool true)], args := [d], vars := [g1, g2] }
  | _ => none }
def fnSubstUnderRow : OpenClaim := { program := "ytgebjnoicgmdoaadoor", sum := "d09f5ae3b2364908816c41b2533d977bc7ad42f0534530f6c9fb72d29ca967f5", func := "loop.example/g00744/laws.FnSubstUnder", spec := "fnSubstUnder", inPlace := ["sync/atomic.AddInt64"], unfollowed := true, recurses := true, named := ["loop.example/g00744/impl.errLevel", "loop.example/g00744/impl.errCons"], ifaces := true, apart := false, laid := [("loop.example/g00744/impl.errLevel", laid_loop_example_g00744_impl_errLevel), ("loop.example/g00744/impl.errCons", laid_loop_example_g00744_impl_errCons)] }
def FnSubstUnderSaid : Prop := fnSubstUnderRow.holds Tryd.pinned (OpenSpec.ofChange fnSubstUnderSpec)

/-- ITS FALSE NEIGHBOUR: 'it returns false'. Refute it at one input. -/
def fnSubstUnderWrong : ChangeSpec := { name := "fnSubstUnder", vars := ["loop.example/g00744/impl.errLevel", "loop.example/g00744/impl.errCons"], fn := fun _ => fun
  | [d, g1, g2] => { results := [.lit (.bool false)], args := [d], vars := [g1, g2] }
  | _ => none }
def FnSubstUnderWrongFalsely : Prop := fnSubstUnderRow.holds Tryd.pinned (OpenSpec.ofChange fnSubstUnderWrong)

/- THE SECOND FORM. 'bulk': how many values and letters a reading holds, each counted each time it is reached (what is shared counts as often as it is met; a slice's spare places count too). A statement '..UptoSaid' is the law's where the arguments, and the package variables that the reading takes, are together of bulk at most 1048576: NARROWER than '..Said'. Prove '..Said' where nothing that the law and all that it calls make is longer than what came in: it says more and counts as full. Else prove '..UptoSaid'. A law counts once. -/
mutual
def uptoBulk {H : Type} : DataW H → Nat
  | .lit (.string bytes) => bytes.length + 1
  | .lit _ => 1
  | .nil => 1
  | .ptr d => uptoBulk d + 1
  | .slice elems spare => uptoBulkAll elems + uptoBulkAll spare + 1
  | .agg parts => uptoBulkAll parts + 1
  | .iface _ d => uptoBulk d + 1
  | .map entries => uptoBulkEntries entries + 1
  | .held _ => 1
def uptoBulkAll {H : Type} : List (DataW H) → Nat
  | [] => 0
  | d :: r => uptoBulk d + uptoBulkAll r
def uptoBulkEntries {H : Type} : List (Lit × DataW H) → Nat
  | [] => 0
  | x :: r => uptoBulkEntry x + uptoBulkEntries r
def uptoBulkEntry {H : Type} : Lit × DataW H → Nat
  | (.string bytes, d) => bytes.length + uptoBulk d + 1
  | (_, d) => uptoBulk d + 1
 end
def uptoSmall : (H : Type) → List (DataW H) → Bool := fun _ ds => decide (uptoBulkAll ds ≤ 1048576)
def OpenSpec.upto (s : _root_.Go.ChangeSpec) : _root_.Go.OpenSpec := { _root_.Go.OpenSpec.ofChange s with cond := some uptoSmall }

/-- 'laws.FnSubstUnder', WHERE WHAT IT READS IS OF BULK AT MOST 1048576: true; the input reads as it did. -/
def fnSubstUnderUptoRow : OpenClaim := { program := "ytgebjnoicgmdoaadoor", sum := "d09f5ae3b2364908816c41b2533d977bc7ad42f0534530f6c9fb72d29ca967f5", func := "loop.example/g00744/laws.FnSubstUnder", spec := "fnSubstUnder", inPlace := ["sync/atomic.AddInt64"], unfollowed := true, recurses := true, named := ["loop.example/g00744/impl.errLevel", "loop.example/g00744/impl.errCons"], ifaces := true, apart := false, laid := [("loop.example/g00744/impl.errLevel", laid_loop_example_g00744_impl_errLevel), ("loop.example/g00744/impl.errCons", laid_loop_example_g00744_impl_errCons)], narrowed := true }
def FnSubstUnderUptoSaid : Prop := fnSubstUnderUptoRow.holds Tryd.pinned (OpenSpec.upto fnSubstUnderSpec)

end Rows
end Go.Proofs.YtgebjnoicgmdoaaDoor
