/-
  NARROWER THAN 'FOR EVERY INPUT', by the rows' own cells (each row's printed sentence says how): FnExactArenaPut: ifaces, laid · FnExactArenaLevel: ifaces, laid · FnExactArenaEval: ifaces, laid · FnArena: ifaces, laid · FnParts: ifaces, laid · FnKeep: ifaces, laid · FnExactTermOk: ifaces, laid · FnExactTermOpen: ifaces, laid.
  DERIVED. THE GIVEN ROWS OF THIS SEAT. 8 by the template 'for every input the law returns true; each argument reads behind the call as it read before'; 0 by the template 'total and deterministic' (their statements: YtfmhmnpmdjpmeaaDoorTotals.lean).
  GIVEN WITH THE SEED: the statements are not yours to turn. If you find one false, say at which input.
  Laid BY PROGRAM, IN A SANDBOX (cutbox-rows.mjs): the forced cells as the released guide's own fill.sh prints them over the translation ac5d391d5ef58692… (all of the seat's roots in one cut). By AI agents, Wed Nov 11 2026. No macro, syntax, notation, axiom, sorry.
-/
import Derived.Test.YtfmhmnpmdjpmeaaDoorChecked
import GoSem.Claim
import GoSem.ClaimJoined
import GoSem.ClaimMapViews
import Derived.JoinedTies
import Derived.KernelRfl
namespace Go.Proofs.YtfmhmnpmdjpmeaaDoor
/- THE CELL 'sum', in the pinned program and in every row, IS THE sha256 OF THE DUMP (.gsa) THAT YtfmhmnpmdjpmeaaDoorProg.lean LOADS. Nothing in Lean hashes anything: it is a label: what it is worth is what the hold of that sum in a sandbox is worth. -/
noncomputable def Tryd.pinned : Pinned := { name := "ytfmhmnpmdjpmeaadoor", sum := "ac5d391d5ef586921bf6a311222c3318cca766d76907f7780668d67a43d866fb", checked := Tryd.checked }
namespace Rows
def none {H : Type} : Left H := { results := [], args := [] }

/- WHAT THE LISTED PACKAGE-LEVEL VARIABLES READ AS WHEN THE CALL BEGINS. Each datum BY PROGRAM (the guide's laid-datum.mjs) off the statement by which the dump's own 'gosem.cut.vars' lays the variable. In a bare row this is a premise. The card (YtfmhmnpmdjpmeaaDoorCards.lean) ties it to the program's text. -/
def laid_loop_example_g00744_impl_errLevel {H : Type} : DataW H := .iface "*errors.errorString" (.ptr (.agg [.lit (.string [110, 111, 116, 32, 97, 32, 118, 97, 108, 105, 100, 32, 108, 101, 118, 101, 108])]))

/-- 'laws.FnExactArenaPut': WHATEVER THE INPUT: true; the input reads as it did. -/
def fnExactArenaPutSpec : ChangeSpec := { name := "fnExactArenaPut", vars := ["loop.example/g00744/impl.errLevel"], fn := fun _ => fun
  | [d1, d2, g1] => { results := [.lit (.bool true)], args := [d1, d2], vars := [g1] }
  | _ => none }
def fnExactArenaPutRow : OpenClaim := { program := "ytfmhmnpmdjpmeaadoor", sum := "ac5d391d5ef586921bf6a311222c3318cca766d76907f7780668d67a43d866fb", func := "loop.example/g00744/laws.FnExactArenaPut", spec := "fnExactArenaPut", unfollowed := true, recurses := true, named := ["loop.example/g00744/impl.errLevel"], ifaces := true, plainKeys := false, apart := false, laid := [("loop.example/g00744/impl.errLevel", laid_loop_example_g00744_impl_errLevel)] }
def FnExactArenaPutSaid : Prop := fnExactArenaPutRow.holds Tryd.pinned (OpenSpec.ofChange fnExactArenaPutSpec)

/-- ITS FALSE NEIGHBOUR: 'it returns false'. Refute it at one input. -/
def fnExactArenaPutWrong : ChangeSpec := { name := "fnExactArenaPut", vars := ["loop.example/g00744/impl.errLevel"], fn := fun _ => fun
  | [d1, d2, g1] => { results := [.lit (.bool false)], args := [d1, d2], vars := [g1] }
  | _ => none }
def FnExactArenaPutWrongFalsely : Prop := fnExactArenaPutRow.holds Tryd.pinned (OpenSpec.ofChange fnExactArenaPutWrong)

/-- 'laws.FnExactArenaLevel': WHATEVER THE INPUT: true; the input reads as it did. -/
def fnExactArenaLevelSpec : ChangeSpec := { name := "fnExactArenaLevel", vars := ["loop.example/g00744/impl.errLevel"], fn := fun _ => fun
  | [d1, d2, g1] => { results := [.lit (.bool true)], args := [d1, d2], vars := [g1] }
  | _ => none }
def fnExactArenaLevelRow : OpenClaim := { program := "ytfmhmnpmdjpmeaadoor", sum := "ac5d391d5ef586921bf6a311222c3318cca766d76907f7780668d67a43d866fb", func := "loop.example/g00744/laws.FnExactArenaLevel", spec := "fnExactArenaLevel", unfollowed := true, recurses := true, named := ["loop.example/g00744/impl.errLevel"], ifaces := true, plainKeys := false, apart := false, laid := [("loop.example/g00744/impl.errLevel", laid_loop_example_g00744_impl_errLevel)] }
def FnExactArenaLevelSaid : Prop := fnExactArenaLevelRow.holds Tryd.pinned (OpenSpec.ofChange fnExactArenaLevelSpec)

/-- ITS FALSE NEIGHBOUR: 'it returns false'. Refute it at one input. -/
def fnExactArenaLevelWrong : ChangeSpec := { name := "fnExactArenaLevel", vars := ["loop.example/g00744/impl.errLevel"], fn := fun _ => fun
  | [d1, d2, g1] => { results := [.lit (.bool false)], args := [d1, d2], vars := [g1] }
  | _ => none }
def FnExactArenaLevelWrongFalsely : Prop := fnExactArenaLevelRow.holds Tryd.pinned (OpenSpec.ofChange fnExactArenaLevelWrong)

/-- 'laws.FnExactArenaEval': WHATEVER THE INPUT: true; the input reads as it did. -/
def fnExactArenaEvalSpec : ChangeSpec := { name := "fnExactArenaEval", vars := ["loop.example/g00744/impl.errLevel"], fn := fun _ => fun
  | [d1, d2, d3, g1] => { results := [.lit (.bool true)], args := [d1, d2, d3], vars := [g1] }
  | _ => none }
def fnExactArenaEvalRow : OpenClaim := { program := "ytfmhmnpmdjpmeaadoor", sum := "ac5d391d5ef586921bf6a311222c3318cca766d76907f7780668d67a43d866fb", func := "loop.example/g00744/laws.FnExactArenaEval", spec := "fnExactArenaEval", unfollowed := true, recurses := true, named := ["loop.example/g00744/impl.errLevel"], ifaces := true, plainKeys := false, apart := false, laid := [("loop.example/g00744/impl.errLevel", laid_loop_example_g00744_impl_errLevel)] }
def FnExactArenaEvalSaid : Prop := fnExactArenaEvalRow.holds Tryd.pinned (OpenSpec.ofChange fnExactArenaEvalSpec)

/-- ITS FALSE NEIGHBOUR: 'it returns false'. Refute it at one input. -/
def fnExactArenaEvalWrong : ChangeSpec := { name := "fnExactArenaEval", vars := ["loop.example/g00744/impl.errLevel"], fn := fun _ => fun
  | [d1, d2, d3, g1] => { results := [.lit (.bool false)], args := [d1, d2, d3], vars := [g1] }
  | _ => none }
def FnExactArenaEvalWrongFalsely : Prop := fnExactArenaEvalRow.holds Tryd.pinned (OpenSpec.ofChange fnExactArenaEvalWrong)

/-- 'laws.FnArena': WHATEVER THE INPUT: true; the input reads as it did. -/
def fnArenaSpec : ChangeSpec := { name := "fnArena", vars := ["loop.example/g00744/impl.errLevel"], fn := fun _ => fun
  | [d, g1] => { results := [.lit (.bool true)], args := [d], vars := [g1] }
  | _ => none }
def fnArenaRow : OpenClaim := { program := "ytfmhmnpmdjpmeaadoor", sum := "ac5d391d5ef586921bf6a311222c3318cca766d76907f7780668d67a43d866fb", func := "loop.example/g00744/laws.FnArena", spec := "fnArena", unfollowed := true, recurses := true, named := ["loop.example/g00744/impl.errLevel"], ifaces := true, plainKeys := false, apart := false, laid := [("loop.example/g00744/impl.errLevel", laid_loop_example_g00744_impl_errLevel)] }
def FnArenaSaid : Prop := fnArenaRow.holds Tryd.pinned (OpenSpec.ofChange fnArenaSpec)

/-- ITS FALSE NEIGHBOUR: 'it returns false'. Refute it at one input. -/
def fnArenaWrong : ChangeSpec := { name := "fnArena", vars := ["loop.example/g00744/impl.errLevel"], fn := fun _ => fun
  | [d, g1] => { results := [.lit (.bool false)], args := [d], vars := [g1] }
  | _ => none }
def FnArenaWrongFalsely : Prop := fnArenaRow.holds Tryd.pinned (OpenSpec.ofChange fnArenaWrong)

/-- 'laws.FnParts': WHATEVER THE INPUT: true; the input reads as it did. -/
def fnPartsSpec : ChangeSpec := { name := "fnParts", vars := ["loop.example/g00744/impl.errLevel"], fn := fun _ => fun
  | [d, g1] => { results := [.lit (.bool true)], args := [d], vars := [g1] }
  | _ => none }
def fnPartsRow : OpenClaim := { program := "ytfmhmnpmdjpmeaadoor", sum := "ac5d391d5ef586921bf6a311222c3318cca766d76907f7780668d67a43d866fb", func := "loop.example/g00744/laws.FnParts", spec := "fnParts", unfollowed := true, recurses := true, named := ["loop.example/g00744/impl.errLevel"], ifaces := true, plainKeys := false, apart := false, laid := [("loop.example/g00744/impl.errLevel", laid_loop_example_g00744_impl_errLevel)] }
def FnPartsSaid : Prop := fnPartsRow.holds Tryd.pinned (OpenSpec.ofChange fnPartsSpec)

/-- ITS FALSE NEIGHBOUR: 'it returns false'. Refute it at one input. -/
def fnPartsWrong : ChangeSpec := { name := "fnParts", vars := ["loop.example/g00744/impl.errLevel"], fn := fun _ => fun
  | [d, g1] => { results := [.lit (.bool false)], args := [d], vars := [g1] }
  | _ => none }
def FnPartsWrongFalsely : Prop := fnPartsRow.holds Tryd.pinned (OpenSpec.ofChange fnPartsWrong)

/-- 'laws.FnKeep': WHATEVER THE INPUT: true; the input reads as it did. -/
def fnKeepSpec : ChangeSpec := { name := "fnKeep", vars := ["loop.example/g00744/impl.errLevel"], fn := fun _ => fun
  | [d, g1] => { results := [.lit (.bool true)], args := [d], vars := [g1] }
  | _ => none }
def fnKeepRow : OpenClaim := { program := "ytfmhmnpmdjpmeaadoor", sum := "ac5d391d5ef586921bf6a311222c3318cca766d76907f7780668d67a43d866fb", func := "loop.example/g00744/laws.FnKeep", spec := "fnKeep", unfollowed := true, recurses := true, named := ["loop.example/g00744/impl.errLevel"], ifaces := true, plainKeys := false, apart := false, laid := [("loop.example/g00744/impl.errLevel", laid_loop_example_g00744_impl_errLevel)] }
def FnKeepSaid : Prop := fnKeepRow.holds Tryd.pinned (OpenSpec.ofChange fnKeepSpec)

/-- ITS FALSE NEIGHBOUR: 'it returns false'. Refute it at one input. -/
def fnKeepWrong : ChangeSpec := { name := "fnKeep", vars := ["loop.example/g00744/impl.errLevel"], fn := fun _ => fun
  | [d, g1] => { results := [.lit (.bool false)], args := [d], vars := [g1] }
  | _ => none }
def FnKeepWrongFalsely : Prop := fnKeepRow.holds Tryd.pinned (OpenSpec.ofChange fnKeepWrong)

/-- 'laws.FnExactTermOk': WHATEVER THE INPUT: true; the input reads as it did. -/
def fnExactTermOkSpec : ChangeSpec := { name := "fnExactTermOk", vars := ["loop.example/g00744/impl.errLevel"], fn := fun _ => fun
  | [d, g1] => { results := [.lit (.bool true)], args := [d], vars := [g1] }
  | _ => none }
def fnExactTermOkRow : OpenClaim := { program := "ytfmhmnpmdjpmeaadoor", sum := "ac5d391d5ef586921bf6a311222c3318cca766d76907f7780668d67a43d866fb", func := "loop.example/g00744/laws.FnExactTermOk", spec := "fnExactTermOk", unfollowed := true, recurses := true, named := ["loop.example/g00744/impl.errLevel"], ifaces := true, plainKeys := false, apart := false, laid := [("loop.example/g00744/impl.errLevel", laid_loop_example_g00744_impl_errLevel)] }
def FnExactTermOkSaid : Prop := fnExactTermOkRow.holds Tryd.pinned (OpenSpec.ofChange fnExactTermOkSpec)

/-- ITS FALSE NEIGHBOUR: 'it returns false'. Refute it at one input. -/
def fnExactTermOkWrong : ChangeSpec := { name := "fnExactTermOk", vars := ["loop.example/g00744/impl.errLevel"], fn := fun _ => fun
  | [d, g1] => { results := [.lit (.bool false)], args := [d], vars := [g1] }
  | _ => none }
def FnExactTermOkWrongFalsely : Prop := fnExactTermOkRow.holds Tryd.pinned (OpenSpec.ofChange fnExactTermOkWrong)

/-- 'laws.FnExactTermOpen': WHATEVER THE INPUT: true; the input reads as it did. -/
def fnExactTermOpenSpec : ChangeSpec := { name := "fnExactTermOpen", vars := ["loop.example/g00744/impl.errLevel"], fn := fun _ => fun
  | [d, g1] => { results := [.lit (.bool true)], args := [d], vars := [g1] }
  | _ => none }
def fnExactTermOpenRow : OpenClaim := { program := "ytfmhmnpmdjpmeaadoor", sum := "ac5d391d5ef586921bf6a311222c3318cca766d76907f7780668d67a43d866fb", func := "loop.example/g00744/laws.FnExactTermOpen", spec := "fnExactTermOpen", unfollowed := true, recurses := true, named := ["loop.example/g00744/impl.errLevel"], ifaces := true, plainKeys := false, apart := false, laid := [("loop.example/g00744/impl.errLevel", laid_loop_example_g00744_impl_errLevel)] }
def FnExactTermOpenSaid : Prop := fnExactTermOpenRow.holds Tryd.pinned (OpenSpec.ofChange fnExactTermOpenSpec)

/-- ITS FALSE NEIGHBOUR: 'it returns false'. Refute it at one input. -/
def fnExactTermOpenWrong : ChangeSpec := { name := "fnExactTermOpen", vars := ["loop.example/g00744/impl.errLevel"], fn := fun _ => fun
  | [d, g1] => { results := [.lit (.bool false)], args := [d], vars := [g1] }
  | _ => none }
def FnExactTermOpenWrongFalsely : Prop := fnExactTermOpenRow.holds Tryd.pinned (OpenSpec.ofChange fnExactTermOpenWrong)

/- THE SECOND FORM. 'bulk': how many values and letters a reading holds, each counted each time it is reached (what is shared counts as often as it is met; a slice's spare places count too). A statement '..UptoSaid' is the law's where the arguments, and the package variables that the reading takes, are together of bulk at most 1048576: NARROWER than '..Said'. Prove '..Said' where nothing that the law and all that it calls make is longer than what came in: it says more and counts as full. Else prove '..UptoSaid'. A law counts once. -/
mutual
def uptoBulk {H : Type} : DataW H → Nat
  | .lit (.string bytes) => bytes.length + 1
  | .lit _ => 1
  | .nil => 1
  | .ptr d => uptoBulk d + 1
  | .slice elems spare => uptoBulkAll elems + uptoBulkAll spare + 1
  | .agg parts => uptoBulkAll parts + 1
  | .iface _ d => uptoBulk d + 1
  | .map entries => uptoBulkEntries entries + 1
  | .held _ => 1
def uptoBulkAll {H : Type} : List (DataW H) → Nat
  | [] => 0
  | d :: r => uptoBulk d + uptoBulkAll r
def uptoBulkEntries {H : Type} : List (Lit × DataW H) → Nat
  | [] => 0
  | x :: r => uptoBulkEntry x + uptoBulkEntries r
def uptoBulkEntry {H : Type} : Lit × DataW H → Nat
  | (.string bytes, d) => bytes.length + uptoBulk d + 1
  | (_, d) => uptoBulk d + 1
 end
def uptoSmall : (H : Type) → List (DataW H) → Bool := fun _ ds => decide (uptoBulkAll ds ≤ 1048576)
def OpenSpec.upto (s : _root_.Go.ChangeSpec) : _root_.Go.OpenSpec := { _root_.Go.OpenSpec.ofChange s with cond := some uptoSmall }

/-- 'laws.FnExactArenaPut', WHERE WHAT IT READS IS OF BULK AT MOST 1048576: true; the input reads as it did. -/
def fnExactArenaPutUptoRow : OpenClaim := { program := "ytfmhmnpmdjpmeaadoor", sum := "ac5d391d5ef586921bf6a311222c3318cca766d76907f7780668d67a43d866fb", func := "loop.example/g00744/laws.FnExactArenaPut", spec := "fnExactArenaPut", unfollowed := true, recurses := true, named := ["loop.example/g00744/impl.errLevel"], ifaces := true, plainKeys := false, apart := false, laid := [("loop.example/g00744/impl.errLevel", laid_loop_example_g00744_impl_errLevel)], narrowed := true }
def FnExactArenaPutUptoSaid : Prop := fnExactArenaPutUptoRow.holds Tryd.pinned (OpenSpec.upto fnExactArenaPutSpec)

/-- 'laws.FnExactArenaLevel', WHERE WHAT IT READS IS OF BULK AT MOST 1048576: true; the input reads as it did. -/
def fnExactArenaLevelUptoRow : OpenClaim := { program := "ytfmhmnpmdjpmeaadoor", sum := "ac5d391d5ef586921bf6a311222c3318cca766d76907f7780668d67a43d866fb", func := "loop.example/g00744/laws.FnExactArenaLevel", spec := "fnExactArenaLevel", unfollowed := true, recurses := true, named := ["loop.example/g00744/impl.errLevel"], ifaces := true, plainKeys := false, apart := false, laid := [("loop.example/g00744/impl.errLevel", laid_loop_example_g00744_impl_errLevel)], narrowed := true }
def FnExactArenaLevelUptoSaid : Prop := fnExactArenaLevelUptoRow.holds Tryd.pinned (OpenSpec.upto fnExactArenaLevelSpec)

/-- 'laws.FnExactArenaEval', WHERE WHAT IT READS IS OF BULK AT MOST 1048576: true; the input reads as it did. -/
def fnExactArenaEvalUptoRow : OpenClaim := { program := "ytfmhmnpmdjpmeaadoor", sum := "ac5d391d5ef586921bf6a311222c3318cca766d76907f7780668d67a43d866fb", func := "loop.example/g00744/laws.FnExactArenaEval", spec := "fnExactArenaEval", unfollowed := true, recurses := true, named := ["loop.example/g00744/impl.errLevel"], ifaces := true, plainKeys := false, apart := false, laid := [("loop.example/g00744/impl.errLevel", laid_loop_example_g00744_impl_errLevel)], narrowed := true }
def FnExactArenaEvalUptoSaid : Prop := fnExactArenaEvalUptoRow.holds Tryd.pinned (OpenSpec.upto fnExactArenaEvalSpec)

/-- 'laws.FnArena', WHERE WHAT IT READS IS OF BULK AT MOST 1048576: true; the input reads as it did. -/
def fnArenaUptoRow : OpenClaim := { program := "ytfmhmnpmdjpmeaadoor", sum := "ac5d391d5ef586921bf6a311222c3318cca766d76907f7780668d67a43d866fb", func := "loop.example/g00744/laws.FnArena", spec := "fnArena", unfollowed := true, recurses := true, named := ["loop.example/g00744/impl.errLevel"], ifaces := true, plainKeys := false, apart := false, laid := [("loop.example/g00744/impl.errLevel", laid_loop_example_g00744_impl_errLevel)], narrowed := true }
def FnArenaUptoSaid : Prop := fnArenaUptoRow.holds Tryd.pinned (OpenSpec.upto fnArenaSpec)

/-- 'laws.FnParts', WHERE WHAT IT READS IS OF BULK AT MOST 1048576: true; the input reads as it did. -/
def fnPartsUptoRow : OpenClaim := { program := "ytfmhmnpmdjpmeaadoor", sum := "ac5d391d5ef586921bf6a311222c3318cca766d76907f7780668d67a43d866fb", func := "loop.example/g00744/laws.FnParts", spec := "fnParts", unfollowed := true, recurses := true, named := ["loop.example/g00744/impl.errLevel"], ifaces := true, plainKeys := false, apart := false, laid := [("loop.example/g00744/impl.errLevel", laid_loop_example_g00744_impl_errLevel)], narrowed := true }
def FnPartsUptoSaid : Prop := fnPartsUptoRow.holds Tryd.pinned (OpenSpec.upto fnPartsSpec)

/-- 'laws.FnKeep', WHERE WHAT IT READS IS OF BULK AT MOST 1048576: true; the input reads as it did. -/
def fnKeepUptoRow : OpenClaim := { program := "ytfmhmnpmdjpmeaadoor", sum := "ac5d391d5ef586921bf6a311222c3318cca766d76907f7780668d67a43d866fb", func := "loop.example/g00744/laws.FnKeep", spec := "fnKeep", unfollowed := true, recurses := true, named := ["loop.example/g00744/impl.errLevel"], ifaces := true, plainKeys := false, apart := false, laid := [("loop.example/g00744/impl.errLevel", laid_loop_example_g00744_impl_errLevel)], narrowed := true }
def FnKeepUptoSaid : Prop := fnKeepUptoRow.holds Tryd.pinned (OpenSpec.upto fnKeepSpec)

/-- 'laws.FnExactTermOk', WHERE WHAT IT READS IS OF BULK AT MOST 1048576: true; the input reads as it did. -/
def fnExactTermOkUptoRow : OpenClaim := { program := "ytfmhmnpmdjpmeaadoor", sum := "ac5d391d5ef586921bf6a311222c3318cca766d76907f7780668d67a43d866fb", func := "loop.example/g00744/laws.FnExactTermOk", spec := "fnExactTermOk", unfollowed := true, recurses := true, named := ["loop.example/g00744/impl.errLevel"], ifaces := true, plainKeys := false, apart := false, laid := [("loop.example/g00744/impl.errLevel", laid_loop_example_g00744_impl_errLevel)], narrowed := true }
def FnExactTermOkUptoSaid : Prop := fnExactTermOkUptoRow.holds Tryd.pinned (OpenSpec.upto fnExactTermOkSpec)

/-- 'laws.FnExactTermOpen', WHERE WHAT IT READS IS OF BULK AT MOST 1048576: true; the input reads as it did. -/
def fnExactTermOpenUptoRow : OpenClaim := { program := "ytfmhmnpmdjpmeaadoor", sum := "ac5d391d5ef586921bf6a311222c3318cca766d76907f7780668d67a43d866fb", func := "loop.example/g00744/laws.FnExactTermOpen", spec := "fnExactTermOpen", unfollowed := true, recurses := true, named := ["loop.example/g00744/impl.errLevel"], ifaces := true, plainKeys := false, apart := false, laid := [("loop.example/g00744/impl.errLevel", laid_loop_example_g00744_impl_errLevel)], narrowed := true }
def FnExactTermOpenUptoSaid : Prop := fnExactTermOpenUptoRow.holds Tryd.pinned (OpenSpec.upto fnExactTermOpenSpec)

end Rows
end Go.Proofs.YtfmhmnpmdjpmeaaDoor
