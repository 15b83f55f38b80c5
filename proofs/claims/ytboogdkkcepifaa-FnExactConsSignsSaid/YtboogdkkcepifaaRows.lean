/-
  No cell of these rows narrows 'for every input' (looked for: loops, veiled, ifaces, maps, wideKeys, modest, calm, conditions, laid).
  DERIVED. THE GIVEN ROWS OF THIS SEAT. 14 by the template 'for every input the law returns true; each argument reads behind the call as it read before'; 0 by the template 'total and deterministic' (their statements: YtboogdkkcepifaaTotals.lean).
  GIVEN WITH THE SEED: the statements are not yours to turn. If you find one false, say at which input.
  Laid BY PROGRAM, IN A SANDBOX (cutbox-rows.mjs): the forced cells as the released guide's own fill.sh prints them over the translation fd089c67a8983b01… (all of the seat's roots in one cut). By AI agents, Wed Nov 11 2026. No macro, syntax, notation, axiom, sorry.
-/
import Derived.Test.YtboogdkkcepifaaChecked
import GoSem.Claim
import GoSem.ClaimJoined
import GoSem.ClaimMapViews
import Derived.JoinedTies
import Derived.KernelRfl
namespace Go.Proofs.Ytboogdkkcepifaa
/- THE CELL 'sum', in the pinned program and in every row, IS THE sha256 OF THE DUMP (.gsa) THAT YtboogdkkcepifaaProg.lean LOADS. Nothing in Lean hashes anything: it is a label: what it is worth is what the hold of that sum in a sandbox is worth. -/
noncomputable def Try.pinned : Pinned := { name := "ytboogdkkcepifaa", sum := "fd089c67a8983b01207604a8ec1af7c51b410fa9fe273a8ab104bc55ae98d755", checked := Try.checked }
namespace Rows
def none {H : Type} : Left H := { results := [], args := [] }

/-- 'laws.FnLeast': WHATEVER THE INPUT: true; the input reads as it did. -/
def fnLeastSpec : ChangeSpec := { name := "fnLeast", fn := fun _ => fun
  | [d] => { results := [.lit (.bool true)], args := [d] }
  | _ => none }
def fnLeastRow : OpenClaim := { program := "ytboogdkkcepifaa", sum := "fd089c67a8983b01207604a8ec1af7c51b410fa9fe273a8ab104bc55ae98d755", func := "loop.example/g00744/laws.FnLeast", spec := "fnLeast", inPlace := ["sync/atomic.AddInt64"], unfollowed := true, recurses := true, apart := false }
def FnLeastSaid : Prop := fnLeastRow.holds Try.pinned (OpenSpec.ofChange fnLeastSpec)

/-- ITS FALSE NEIGHBOUR: 'it returns false'. Refute it at one input. -/
def fnLeastWrong : ChangeSpec := { name := "fnLeast", fn := fun _ => fun
  | [d] => { results := [.lit (.bool false)], args := [d] }
  | _ => none }
def FnLeastWrongFalsely : Prop := fnLeastRow.holds Try.pinned (OpenSpec.ofChange fnLeastWrong)

/-- 'laws.FnFar': WHATEVER THE INPUT: true; the input reads as it did. -/
def fnFarSpec : ChangeSpec := { name := "fnFar", fn := fun _ => fun
  | [d] => { results := [.lit (.bool true)], args := [d] }
  | _ => none }
def fnFarRow : OpenClaim := { program := "ytboogdkkcepifaa", sum := "fd089c67a8983b01207604a8ec1af7c51b410fa9fe273a8ab104bc55ae98d755", func := "loop.example/g00744/laws.FnFar", spec := "fnFar", inPlace := ["sync/atomic.AddInt64"], apart := false }
def FnFarSaid : Prop := fnFarRow.holds Try.pinned (OpenSpec.ofChange fnFarSpec)

/-- ITS FALSE NEIGHBOUR: 'it returns false'. Refute it at one input. -/
def fnFarWrong : ChangeSpec := { name := "fnFar", fn := fun _ => fun
  | [d] => { results := [.lit (.bool false)], args := [d] }
  | _ => none }
def FnFarWrongFalsely : Prop := fnFarRow.holds Try.pinned (OpenSpec.ofChange fnFarWrong)

/-- 'laws.FnThin': WHATEVER THE INPUT: true; the input reads as it did. -/
def fnThinSpec : ChangeSpec := { name := "fnThin", fn := fun _ => fun
  | [d] => { results := [.lit (.bool true)], args := [d] }
  | _ => none }
def fnThinRow : OpenClaim := { program := "ytboogdkkcepifaa", sum := "fd089c67a8983b01207604a8ec1af7c51b410fa9fe273a8ab104bc55ae98d755", func := "loop.example/g00744/laws.FnThin", spec := "fnThin", inPlace := ["sync/atomic.AddInt64"], unfollowed := true, recurses := true, apart := false }
def FnThinSaid : Prop := fnThinRow.holds Try.pinned (OpenSpec.ofChange fnThinSpec)

/-- ITS FALSE NEIGHBOUR: 'it returns false'. Refute it at one input. -/
def fnThinWrong : ChangeSpec := { name := "fnThin", fn := fun _ => fun
  | [d] => { results := [.lit (.bool false)], args := [d] }
  | _ => none }
def FnThinWrongFalsely : Prop := fnThinRow.holds Try.pinned (OpenSpec.ofChange fnThinWrong)

/-- 'laws.FnExactConOk': WHATEVER THE INPUT: true; the input reads as it did. -/
def fnExactConOkSpec : ChangeSpec := { name := "fnExactConOk", fn := fun _ => fun
  | [d] => { results := [.lit (.bool true)], args := [d] }
  | _ => none }
def fnExactConOkRow : OpenClaim := { program := "ytboogdkkcepifaa", sum := "fd089c67a8983b01207604a8ec1af7c51b410fa9fe273a8ab104bc55ae98d755", func := "loop.example/g00744/laws.FnExactConOk", spec := "fnExactConOk", apart := false }
def FnExactConOkSaid : Prop := fnExactConOkRow.holds Try.pinned (OpenSpec.ofChange fnExactConOkSpec)

/-- ITS FALSE NEIGHBOUR: 'it returns false'. Refute it at one input. -/
def fnExactConOkWrong : ChangeSpec := { name := "fnExactConOk", fn := fun _ => fun
  | [d] => { results := [.lit (.bool false)], args := [d] }
  | _ => none }
def FnExactConOkWrongFalsely : Prop := fnExactConOkRow.holds Try.pinned (OpenSpec.ofChange fnExactConOkWrong)

/-- 'laws.FnExactConsOk': WHATEVER THE INPUT: true; the input reads as it did. -/
def fnExactConsOkSpec : ChangeSpec := { name := "fnExactConsOk", fn := fun _ => fun
  | [d] => { results := [.lit (.bool true)], args := [d] }
  | _ => none }
def fnExactConsOkRow : OpenClaim := { program := "ytboogdkkcepifaa", sum := "fd089c67a8983b01207604a8ec1af7c51b410fa9fe273a8ab104bc55ae98d755", func := "loop.example/g00744/laws.FnExactConsOk", spec := "fnExactConsOk", apart := false }
def FnExactConsOkSaid : Prop := fnExactConsOkRow.holds Try.pinned (OpenSpec.ofChange fnExactConsOkSpec)

/-- ITS FALSE NEIGHBOUR: 'it returns false'. Refute it at one input. -/
def fnExactConsOkWrong : ChangeSpec := { name := "fnExactConsOk", fn := fun _ => fun
  | [d] => { results := [.lit (.bool false)], args := [d] }
  | _ => none }
def FnExactConsOkWrongFalsely : Prop := fnExactConsOkRow.holds Try.pinned (OpenSpec.ofChange fnExactConsOkWrong)

/-- 'laws.FnExactConHolds': WHATEVER THE INPUT: true; the input reads as it did. -/
def fnExactConHoldsSpec : ChangeSpec := { name := "fnExactConHolds", fn := fun _ => fun
  | [d1, d2] => { results := [.lit (.bool true)], args := [d1, d2] }
  | _ => none }
def fnExactConHoldsRow : OpenClaim := { program := "ytboogdkkcepifaa", sum := "fd089c67a8983b01207604a8ec1af7c51b410fa9fe273a8ab104bc55ae98d755", func := "loop.example/g00744/laws.FnExactConHolds", spec := "fnExactConHolds", apart := false }
def FnExactConHoldsSaid : Prop := fnExactConHoldsRow.holds Try.pinned (OpenSpec.ofChange fnExactConHoldsSpec)

/-- ITS FALSE NEIGHBOUR: 'it returns false'. Refute it at one input. -/
def fnExactConHoldsWrong : ChangeSpec := { name := "fnExactConHolds", fn := fun _ => fun
  | [d1, d2] => { results := [.lit (.bool false)], args := [d1, d2] }
  | _ => none }
def FnExactConHoldsWrongFalsely : Prop := fnExactConHoldsRow.holds Try.pinned (OpenSpec.ofChange fnExactConHoldsWrong)

/-- 'laws.FnExactConsHold': WHATEVER THE INPUT: true; the input reads as it did. -/
def fnExactConsHoldSpec : ChangeSpec := { name := "fnExactConsHold", fn := fun _ => fun
  | [d1, d2] => { results := [.lit (.bool true)], args := [d1, d2] }
  | _ => none }
def fnExactConsHoldRow : OpenClaim := { program := "ytboogdkkcepifaa", sum := "fd089c67a8983b01207604a8ec1af7c51b410fa9fe273a8ab104bc55ae98d755", func := "loop.example/g00744/laws.FnExactConsHold", spec := "fnExactConsHold", apart := false }
def FnExactConsHoldSaid : Prop := fnExactConsHoldRow.holds Try.pinned (OpenSpec.ofChange fnExactConsHoldSpec)

/-- ITS FALSE NEIGHBOUR: 'it returns false'. Refute it at one input. -/
def fnExactConsHoldWrong : ChangeSpec := { name := "fnExactConsHold", fn := fun _ => fun
  | [d1, d2] => { results := [.lit (.bool false)], args := [d1, d2] }
  | _ => none }
def FnExactConsHoldWrongFalsely : Prop := fnExactConsHoldRow.holds Try.pinned (OpenSpec.ofChange fnExactConsHoldWrong)

/-- 'laws.FnExactConsSat': WHATEVER THE INPUT: true; the input reads as it did. -/
def fnExactConsSatSpec : ChangeSpec := { name := "fnExactConsSat", fn := fun _ => fun
  | [d] => { results := [.lit (.bool true)], args := [d] }
  | _ => none }
def fnExactConsSatRow : OpenClaim := { program := "ytboogdkkcepifaa", sum := "fd089c67a8983b01207604a8ec1af7c51b410fa9fe273a8ab104bc55ae98d755", func := "loop.example/g00744/laws.FnExactConsSat", spec := "fnExactConsSat", inPlace := ["sync/atomic.AddInt64"], apart := false }
def FnExactConsSatSaid : Prop := fnExactConsSatRow.holds Try.pinned (OpenSpec.ofChange fnExactConsSatSpec)

/-- ITS FALSE NEIGHBOUR: 'it returns false'. Refute it at one input. -/
def fnExactConsSatWrong : ChangeSpec := { name := "fnExactConsSat", fn := fun _ => fun
  | [d] => { results := [.lit (.bool false)], args := [d] }
  | _ => none }
def FnExactConsSatWrongFalsely : Prop := fnExactConsSatRow.holds Try.pinned (OpenSpec.ofChange fnExactConsSatWrong)

/-- 'laws.FnExactConsLeast': WHATEVER THE INPUT: true; the input reads as it did. -/
def fnExactConsLeastSpec : ChangeSpec := { name := "fnExactConsLeast", fn := fun _ => fun
  | [d] => { results := [.lit (.bool true)], args := [d] }
  | _ => none }
def fnExactConsLeastRow : OpenClaim := { program := "ytboogdkkcepifaa", sum := "fd089c67a8983b01207604a8ec1af7c51b410fa9fe273a8ab104bc55ae98d755", func := "loop.example/g00744/laws.FnExactConsLeast", spec := "fnExactConsLeast", inPlace := ["sync/atomic.AddInt64"], apart := false }
def FnExactConsLeastSaid : Prop := fnExactConsLeastRow.holds Try.pinned (OpenSpec.ofChange fnExactConsLeastSpec)

/-- ITS FALSE NEIGHBOUR: 'it returns false'. Refute it at one input. -/
def fnExactConsLeastWrong : ChangeSpec := { name := "fnExactConsLeast", fn := fun _ => fun
  | [d] => { results := [.lit (.bool false)], args := [d] }
  | _ => none }
def FnExactConsLeastWrongFalsely : Prop := fnExactConsLeastRow.holds Try.pinned (OpenSpec.ofChange fnExactConsLeastWrong)

/-- 'laws.FnExactConsFar': WHATEVER THE INPUT: true; the input reads as it did. -/
def fnExactConsFarSpec : ChangeSpec := { name := "fnExactConsFar", fn := fun _ => fun
  | [d1, d2, d3] => { results := [.lit (.bool true)], args := [d1, d2, d3] }
  | _ => none }
def fnExactConsFarRow : OpenClaim := { program := "ytboogdkkcepifaa", sum := "fd089c67a8983b01207604a8ec1af7c51b410fa9fe273a8ab104bc55ae98d755", func := "loop.example/g00744/laws.FnExactConsFar", spec := "fnExactConsFar", inPlace := ["sync/atomic.AddInt64"], apart := false }
def FnExactConsFarSaid : Prop := fnExactConsFarRow.holds Try.pinned (OpenSpec.ofChange fnExactConsFarSpec)

/-- ITS FALSE NEIGHBOUR: 'it returns false'. Refute it at one input. -/
def fnExactConsFarWrong : ChangeSpec := { name := "fnExactConsFar", fn := fun _ => fun
  | [d1, d2, d3] => { results := [.lit (.bool false)], args := [d1, d2, d3] }
  | _ => none }
def FnExactConsFarWrongFalsely : Prop := fnExactConsFarRow.holds Try.pinned (OpenSpec.ofChange fnExactConsFarWrong)

/-- 'laws.FnExactConsImply': WHATEVER THE INPUT: true; the input reads as it did. -/
def fnExactConsImplySpec : ChangeSpec := { name := "fnExactConsImply", fn := fun _ => fun
  | [d1, d2] => { results := [.lit (.bool true)], args := [d1, d2] }
  | _ => none }
def fnExactConsImplyRow : OpenClaim := { program := "ytboogdkkcepifaa", sum := "fd089c67a8983b01207604a8ec1af7c51b410fa9fe273a8ab104bc55ae98d755", func := "loop.example/g00744/laws.FnExactConsImply", spec := "fnExactConsImply", inPlace := ["sync/atomic.AddInt64"], apart := false }
def FnExactConsImplySaid : Prop := fnExactConsImplyRow.holds Try.pinned (OpenSpec.ofChange fnExactConsImplySpec)

/-- ITS FALSE NEIGHBOUR: 'it returns false'. Refute it at one input. -/
def fnExactConsImplyWrong : ChangeSpec := { name := "fnExactConsImply", fn := fun _ => fun
  | [d1, d2] => { results := [.lit (.bool false)], args := [d1, d2] }
  | _ => none }
def FnExactConsImplyWrongFalsely : Prop := fnExactConsImplyRow.holds Try.pinned (OpenSpec.ofChange fnExactConsImplyWrong)

/-- 'laws.FnExactConsSigns': WHATEVER THE INPUT: true; the input reads as it did. -/
def fnExactConsSignsSpec : ChangeSpec := { name := "fnExactConsSigns", fn := fun _ => fun
  | [d] => { results := [.lit (.bool true)], args := [d] }
  | _ => none }
def fnExactConsSignsRow : OpenClaim := { program := "ytboogdkkcepifaa", sum := "fd089c67a8983b01207604a8ec1af7c51b410fa9fe273a8ab104bc55ae98d755", func := "loop.example/g00744/laws.FnExactConsSigns", spec := "fnExactConsSigns", inPlace := ["sync/atomic.AddInt64"], unfollowed := true, recurses := true, apart := false }
def FnExactConsSignsSaid : Prop := fnExactConsSignsRow.holds Try.pinned (OpenSpec.ofChange fnExactConsSignsSpec)

/-- ITS FALSE NEIGHBOUR: 'it returns false'. Refute it at one input. -/
def fnExactConsSignsWrong : ChangeSpec := { name := "fnExactConsSigns", fn := fun _ => fun
  | [d] => { results := [.lit (.bool false)], args := [d] }
  | _ => none }
def FnExactConsSignsWrongFalsely : Prop := fnExactConsSignsRow.holds Try.pinned (OpenSpec.ofChange fnExactConsSignsWrong)

/-- 'laws.FnExactConsCore': WHATEVER THE INPUT: true; the input reads as it did. -/
def fnExactConsCoreSpec : ChangeSpec := { name := "fnExactConsCore", fn := fun _ => fun
  | [d] => { results := [.lit (.bool true)], args := [d] }
  | _ => none }
def fnExactConsCoreRow : OpenClaim := { program := "ytboogdkkcepifaa", sum := "fd089c67a8983b01207604a8ec1af7c51b410fa9fe273a8ab104bc55ae98d755", func := "loop.example/g00744/laws.FnExactConsCore", spec := "fnExactConsCore", inPlace := ["sync/atomic.AddInt64"], unfollowed := true, recurses := true, apart := false }
def FnExactConsCoreSaid : Prop := fnExactConsCoreRow.holds Try.pinned (OpenSpec.ofChange fnExactConsCoreSpec)

/-- ITS FALSE NEIGHBOUR: 'it returns false'. Refute it at one input. -/
def fnExactConsCoreWrong : ChangeSpec := { name := "fnExactConsCore", fn := fun _ => fun
  | [d] => { results := [.lit (.bool false)], args := [d] }
  | _ => none }
def FnExactConsCoreWrongFalsely : Prop := fnExactConsCoreRow.holds Try.pinned (OpenSpec.ofChange fnExactConsCoreWrong)

/-- 'laws.FnExactConsThin': WHATEVER THE INPUT: true; the input reads as it did. -/
def fnExactConsThinSpec : ChangeSpec := { name := "fnExactConsThin", fn := fun _ => fun
  | [d] => { results := [.lit (.bool true)], args := [d] }
  | _ => none }
def fnExactConsThinRow : OpenClaim := { program := "ytboogdkkcepifaa", sum := "fd089c67a8983b01207604a8ec1af7c51b410fa9fe273a8ab104bc55ae98d755", func := "loop.example/g00744/laws.FnExactConsThin", spec := "fnExactConsThin", inPlace := ["sync/atomic.AddInt64"], unfollowed := true, recurses := true, apart := false }
def FnExactConsThinSaid : Prop := fnExactConsThinRow.holds Try.pinned (OpenSpec.ofChange fnExactConsThinSpec)

/-- ITS FALSE NEIGHBOUR: 'it returns false'. Refute it at one input. -/
def fnExactConsThinWrong : ChangeSpec := { name := "fnExactConsThin", fn := fun _ => fun
  | [d] => { results := [.lit (.bool false)], args := [d] }
  | _ => none }
def FnExactConsThinWrongFalsely : Prop := fnExactConsThinRow.holds Try.pinned (OpenSpec.ofChange fnExactConsThinWrong)

/- THE SECOND FORM. 'bulk': how many values and letters a reading holds, each counted each time it is reached (what is shared counts as often as it is met; a slice's spare places count too). A statement '..UptoSaid' is the law's where the arguments, and the package variables that the reading takes, are together of bulk at most 1048576: NARROWER than '..Said'. Prove '..Said' where nothing that the law and all that it calls make is longer than what came in: it says more and counts as full. Else prove '..UptoSaid'. A law counts once. -/
mutual
def uptoBulk {H : Type} : DataW H → Nat
  | .lit (.string bytes) => bytes.length + 1
  | .lit _ => 1
  | .nil => 1
  | .ptr d => uptoBulk d + 1
  | .slice elems spare => uptoBulkAll elems + uptoBulkAll spare + 1
  | .agg parts => uptoBulkAll parts + 1
  | .iface _ d => uptoBulk d + 1
  | .map entries => uptoBulkEntries entries + 1
  | .held _ => 1
def uptoBulkAll {H : Type} : List (DataW H) → Nat
  | [] => 0
  | d :: r => uptoBulk d + uptoBulkAll r
def uptoBulkEntries {H : Type} : List (Lit × DataW H) → Nat
  | [] => 0
  | x :: r => uptoBulkEntry x + uptoBulkEntries r
def uptoBulkEntry {H : Type} : Lit × DataW H → Nat
  | (.string bytes, d) => bytes.length + uptoBulk d + 1
  | (_, d) => uptoBulk d + 1
 end
def uptoSmall : (H : Type) → List (DataW H) → Bool := fun _ ds => decide (uptoBulkAll ds ≤ 1048576)
def OpenSpec.upto (s : _root_.Go.ChangeSpec) : _root_.Go.OpenSpec := { _root_.Go.OpenSpec.ofChange s with cond := some uptoSmall }

/-- 'laws.FnLeast', WHERE WHAT IT READS IS OF BULK AT MOST 1048576: true; the input reads as it did. -/
def fnLeastUptoRow : OpenClaim := { program := "ytboogdkkcepifaa", sum := "fd089c67a8983b01207604a8ec1af7c51b410fa9fe273a8ab104bc55ae98d755", func := "loop.example/g00744/laws.FnLeast", spec := "fnLeast", inPlace := ["sync/atomic.AddInt64"], unfollowed := true, recurses := true, apart := false, narrowed := true }
def FnLeastUptoSaid : Prop := fnLeastUptoRow.holds Try.pinned (OpenSpec.upto fnLeastSpec)

/-- 'laws.FnFar', WHERE WHAT IT READS IS OF BULK AT MOST 1048576: true; the input reads as it did. -/
def fnFarUptoRow : OpenClaim := { program := "ytboogdkkcepifaa", sum := "fd089c67a8983b01207604a8ec1af7c51b410fa9fe273a8ab104bc55ae98d755", func := "loop.example/g00744/laws.FnFar", spec := "fnFar", inPlace := ["sync/atomic.AddInt64"], apart := false, narrowed := true }
def FnFarUptoSaid : Prop := fnFarUptoRow.holds Try.pinned (OpenSpec.upto fnFarSpec)

/-- 'laws.FnThin', WHERE WHAT IT READS IS OF BULK AT MOST 1048576: true; the input reads as it did. -/
def fnThinUptoRow : OpenClaim := { program := "ytboogdkkcepifaa", sum := "fd089c67a8983b01207604a8ec1af7c51b410fa9fe273a8ab104bc55ae98d755", func := "loop.example/g00744/laws.FnThin", spec := "fnThin", inPlace := ["sync/atomic.AddInt64"], unfollowed := true, recurses := true, apart := false, narrowed := true }
def FnThinUptoSaid : Prop := fnThinUptoRow.holds Try.pinned (OpenSpec.upto fnThinSpec)

/-- 'laws.FnExactConOk', WHERE WHAT IT READS IS OF BULK AT MOST 1048576: true; the input reads as it did. -/
def fnExactConOkUptoRow : OpenClaim := { program := "ytboogdkkcepifaa", sum := "fd089c67a8983b01207604a8ec1af7c51b410fa9fe273a8ab104bc55ae98d755", func := "loop.example/g00744/laws.FnExactConOk", spec := "fnExactConOk", apart := false, narrowed := true }
def FnExactConOkUptoSaid : Prop := fnExactConOkUptoRow.holds Try.pinned (OpenSpec.upto fnExactConOkSpec)

/-- 'laws.FnExactConsOk', WHERE WHAT IT READS IS OF BULK AT MOST 1048576: true; the input reads as it did. -/
def fnExactConsOkUptoRow : OpenClaim := { program := "ytboogdkkcepifaa", sum := "fd089c67a8983b01207604a8ec1af7c51b410fa9fe273a8ab104bc55ae98d755", func := "loop.example/g00744/laws.FnExactConsOk", spec := "fnExactConsOk", apart := false, narrowed := true }
def FnExactConsOkUptoSaid : Prop := fnExactConsOkUptoRow.holds Try.pinned (OpenSpec.upto fnExactConsOkSpec)

/-- 'laws.FnExactConHolds', WHERE WHAT IT READS IS OF BULK AT MOST 1048576: true; the input reads as it did. -/
def fnExactConHoldsUptoRow : OpenClaim := { program := "ytboogdkkcepifaa", sum := "fd089c67a8983b01207604a8ec1af7c51b410fa9fe273a8ab104bc55ae98d755", func := "loop.example/g00744/laws.FnExactConHolds", spec := "fnExactConHolds", apart := false, narrowed := true }
def FnExactConHoldsUptoSaid : Prop := fnExactConHoldsUptoRow.holds Try.pinned (OpenSpec.upto fnExactConHoldsSpec)

/-- 'laws.FnExactConsHold', WHERE WHAT IT READS IS OF BULK AT MOST 1048576: true; the input reads as it did. -/
def fnExactConsHoldUptoRow : OpenClaim := { program := "ytboogdkkcepifaa", sum := "fd089c67a8983b01207604a8ec1af7c51b410fa9fe273a8ab104bc55ae98d755", func := "loop.example/g00744/laws.FnExactConsHold", spec := "fnExactConsHold", apart := false, narrowed := true }
def FnExactConsHoldUptoSaid : Prop := fnExactConsHoldUptoRow.holds Try.pinned (OpenSpec.upto fnExactConsHoldSpec)

/-- 'laws.FnExactConsSat', WHERE WHAT IT READS IS OF BULK AT MOST 1048576: true; the input reads as it did. -/
def fnExactConsSatUptoRow : OpenClaim := { program := "ytboogdkkcepifaa", sum := "fd089c67a8983b01207604a8ec1af7c51b410fa9fe273a8ab104bc55ae98d755", func := "loop.example/g00744/laws.FnExactConsSat", spec := "fnExactConsSat", inPlace := ["sync/atomic.AddInt64"], apart := false, narrowed := true }
def FnExactConsSatUptoSaid : Prop := fnExactConsSatUptoRow.holds Try.pinned (OpenSpec.upto fnExactConsSatSpec)

/-- 'laws.FnExactConsLeast', WHERE WHAT IT READS IS OF BULK AT MOST 1048576: true; the input reads as it did. -/
def fnExactConsLeastUptoRow : OpenClaim := { program := "ytboogdkkcepifaa", sum := "fd089c67a8983b01207604a8ec1af7c51b410fa9fe273a8ab104bc55ae98d755", func := "loop.example/g00744/laws.FnExactConsLeast", spec := "fnExactConsLeast", inPlace := ["sync/atomic.AddInt64"], apart := false, narrowed := true }
def FnExactConsLeastUptoSaid : Prop := fnExactConsLeastUptoRow.holds Try.pinned (OpenSpec.upto fnExactConsLeastSpec)

/-- 'laws.FnExactConsFar', WHERE WHAT IT READS IS OF BULK AT MOST 1048576: true; the input reads as it did. -/
def fnExactConsFarUptoRow : OpenClaim := { program := "ytboogdkkcepifaa", sum := "fd089c67a8983b01207604a8ec1af7c51b410fa9fe273a8ab104bc55ae98d755", func := "loop.example/g00744/laws.FnExactConsFar", spec := "fnExactConsFar", inPlace := ["sync/atomic.AddInt64"], apart := false, narrowed := true }
def FnExactConsFarUptoSaid : Prop := fnExactConsFarUptoRow.holds Try.pinned (OpenSpec.upto fnExactConsFarSpec)

/-- 'laws.FnExactConsImply', WHERE WHAT IT READS IS OF BULK AT MOST 1048576: true; the input reads as it did. -/
def fnExactConsImplyUptoRow : OpenClaim := { program := "ytboogdkkcepifaa", sum := "fd089c67a8983b01207604a8ec1af7c51b410fa9fe273a8ab104bc55ae98d755", func := "loop.example/g00744/laws.FnExactConsImply", spec := "fnExactConsImply", inPlace := ["sync/atomic.AddInt64"], apart := false, narrowed := true }
def FnExactConsImplyUptoSaid : Prop := fnExactConsImplyUptoRow.holds Try.pinned (OpenSpec.upto fnExactConsImplySpec)

/-- 'laws.FnExactConsSigns', WHERE WHAT IT READS IS OF BULK AT MOST 1048576: true; the input reads as it did. -/
def fnExactConsSignsUptoRow : OpenClaim := { program := "ytboogdkkcepifaa", sum := "fd089c67a8983b01207604a8ec1af7c51b410fa9fe273a8ab104bc55ae98d755", func := "loop.example/g00744/laws.FnExactConsSigns", spec := "fnExactConsSigns", inPlace := ["sync/atomic.AddInt64"], unfollowed := true, recurses := true, apart := false, narrowed := true }
def FnExactConsSignsUptoSaid : Prop := fnExactConsSignsUptoRow.holds Try.pinned (OpenSpec.upto fnExactConsSignsSpec)

/-- 'laws.FnExactConsCore', WHERE WHAT IT READS IS OF BULK AT MOST 1048576: true; the input reads as it did. -/
def fnExactConsCoreUptoRow : OpenClaim := { program := "ytboogdkkcepifaa", sum := "fd089c67a8983b01207604a8ec1af7c51b410fa9fe273a8ab104bc55ae98d755", func := "loop.example/g00744/laws.FnExactConsCore", spec := "fnExactConsCore", inPlace := ["sync/atomic.AddInt64"], unfollowed := true, recurses := true, apart := false, narrowed := true }
def FnExactConsCoreUptoSaid : Prop := fnExactConsCoreUptoRow.holds Try.pinned (OpenSpec.upto fnExactConsCoreSpec)

/-- 'laws.FnExactConsThin', WHERE WHAT IT READS IS OF BULK AT MOST 1048576: true; the input reads as it did. -/
def fnExactConsThinUptoRow : OpenClaim := { program := "ytboogdkkcepifaa", sum := "fd089c67a8983b01207604a8ec1af7c51b410fa9fe273a8ab104bc55ae98d755", func := "loop.example/g00744/laws.FnExactConsThin", spec := "fnExactConsThin", inPlace := ["sync/atomic.AddInt64"], unfollowed := true, recurses := true, apart := false, narrowed := true }
def FnExactConsThinUptoSaid : Prop := fnExactConsThinUptoRow.holds Try.pinned (OpenSpec.upto fnExactConsThinSpec)

end Rows
end Go.Proofs.Ytboogdkkcepifaa
