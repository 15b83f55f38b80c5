/-
  No cell of these rows narrows 'for every input' (looked for: loops, veiled, ifaces, maps, wideKeys, modest, calm, conditions, laid).
  DERIVED. THE GIVEN ROWS OF THIS SEAT. 6 by the template 'for every input the law returns true; each argument reads behind the call as it read before'; 0 by the template 'total and deterministic' (their statements: YtmmhcpigcdlnmaaTotals.lean).
  GIVEN WITH THE SEED: the statements are not yours to turn. If you find one false, say at which input.
  Laid BY PROGRAM, IN A SANDBOX (cutbox-rows.mjs): the forced cells as the released guide's own fill.sh prints them over the translation a14fdbe5a1e3b0ec… (all of the seat's roots in one cut). By AI agents, Wed Nov 11 2026. No macro, syntax, notation, axiom, sorry.
-/
import Derived.Test.YtmmhcpigcdlnmaaChecked
import GoSem.Claim
import GoSem.ClaimJoined
import GoSem.ClaimMapViews
import Derived.JoinedTies
import Derived.KernelRfl
namespace Go.Proofs.Ytmmhcpigcdlnmaa
/- THE CELL 'sum', in the pinned program and in every row, IS THE sha256 OF THE DUMP (.gsa) THAT YtmmhcpigcdlnmaaProg.lean LOADS. Nothing in Lean hashes anything: it is a label: what it is worth is what the hold of that sum in a sandbox is worth. -/
noncomputable def Try.pinned : Pinned := { name := "ytmmhcpigcdlnmaa", sum := "a14fdbe5a1e3b0ec15cdeee39744e6b31a396924d9112a04cbe3935dee01a523", checked := Try.checked }
namespace Rows
def none {H : Type} : Left H := { results := [], args := [] }

/-- 'laws.FnLeast': WHATEVER THE INPUT: true; the input reads as it did. -/
def fnLeastSpec : ChangeSpec := { name := "fnLeast", fn := fun _ => fun
  | [d] => { results := [.lit (.bool true)], args := [d] }
  | _ => none }
def fnLeastRow : OpenClaim := { program := "ytmmhcpigcdlnmaa", sum := "a14fdbe5a1e3b0ec15cdeee39744e6b31a396924d9112a04cbe3935dee01a523", func := "loop.example/g00744/laws.FnLeast", spec := "fnLeast", inPlace := ["sync/atomic.AddInt64"], unfollowed := true, recurses := true, apart := false }
def FnLeastSaid : Prop := fnLeastRow.holds Try.pinned (OpenSpec.ofChange fnLeastSpec)

/-- ITS FALSE NEIGHBOUR: 'it returns false'. Refute it at one input. -/
def fnLeastWrong : ChangeSpec := { name := "fnLeast", fn := fun _ => fun
  | [d] => { results := [.lit (.bool false)], args := [d] }
  | _ => none }
def FnLeastWrongFalsely : Prop := fnLeastRow.holds Try.pinned (OpenSpec.ofChange fnLeastWrong)

/-- 'laws.FnFar': WHATEVER THE INPUT: true; the input reads as it did. -/
def fnFarSpec : ChangeSpec := { name := "fnFar", fn := fun _ => fun
  | [d] => { results := [.lit (.bool true)], args := [d] }
  | _ => none }
def fnFarRow : OpenClaim := { program := "ytmmhcpigcdlnmaa", sum := "a14fdbe5a1e3b0ec15cdeee39744e6b31a396924d9112a04cbe3935dee01a523", func := "loop.example/g00744/laws.FnFar", spec := "fnFar", inPlace := ["sync/atomic.AddInt64"], apart := false }
def FnFarSaid : Prop := fnFarRow.holds Try.pinned (OpenSpec.ofChange fnFarSpec)

/-- ITS FALSE NEIGHBOUR: 'it returns false'. Refute it at one input. -/
def fnFarWrong : ChangeSpec := { name := "fnFar", fn := fun _ => fun
  | [d] => { results := [.lit (.bool false)], args := [d] }
  | _ => none }
def FnFarWrongFalsely : Prop := fnFarRow.holds Try.pinned (OpenSpec.ofChange fnFarWrong)

/-- 'laws.FnThin': WHATEVER THE INPUT: true; the input reads as it did. -/
def fnThinSpec : ChangeSpec := { name := "fnThin", fn := fun _ => fun
  | [d] => { results := [.lit (.bool true)], args := [d] }
  | _ => none }
def fnThinRow : OpenClaim := { program := "ytmmhcpigcdlnmaa", sum := "a14fdbe5a1e3b0ec15cdeee39744e6b31a396924d9112a04cbe3935dee01a523", func := "loop.example/g00744/laws.FnThin", spec := "fnThin", inPlace := ["sync/atomic.AddInt64"], unfollowed := true, recurses := true, apart := false }
def FnThinSaid : Prop := fnThinRow.holds Try.pinned (OpenSpec.ofChange fnThinSpec)

/-- ITS FALSE NEIGHBOUR: 'it returns false'. Refute it at one input. -/
def fnThinWrong : ChangeSpec := { name := "fnThin", fn := fun _ => fun
  | [d] => { results := [.lit (.bool false)], args := [d] }
  | _ => none }
def FnThinWrongFalsely : Prop := fnThinRow.holds Try.pinned (OpenSpec.ofChange fnThinWrong)

/-- 'laws.FnSigns': WHATEVER THE INPUT: true; the input reads as it did. -/
def fnSignsSpec : ChangeSpec := { name := "fnSigns", fn := fun _ => fun
  | [d] => { results := [.lit (.bool true)], args := [d] }
  | _ => none }
def fnSignsRow : OpenClaim := { program := "ytmmhcpigcdlnmaa", sum := "a14fdbe5a1e3b0ec15cdeee39744e6b31a396924d9112a04cbe3935dee01a523", func := "loop.example/g00744/laws.FnSigns", spec := "fnSigns", inPlace := ["sync/atomic.AddInt64"], unfollowed := true, recurses := true, apart := false }
def FnSignsSaid : Prop := fnSignsRow.holds Try.pinned (OpenSpec.ofChange fnSignsSpec)

/-- ITS FALSE NEIGHBOUR: 'it returns false'. Refute it at one input. -/
def fnSignsWrong : ChangeSpec := { name := "fnSigns", fn := fun _ => fun
  | [d] => { results := [.lit (.bool false)], args := [d] }
  | _ => none }
def FnSignsWrongFalsely : Prop := fnSignsRow.holds Try.pinned (OpenSpec.ofChange fnSignsWrong)

/-- 'laws.FnExactSignEnv': WHATEVER THE INPUT: true; the input reads as it did. -/
def fnExactSignEnvSpec : ChangeSpec := { name := "fnExactSignEnv", fn := fun _ => fun
  | [d1, d2] => { results := [.lit (.bool true)], args := [d1, d2] }
  | _ => none }
def fnExactSignEnvRow : OpenClaim := { program := "ytmmhcpigcdlnmaa", sum := "a14fdbe5a1e3b0ec15cdeee39744e6b31a396924d9112a04cbe3935dee01a523", func := "loop.example/g00744/laws.FnExactSignEnv", spec := "fnExactSignEnv", inPlace := ["sync/atomic.AddInt64"], apart := false }
def FnExactSignEnvSaid : Prop := fnExactSignEnvRow.holds Try.pinned (OpenSpec.ofChange fnExactSignEnvSpec)

/-- ITS FALSE NEIGHBOUR: 'it returns false'. Refute it at one input. -/
def fnExactSignEnvWrong : ChangeSpec := { name := "fnExactSignEnv", fn := fun _ => fun
  | [d1, d2] => { results := [.lit (.bool false)], args := [d1, d2] }
  | _ => none }
def FnExactSignEnvWrongFalsely : Prop := fnExactSignEnvRow.holds Try.pinned (OpenSpec.ofChange fnExactSignEnvWrong)

/-- 'laws.FnExactAtomUnder': WHATEVER THE INPUT: true; the input reads as it did. -/
def fnExactAtomUnderSpec : ChangeSpec := { name := "fnExactAtomUnder", fn := fun _ => fun
  | [d1, d2, d3, d4] => { results := [.lit (.bool true)], args := [d1, d2, d3, d4] }
  | _ => none }
def fnExactAtomUnderRow : OpenClaim := { program := "ytmmhcpigcdlnmaa", sum := "a14fdbe5a1e3b0ec15cdeee39744e6b31a396924d9112a04cbe3935dee01a523", func := "loop.example/g00744/laws.FnExactAtomUnder", spec := "fnExactAtomUnder", inPlace := ["sync/atomic.AddInt64"], apart := false }
def FnExactAtomUnderSaid : Prop := fnExactAtomUnderRow.holds Try.pinned (OpenSpec.ofChange fnExactAtomUnderSpec)

/-- ITS FALSE NEIGHBOUR: 'it returns false'. Refute it at one input. -/
def fnExactAtomUnderWrong : ChangeSpec := { name := "fnExactAtomUnder", fn := fun _ => fun
  | [d1, d2, d3, d4] => { results := [.lit (.bool false)], args := [d1, d2, d3, d4] }
  | _ => none }
def FnExactAtomUnderWrongFalsely : Prop := fnExactAtomUnderRow.holds Try.pinned (OpenSpec.ofChange fnExactAtomUnderWrong)

/- THE SECOND FORM. 'bulk': how many values and letters a reading holds, each counted each time it is reached (what is shared counts as often as it is met; a slice's spare places count too). A statement '..UptoSaid' is the law's where the arguments, and the package variables that the reading takes, are together of bulk at most 1048576: NARROWER than '..Said'. Prove '..Said' where nothing that the law and all that it calls make is longer than what came in: it says more and counts as full. Else prove '..UptoSaid'. A law counts once. -/
mutual
def uptoBulk {H : Type} : DataW H → Nat
  | .lit (.string bytes) => bytes.length + 1
  | .lit _ => 1
  | .nil => 1
  | .ptr d => uptoBulk d + 1
  | .slice elems spare => uptoBulkAll elems + uptoBulkAll spare + 1
  | .agg parts => uptoBulkAll parts + 1
  | .iface _ d => uptoBulk d + 1
  | .map entries => uptoBulkEntries entries + 1
  | .held _ => 1
def uptoBulkAll {H : Type} : List (DataW H) → Nat
  | [] => 0
  | d :: r => uptoBulk d + uptoBulkAll r
def uptoBulkEntries {H : Type} : List (Lit × DataW H) → Nat
  | [] => 0
  | x :: r => uptoBulkEntry x + uptoBulkEntries r
def uptoBulkEntry {H : Type} : Lit × DataW H → Nat
  | (.string bytes, d) => bytes.length + uptoBulk d + 1
  | (_, d) => uptoBulk d + 1
 end
def uptoSmall : (H : Type) → List (DataW H) → Bool := fun _ ds => decide (uptoBulkAll ds ≤ 1048576)
def OpenSpec.upto (s : _root_.Go.ChangeSpec) : _root_.Go.OpenSpec := { _root_.Go.OpenSpec.ofChange s with cond := some uptoSmall }

/-- 'laws.FnLeast', WHERE WHAT IT READS IS OF BULK AT MOST 1048576: true; the input reads as it did. -/
def fnLeastUptoRow : OpenClaim := { program := "ytmmhcpigcdlnmaa", sum := "a14fdbe5a1e3b0ec15cdeee39744e6b31a396924d9112a04cbe3935dee01a523", func := "loop.example/g00744/laws.FnLeast", spec := "fnLeast", inPlace := ["sync/atomic.AddInt64"], unfollowed := true, recurses := true, apart := false, narrowed := true }
def FnLeastUptoSaid : Prop := fnLeastUptoRow.holds Try.pinned (OpenSpec.upto fnLeastSpec)

/-- 'laws.FnFar', WHERE WHAT IT READS IS OF BULK AT MOST 1048576: true; the input reads as it did. -/
def fnFarUptoRow : OpenClaim := { program := "ytmmhcpigcdlnmaa", sum := "a14fdbe5a1e3b0ec15cdeee39744e6b31a396924d9112a04cbe3935dee01a523", func := "loop.example/g00744/laws.FnFar", spec := "fnFar", inPlace := ["sync/atomic.AddInt64"], apart := false, narrowed := true }
def FnFarUptoSaid : Prop := fnFarUptoRow.holds Try.pinned (OpenSpec.upto fnFarSpec)

/-- 'laws.FnThin', WHERE WHAT IT READS IS OF BULK AT MOST 1048576: true; the input reads as it did. -/
def fnThinUptoRow : OpenClaim := { program := "ytmmhcpigcdlnmaa", sum := "a14fdbe5a1e3b0ec15cdeee39744e6b31a396924d9112a04cbe3935dee01a523", func := "loop.example/g00744/laws.FnThin", spec := "fnThin", inPlace := ["sync/atomic.AddInt64"], unfollowed := true, recurses := true, apart := false, narrowed := true }
def FnThinUptoSaid : Prop := fnThinUptoRow.holds Try.pinned (OpenSpec.upto fnThinSpec)

/-- 'laws.FnSigns', WHERE WHAT IT READS IS OF BULK AT MOST 1048576: true; the input reads as it did. -/
def fnSignsUptoRow : OpenClaim := { program := "ytmmhcpigcdlnmaa", sum := "a14fdbe5a1e3b0ec15cdeee39744e6b31a396924d9112a04cbe3935dee01a523", func := "loop.example/g00744/laws.FnSigns", spec := "fnSigns", inPlace := ["sync/atomic.AddInt64"], unfollowed := true, recurses := true, apart := false, narrowed := true }
def FnSignsUptoSaid : Prop := fnSignsUptoRow.holds Try.pinned (OpenSpec.upto fnSignsSpec)

/-- 'laws.FnExactSignEnv', WHERE WHAT IT READS IS OF BULK AT MOST 1048576: true; the input reads as it did. -/
def fnExactSignEnvUptoRow : OpenClaim := { program := "ytmmhcpigcdlnmaa", sum := "a14fdbe5a1e3b0ec15cdeee39744e6b31a396924d9112a04cbe3935dee01a523", func := "loop.example/g00744/laws.FnExactSignEnv", spec := "fnExactSignEnv", inPlace := ["sync/atomic.AddInt64"], apart := false, narrowed := true }
def FnExactSignEnvUptoSaid : Prop := fnExactSignEnvUptoRow.holds Try.pinned (OpenSpec.upto fnExactSignEnvSpec)

/-- 'laws.FnExactAtomUnder', WHERE WHAT IT READS IS OF BULK AT MOST 1048576: true; the input reads as it did. -/
def fnExactAtomUnderUptoRow : OpenClaim := { program := "ytmmhcpigcdlnmaa", sum := "a14fdbe5a1e3b0ec15cdeee39744e6b31a396924d9112a04cbe3935dee01a523", func := "loop.example/g00744/laws.FnExactAtomUnder", spec := "fnExactAtomUnder", inPlace := ["sync/atomic.AddInt64"], apart := false, narrowed := true }
def FnExactAtomUnderUptoSaid : Prop := fnExactAtomUnderUptoRow.holds Try.pinned (OpenSpec.upto fnExactAtomUnderSpec)

end Rows
end Go.Proofs.Ytmmhcpigcdlnmaa
