/-
  No cell of these rows narrows 'for every input' (looked for: loops, veiled, ifaces, maps, wideKeys, modest, calm, conditions, laid).
  DERIVED. THE GIVEN ROWS OF THIS SEAT. 4 by the template 'for every input the law returns true; each argument reads behind the call as it read before'; 0 by the template 'total and deterministic' (their statements: YtfmhmnpmdjpmeaaTotals.lean).
  GIVEN WITH THE SEED: the statements are not yours to turn. If you find one false, say at which input.
  Laid BY PROGRAM, IN A SANDBOX (cutbox-rows.mjs): the forced cells as the released guide's own fill.sh prints them over the translation ef28ce53fb45056e… (all of the seat's roots in one cut). By AI agents, Wed Nov 11 2026. No macro, syntax, notation, axiom, sorry.
-/
import Derived.Test.YtfmhmnpmdjpmeaaChecked
import GoSem.Claim
import GoSem.ClaimJoined
import GoSem.ClaimMapViews
import Derived.JoinedTies
import Derived.KernelRfl
namespace Go.Proofs.Ytfmhmnpmdjpmeaa
/- THE CELL 'sum', in the pinned program and in every row, IS THE sha256 OF THE DUMP (.gsa) THAT YtfmhmnpmdjpmeaaProg.lean LOADS. Nothing in Lean hashes anything: it is a label: what it is worth is what the hold of that sum in a sandbox is worth. -/
noncomputable def Try.pinned : Pinned := { name := "ytfmhmnpmdjpmeaa", sum := "ef28ce53fb45056e477059d57239ddcf9e5572a1c539edbed025245ddf81c67a", checked := Try.checked }
namespace Rows
def none {H : Type} : Left H := { results := [], args := [] }

/-- 'laws.FnExactArenaKeep': WHATEVER THE INPUT: true; the input reads as it did. -/
def fnExactArenaKeepSpec : ChangeSpec := { name := "fnExactArenaKeep", fn := fun _ => fun
  | [d1, d2] => { results := [.lit (.bool true)], args := [d1, d2] }
  | _ => none }
def fnExactArenaKeepRow : OpenClaim := { program := "ytfmhmnpmdjpmeaa", sum := "ef28ce53fb45056e477059d57239ddcf9e5572a1c539edbed025245ddf81c67a", func := "loop.example/g00744/laws.FnExactArenaKeep", spec := "fnExactArenaKeep", plainKeys := false, apart := false }
def FnExactArenaKeepSaid : Prop := fnExactArenaKeepRow.holds Try.pinned (OpenSpec.ofChange fnExactArenaKeepSpec)

/-- ITS FALSE NEIGHBOUR: 'it returns false'. Refute it at one input. -/
def fnExactArenaKeepWrong : ChangeSpec := { name := "fnExactArenaKeep", fn := fun _ => fun
  | [d1, d2] => { results := [.lit (.bool false)], args := [d1, d2] }
  | _ => none }
def FnExactArenaKeepWrongFalsely : Prop := fnExactArenaKeepRow.holds Try.pinned (OpenSpec.ofChange fnExactArenaKeepWrong)

/-- 'laws.FnExactSessOk': WHATEVER THE INPUT: true; the input reads as it did. -/
def fnExactSessOkSpec : ChangeSpec := { name := "fnExactSessOk", fn := fun _ => fun
  | [d] => { results := [.lit (.bool true)], args := [d] }
  | _ => none }
def fnExactSessOkRow : OpenClaim := { program := "ytfmhmnpmdjpmeaa", sum := "ef28ce53fb45056e477059d57239ddcf9e5572a1c539edbed025245ddf81c67a", func := "loop.example/g00744/laws.FnExactSessOk", spec := "fnExactSessOk", inPlace := ["sync/atomic.AddInt64"], recurses := true, plainKeys := false, apart := false }
def FnExactSessOkSaid : Prop := fnExactSessOkRow.holds Try.pinned (OpenSpec.ofChange fnExactSessOkSpec)

/-- ITS FALSE NEIGHBOUR: 'it returns false'. Refute it at one input. -/
def fnExactSessOkWrong : ChangeSpec := { name := "fnExactSessOk", fn := fun _ => fun
  | [d] => { results := [.lit (.bool false)], args := [d] }
  | _ => none }
def FnExactSessOkWrongFalsely : Prop := fnExactSessOkRow.holds Try.pinned (OpenSpec.ofChange fnExactSessOkWrong)

/-- 'laws.FnExactSessLive': WHATEVER THE INPUT: true; the input reads as it did. -/
def fnExactSessLiveSpec : ChangeSpec := { name := "fnExactSessLive", fn := fun _ => fun
  | [d] => { results := [.lit (.bool true)], args := [d] }
  | _ => none }
def fnExactSessLiveRow : OpenClaim := { program := "ytfmhmnpmdjpmeaa", sum := "ef28ce53fb45056e477059d57239ddcf9e5572a1c539edbed025245ddf81c67a", func := "loop.example/g00744/laws.FnExactSessLive", spec := "fnExactSessLive", inPlace := ["sync/atomic.AddInt64"], recurses := true, plainKeys := false, apart := false }
def FnExactSessLiveSaid : Prop := fnExactSessLiveRow.holds Try.pinned (OpenSpec.ofChange fnExactSessLiveSpec)

/-- ITS FALSE NEIGHBOUR: 'it returns false'. Refute it at one input. -/
def fnExactSessLiveWrong : ChangeSpec := { name := "fnExactSessLive", fn := fun _ => fun
  | [d] => { results := [.lit (.bool false)], args := [d] }
  | _ => none }
def FnExactSessLiveWrongFalsely : Prop := fnExactSessLiveRow.holds Try.pinned (OpenSpec.ofChange fnExactSessLiveWrong)

/-- 'laws.FnExactSessCons': WHATEVER THE INPUT: true; the input reads as it did. -/
def fnExactSessConsSpec : ChangeSpec := { name := "fnExactSessCons", fn := fun _ => fun
  | [d] => { results := [.lit (.bool true)], args := [d] }
  | _ => none }
def fnExactSessConsRow : OpenClaim := { program := "ytfmhmnpmdjpmeaa", sum := "ef28ce53fb45056e477059d57239ddcf9e5572a1c539edbed025245ddf81c67a", func := "loop.example/g00744/laws.FnExactSessCons", spec := "fnExactSessCons", inPlace := ["sync/atomic.AddInt64"], recurses := true, plainKeys := false, apart := false }
def FnExactSessConsSaid : Prop := fnExactSessConsRow.holds Try.pinned (OpenSpec.ofChange fnExactSessConsSpec)

/-- ITS FALSE NEIGHBOUR: 'it returns false'. Refute it at one input. -/
def fnExactSessConsWrong : ChangeSpec := { name := "fnExactSessCons", fn := fun _ => fun
  | [d] => { results := [.lit (.bool false)], args := [d] }
  | _ => none }
def FnExactSessConsWrongFalsely : Prop := fnExactSessConsRow.holds Try.pinned (OpenSpec.ofChange fnExactSessConsWrong)

/- THE SECOND FORM. 'bulk': how many values and letters a reading holds, each counted each time it is reached (what is shared counts as often as it is met; a slice's spare places count too). A statement '..UptoSaid' is the law's where the arguments, and the package variables that the reading takes, are together of bulk at most 1048576: NARROWER than '..Said'. Prove '..Said' where nothing that the law and all that it calls make is longer than what came in: it says more and counts as full. Else prove '..UptoSaid'. A law counts once. -/
mutual
def uptoBulk {H : Type} : DataW H → Nat
  | .lit (.string bytes) => bytes.length + 1
  | .lit _ => 1
  | .nil => 1
  | .ptr d => uptoBulk d + 1
  | .slice elems spare => uptoBulkAll elems + uptoBulkAll spare + 1
  | .agg parts => uptoBulkAll parts + 1
  | .iface _ d => uptoBulk d + 1
  | .map entries => uptoBulkEntries entries + 1
  | .held _ => 1
def uptoBulkAll {H : Type} : List (DataW H) → Nat
  | [] => 0
  | d :: r => uptoBulk d + uptoBulkAll r
def uptoBulkEntries {H : Type} : List (Lit × DataW H) → Nat
  | [] => 0
  | x :: r => uptoBulkEntry x + uptoBulkEntries r
def uptoBulkEntry {H : Type} : Lit × DataW H → Nat
  | (.string bytes, d) => bytes.length + uptoBulk d + 1
  | (_, d) => uptoBulk d + 1
 end
def uptoSmall : (H : Type) → List (DataW H) → Bool := fun _ ds => decide (uptoBulkAll ds ≤ 1048576)
def OpenSpec.upto (s : _root_.Go.ChangeSpec) : _root_.Go.OpenSpec := { _root_.Go.OpenSpec.ofChange s with cond := some uptoSmall }

/-- 'laws.FnExactArenaKeep', WHERE WHAT IT READS IS OF BULK AT MOST 1048576: true; the input reads as it did. -/
def fnExactArenaKeepUptoRow : OpenClaim := { program := "ytfmhmnpmdjpmeaa", sum := "ef28ce53fb45056e477059d57239ddcf9e5572a1c539edbed025245ddf81c67a", func := "loop.example/g00744/laws.FnExactArenaKeep", spec := "fnExactArenaKeep", plainKeys := false, apart := false, narrowed := true }
def FnExactArenaKeepUptoSaid : Prop := fnExactArenaKeepUptoRow.holds Try.pinned (OpenSpec.upto fnExactArenaKeepSpec)

/-- 'laws.FnExactSessOk', WHERE WHAT IT READS IS OF BULK AT MOST 1048576: true; the input reads as it did. -/
def fnExactSessOkUptoRow : OpenClaim := { program := "ytfmhmnpmdjpmeaa", sum := "ef28ce53fb45056e477059d57239ddcf9e5572a1c539edbed025245ddf81c67a", func := "loop.example/g00744/laws.FnExactSessOk", spec := "fnExactSessOk", inPlace := ["sync/atomic.AddInt64"], recurses := true, plainKeys := false, apart := false, narrowed := true }
def FnExactSessOkUptoSaid : Prop := fnExactSessOkUptoRow.holds Try.pinned (OpenSpec.upto fnExactSessOkSpec)

/-- 'laws.FnExactSessLive', WHERE WHAT IT READS IS OF BULK AT MOST 1048576: true; the input reads as it did. -/
def fnExactSessLiveUptoRow : OpenClaim := { program := "ytfmhmnpmdjpmeaa", sum := "ef28ce53fb45056e477059d57239ddcf9e5572a1c539edbed025245ddf81c67a", func := "loop.example/g00744/laws.FnExactSessLive", spec := "fnExactSessLive", inPlace := ["sync/atomic.AddInt64"], recurses := true, plainKeys := false, apart := false, narrowed := true }
def FnExactSessLiveUptoSaid : Prop := fnExactSessLiveUptoRow.holds Try.pinned (OpenSpec.upto fnExactSessLiveSpec)

/-- 'laws.FnExactSessCons', WHERE WHAT IT READS IS OF BULK AT MOST 1048576: true; the input reads as it did. -/
def fnExactSessConsUptoRow : OpenClaim := { program := "ytfmhmnpmdjpmeaa", sum := "ef28ce53fb45056e477059d57239ddcf9e5572a1c539edbed025245ddf81c67a", func := "loop.example/g00744/laws.FnExactSessCons", spec := "fnExactSessCons", inPlace := ["sync/atomic.AddInt64"], recurses := true, plainKeys := false, apart := false, narrowed := true }
def FnExactSessConsUptoSaid : Prop := fnExactSessConsUptoRow.holds Try.pinned (OpenSpec.upto fnExactSessConsSpec)

end Rows
end Go.Proofs.Ytfmhmnpmdjpmeaa
