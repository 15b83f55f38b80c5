/-
  NARROWER THAN 'FOR EVERY INPUT', by the rows' own cells (each row's printed sentence says how): FnNormFree: ifaces, laid · FnOrder: ifaces, laid · FnJoinLe: ifaces, laid · FnImax: ifaces, laid · FnExactLevelLe: ifaces, laid · FnExactLevelLess: ifaces, laid · FnExactLevelEq: ifaces, laid · FnExactCounter: ifaces, laid · FnExactLevelIdle: ifaces, laid · FnExactLevelTrim: ifaces, laid · FnExactLevelConst: ifaces, laid.
  DERIVED. THE GIVEN ROWS OF THIS SEAT. 11 by the template 'for every input the law returns true; each argument reads behind the call as it read before'; 0 by the template 'total and deterministic' (their statements: YtghoofgfimeedaaDoorTotals.lean).
  GIVEN WITH THE SEED: the statements are not yours to turn. If you find one false, say at which input.
  Laid BY PROGRAM, IN A SANDBOX (cutbox-rows.mjs): the forced cells as the released guide's own fill.sh prints them over the translation b8dc748d59975f84… (all of the seat's roots in one cut). By AI agents, Wed Nov 11 2026. No macro, syntax, notation, axiom, sorry.
-/
import Derived.Test.YtghoofgfimeedaaDoorChecked
import GoSem.Claim
import GoSem.ClaimJoined
import GoSem.ClaimMapViews
import Derived.JoinedTies
import Derived.KernelRfl
namespace Go.Proofs.YtghoofgfimeedaaDoor
/- THE CELL 'sum', in the pinned program and in every row, IS THE sha256 OF THE DUMP (.gsa) THAT YtghoofgfimeedaaDoorProg.lean LOADS. Nothing in Lean hashes anything: it is a label: what it is worth is what the hold of that sum in a sandbox is worth. -/
noncomputable def Tryd.pinned : Pinned := { name := "ytghoofgfimeedaadoor", sum := "b8dc748d59975f8452dce2360fba81d7374522612fb2df51d1f1898a8403bb60", checked := Tryd.checked }
namespace Rows
def none {H : Type} : Left H := { results := [], args := [] }

/- WHAT THE LISTED PACKAGE-LEVEL VARIABLES READ AS WHEN THE CALL BEGINS. Each datum BY PROGRAM (the guide's laid-datum.mjs) off the statement by which the dump's own 'gosem.cut.vars' lays the variable. In a bare row this is a premise. The card (YtghoofgfimeedaaDoorCards.lean) ties it to the program's text. -/
def laid_loop_example_g00744_impl_errLevel {H : Type} : DataW H := .iface "*errors.errorString" (.ptr (.agg [.lit (.string [110, 111, 116, 32, 97, 32, 118, 97, 108, 105, 100, 32, 108, 101, 118, 101, 108])]))

/-- 'laws.FnNormFree': WHATEVER THE INPUT: true; the input reads as it did. -/
def fnNormFreeSpec : ChangeSpec := { name := "fnNormFree", vars := ["loop.example/g00744/impl.errLevel"], fn := fun _ => fun
  | [d, g1] => { results := [.lit (.bool true)], args := [d], vars := [g1] }
  | _ => none }
def fnNormFreeRow : OpenClaim := { program := "ytghoofgfimeedaadoor", sum := "b8dc748d59975f8452dce2360fba81d7374522612fb2df51d1f1898a8403bb60", func := "loop.example/g00744/laws.FnNormFree", spec := "fnNormFree", unfollowed := true, recurses := true, named := ["loop.example/g00744/impl.errLevel"], ifaces := true, apart := false, laid := [("loop.example/g00744/impl.errLevel", laid_loop_example_g00744_impl_errLevel)] }
def FnNormFreeSaid : Prop := fnNormFreeRow.holds Tryd.pinned (OpenSpec.ofChange fnNormFreeSpec)

/-- ITS FALSE NEIGHBOUR: 'it returns false'. Refute it at one input. -/
def fnNormFreeWrong : ChangeSpec := { name := "fnNormFree", vars := ["loop.example/g00744/impl.errLevel"], fn := fun _ => fun
  | [d, g1] => { results := [.lit (.bool false)], args := [d], vars := [g1] }
  | _ => none }
def FnNormFreeWrongFalsely : Prop := fnNormFreeRow.holds Tryd.pinned (OpenSpec.ofChange fnNormFreeWrong)

/-- 'laws.FnOrder': WHATEVER THE INPUT: true; the input reads as it did. -/
def fnOrderSpec : ChangeSpec := { name := "fnOrder", vars := ["loop.example/g00744/impl.errLevel"], fn := fun _ => fun
  | [d, g1] => { results := [.lit (.bool true)], args := [d], vars := [g1] }
  | _ => none }
def fnOrderRow : OpenClaim := { program := "ytghoofgfimeedaadoor", sum := "b8dc748d59975f8452dce2360fba81d7374522612fb2df51d1f1898a8403bb60", func := "loop.example/g00744/laws.FnOrder", spec := "fnOrder", unfollowed := true, recurses := true, named := ["loop.example/g00744/impl.errLevel"], ifaces := true, apart := false, laid := [("loop.example/g00744/impl.errLevel", laid_loop_example_g00744_impl_errLevel)] }
def FnOrderSaid : Prop := fnOrderRow.holds Tryd.pinned (OpenSpec.ofChange fnOrderSpec)

/-- ITS FALSE NEIGHBOUR: 'it returns false'. Refute it at one input. -/
def fnOrderWrong : ChangeSpec := { name := "fnOrder", vars := ["loop.example/g00744/impl.errLevel"], fn := fun _ => fun
  | [d, g1] => { results := [.lit (.bool false)], args := [d], vars := [g1] }
  | _ => none }
def FnOrderWrongFalsely : Prop := fnOrderRow.holds Tryd.pinned (OpenSpec.ofChange fnOrderWrong)

/-- 'laws.FnJoinLe': WHATEVER THE INPUT: true; the input reads as it did. -/
def fnJoinLeSpec : ChangeSpec := { name := "fnJoinLe", vars := ["loop.example/g00744/impl.errLevel"], fn := fun _ => fun
  | [d, g1] => { results := [.lit (.bool true)], args := [d], vars := [g1] }
  | _ => none }
def fnJoinLeRow : OpenClaim := { program := "ytghoofgfimeedaadoor", sum := "b8dc748d59975f8452dce2360fba81d7374522612fb2df51d1f1898a8403bb60", func := "loop.example/g00744/laws.FnJoinLe", spec := "fnJoinLe", unfollowed := true, recurses := true, named := ["loop.example/g00744/impl.errLevel"], ifaces := true, apart := false, laid := [("loop.example/g00744/impl.errLevel", laid_loop_example_g00744_impl_errLevel)] }
def FnJoinLeSaid : Prop := fnJoinLeRow.holds Tryd.pinned (OpenSpec.ofChange fnJoinLeSpec)

/-- ITS FALSE NEIGHBOUR: 'it returns false'. Refute it at one input. -/
def fnJoinLeWrong : ChangeSpec := { name := "fnJoinLe", vars := ["loop.example/g00744/impl.errLevel"], fn := fun _ => fun
  | [d, g1] => { results := [.lit (.bool false)], args := [d], vars := [g1] }
  | _ => none }
def FnJoinLeWrongFalsely : Prop := fnJoinLeRow.holds Tryd.pinned (OpenSpec.ofChange fnJoinLeWrong)

/-- 'laws.FnImax': WHATEVER THE INPUT: true; the input reads as it did. -/
def fnImaxSpec : ChangeSpec := { name := "fnImax", vars := ["loop.example/g00744/impl.errLevel"], fn := fun _ => fun
  | [d, g1] => { results := [.lit (.bool true)], args := [d], vars := [g1] }
  | _ => none }
def fnImaxRow : OpenClaim := { program := "ytghoofgfimeedaadoor", sum := "b8dc748d59975f8452dce2360fba81d7374522612fb2df51d1f1898a8403bb60", func := "loop.example/g00744/laws.FnImax", spec := "fnImax", unfollowed := true, recurses := true, named := ["loop.example/g00744/impl.errLevel"], ifaces := true, apart := false, laid := [("loop.example/g00744/impl.errLevel", laid_loop_example_g00744_impl_errLevel)] }
def FnImaxSaid : Prop := fnImaxRow.holds Tryd.pinned (OpenSpec.ofChange fnImaxSpec)

/-- ITS FALSE NEIGHBOUR: 'it returns false'. Refute it at one input. -/
def fnImaxWrong : ChangeSpec := { name := "fnImax", vars := ["loop.example/g00744/impl.errLevel"], fn := fun _ => fun
  | [d, g1] => { results := [.lit (.bool false)], args := [d], vars := [g1] }
  | _ => none }
def FnImaxWrongFalsely : Prop := fnImaxRow.holds Tryd.pinned (OpenSpec.ofChange fnImaxWrong)

/-- 'laws.FnExactLevelLe': WHATEVER THE INPUT: true; the input reads as it did. -/
def fnExactLevelLeSpec : ChangeSpec := { name := "fnExactLevelLe", vars := ["loop.example/g00744/impl.errLevel"], fn := fun _ => fun
  | [d1, d2, g1] => { results := [.lit (.bool true)], args := [d1, d2], vars := [g1] }
  | _ => none }
def fnExactLevelLeRow : OpenClaim := { program := "ytghoofgfimeedaadoor", sum := "b8dc748d59975f8452dce2360fba81d7374522612fb2df51d1f1898a8403bb60", func := "loop.example/g00744/laws.FnExactLevelLe", spec := "fnExactLevelLe", unfollowed := true, recurses := true, named := ["loop.example/g00744/impl.errLevel"], ifaces := true, apart := false, laid := [("loop.example/g00744/impl.errLevel", laid_loop_example_g00744_impl_errLevel)] }
def FnExactLevelLeSaid : Prop := fnExactLevelLeRow.holds Tryd.pinned (OpenSpec.ofChange fnExactLevelLeSpec)

/-- ITS FALSE NEIGHBOUR: 'it returns false'. Refute it at one input. -/
def fnExactLevelLeWrong : ChangeSpec := { name := "fnExactLevelLe", vars := ["loop.example/g00744/impl.errLevel"], fn := fun _ => fun
  | [d1, d2, g1] => { results := [.lit (.bool false)], args := [d1, d2], vars := [g1] }
  | _ => none }
def FnExactLevelLeWrongFalsely : Prop := fnExactLevelLeRow.holds Tryd.pinned (OpenSpec.ofChange fnExactLevelLeWrong)

/-- 'laws.FnExactLevelLess': WHATEVER THE INPUT: true; the input reads as it did. -/
def fnExactLevelLessSpec : ChangeSpec := { name := "fnExactLevelLess", vars := ["loop.example/g00744/impl.errLevel"], fn := fun _ => fun
  | [d1, d2, g1] => { results := [.lit (.bool true)], args := [d1, d2], vars := [g1] }
  | _ => none }
def fnExactLevelLessRow : OpenClaim := { program := "ytghoofgfimeedaadoor", sum := "b8dc748d59975f8452dce2360fba81d7374522612fb2df51d1f1898a8403bb60", func := "loop.example/g00744/laws.FnExactLevelLess", spec := "fnExactLevelLess", unfollowed := true, recurses := true, named := ["loop.example/g00744/impl.errLevel"], ifaces := true, apart := false, laid := [("loop.example/g00744/impl.errLevel", laid_loop_example_g00744_impl_errLevel)] }
def FnExactLevelLessSaid : Prop := fnExactLevelLessRow.holds Tryd.pinned (OpenSpec.ofChange fnExactLevelLessSpec)

/-- ITS FALSE NEIGHBOUR: 'it returns false'. Refute it at one input. -/
def fnExactLevelLessWrong : ChangeSpec := { name := "fnExactLevelLess", vars := ["loop.example/g00744/impl.errLevel"], fn := fun _ => fun
  | [d1, d2, g1] => { results := [.lit (.bool false)], args := [d1, d2], vars := [g1] }
  | _ => none }
def FnExactLevelLessWrongFalsely : Prop := fnExactLevelLessRow.holds Tryd.pinned (OpenSpec.ofChange fnExactLevelLessWrong)

/-- 'laws.FnExactLevelEq': WHATEVER THE INPUT: true; the input reads as it did. -/
def fnExactLevelEqSpec : ChangeSpec := { name := "fnExactLevelEq", vars := ["loop.example/g00744/impl.errLevel"], fn := fun _ => fun
  | [d1, d2, g1] => { results := [.lit (.bool true)], args := [d1, d2], vars := [g1] }
  | _ => none }
def fnExactLevelEqRow : OpenClaim := { program := "ytghoofgfimeedaadoor", sum := "b8dc748d59975f8452dce2360fba81d7374522612fb2df51d1f1898a8403bb60", func := "loop.example/g00744/laws.FnExactLevelEq", spec := "fnExactLevelEq", unfollowed := true, recurses := true, named := ["loop.example/g00744/impl.errLevel"], ifaces := true, apart := false, laid := [("loop.example/g00744/impl.errLevel", laid_loop_example_g00744_impl_errLevel)] }
def FnExactLevelEqSaid : Prop := fnExactLevelEqRow.holds Tryd.pinned (OpenSpec.ofChange fnExactLevelEqSpec)

/-- ITS FALSE NEIGHBOUR: 'it returns false'. Refute it at one input. -/
def fnExactLevelEqWrong : ChangeSpec := { name := "fnExactLevelEq", vars := ["loop.example/g00744/impl.errLevel"], fn := fun _ => fun
  | [d1, d2, g1] => { results := [.lit (.bool false)], args := [d1, d2], vars := [g1] }
  | _ => none }
def FnExactLevelEqWrongFalsely : Prop := fnExactLevelEqRow.holds Tryd.pinned (OpenSpec.ofChange fnExactLevelEqWrong)

/-- 'laws.FnExactCounter': WHATEVER THE INPUT: true; the input reads as it did. -/
def fnExactCounterSpec : ChangeSpec := { name := "fnExactCounter", vars := ["loop.example/g00744/impl.errLevel"], fn := fun _ => fun
  | [d1, d2, g1] => { results := [.lit (.bool true)], args := [d1, d2], vars := [g1] }
  | _ => none }
def fnExactCounterRow : OpenClaim := { program := "ytghoofgfimeedaadoor", sum := "b8dc748d59975f8452dce2360fba81d7374522612fb2df51d1f1898a8403bb60", func := "loop.example/g00744/laws.FnExactCounter", spec := "fnExactCounter", unfollowed := true, recurses := true, named := ["loop.example/g00744/impl.errLevel"], ifaces := true, apart := false, laid := [("loop.example/g00744/impl.errLevel", laid_loop_example_g00744_impl_errLevel)] }
def FnExactCounterSaid : Prop := fnExactCounterRow.holds Tryd.pinned (OpenSpec.ofChange fnExactCounterSpec)

/-- ITS FALSE NEIGHBOUR: 'it returns false'. Refute it at one input. -/
def fnExactCounterWrong : ChangeSpec := { name := "fnExactCounter", vars := ["loop.example/g00744/impl.errLevel"], fn := fun _ => fun
  | [d1, d2, g1] => { results := [.lit (.bool false)], args := [d1, d2], vars := [g1] }
  | _ => none }
def FnExactCounterWrongFalsely : Prop := fnExactCounterRow.holds Tryd.pinned (OpenSpec.ofChange fnExactCounterWrong)

/-- 'laws.FnExactLevelIdle': WHATEVER THE INPUT: true; the input reads as it did. -/
def fnExactLevelIdleSpec : ChangeSpec := { name := "fnExactLevelIdle", vars := ["loop.example/g00744/impl.errLevel"], fn := fun _ => fun
  | [d, g1] => { results := [.lit (.bool true)], args := [d], vars := [g1] }
  | _ => none }
def fnExactLevelIdleRow : OpenClaim := { program := "ytghoofgfimeedaadoor", sum := "b8dc748d59975f8452dce2360fba81d7374522612fb2df51d1f1898a8403bb60", func := "loop.example/g00744/laws.FnExactLevelIdle", spec := "fnExactLevelIdle", inPlace := ["sync/atomic.LoadUint32", "(*internal/sync.Mutex).Lock", "internal/race.Disable", "sync/atomic.CompareAndSwapInt32", "internal/race.Enable", "internal/race.Acquire", "(*internal/sync.Mutex).lockSlow", "internal/sync.runtime_canSpin", "internal/sync.runtime_doSpin", "internal/sync.throw", "internal/sync.runtime_nanotime", "internal/sync.runtime_SemacquireMutex", "sync/atomic.AddInt32", "(*internal/sync.Mutex).Unlock", "internal/race.ReleaseMerge", "(*internal/sync.Mutex).unlockSlow", "internal/sync.fatal", "internal/sync.runtime_Semrelease", "sync/atomic.StoreUint32"], unfollowed := true, recurses := true, named := ["loop.example/g00744/impl.errLevel"], ifaces := true, apart := false, laid := [("loop.example/g00744/impl.errLevel", laid_loop_example_g00744_impl_errLevel)] }
def FnExactLevelIdleSaid : Prop := fnExactLevelIdleRow.holds Tryd.pinned (OpenSpec.ofChange fnExactLevelIdleSpec)

/-- ITS FALSE NEIGHBOUR: 'it returns false'. Refute it at one input. -/
def fnExactLevelIdleWrong : ChangeSpec := { name := "fnExactLevelIdle", vars := ["loop.example/g00744/impl.errLevel"], fn := fun _ => fun
  | [d, g1] => { results := [.lit (.bool false)], args := [d], vars := [g1] }
  | _ => none }
def FnExactLevelIdleWrongFalsely : Prop := fnExactLevelIdleRow.holds Tryd.pinned (OpenSpec.ofChange fnExactLevelIdleWrong)

/-- 'laws.FnExactLevelTrim': WHATEVER THE INPUT: true; the input reads as it did. -/
def fnExactLevelTrimSpec : ChangeSpec := { name := "fnExactLevelTrim", vars := ["loop.example/g00744/impl.errLevel"], fn := fun _ => fun
  | [d, g1] => { results := [.lit (.bool true)], args := [d], vars := [g1] }
  | _ => none }
def fnExactLevelTrimRow : OpenClaim := { program := "ytghoofgfimeedaadoor", sum := "b8dc748d59975f8452dce2360fba81d7374522612fb2df51d1f1898a8403bb60", func := "loop.example/g00744/laws.FnExactLevelTrim", spec := "fnExactLevelTrim", inPlace := ["sync/atomic.LoadUint32", "(*internal/sync.Mutex).Lock", "internal/race.Disable", "sync/atomic.CompareAndSwapInt32", "internal/race.Enable", "internal/race.Acquire", "(*internal/sync.Mutex).lockSlow", "internal/sync.runtime_canSpin", "internal/sync.runtime_doSpin", "internal/sync.throw", "internal/sync.runtime_nanotime", "internal/sync.runtime_SemacquireMutex", "sync/atomic.AddInt32", "(*internal/sync.Mutex).Unlock", "internal/race.ReleaseMerge", "(*internal/sync.Mutex).unlockSlow", "internal/sync.fatal", "internal/sync.runtime_Semrelease", "sync/atomic.StoreUint32"], unfollowed := true, recurses := true, named := ["loop.example/g00744/impl.errLevel"], ifaces := true, apart := false, laid := [("loop.example/g00744/impl.errLevel", laid_loop_example_g00744_impl_errLevel)] }
def FnExactLevelTrimSaid : Prop := fnExactLevelTrimRow.holds Tryd.pinned (OpenSpec.ofChange fnExactLevelTrimSpec)

/-- ITS FALSE NEIGHBOUR: 'it returns false'. Refute it at one input. -/
def fnExactLevelTrimWrong : ChangeSpec := { name := "fnExactLevelTrim", vars := ["loop.example/g00744/impl.errLevel"], fn := fun _ => fun
  | [d, g1] => { results := [.lit (.bool false)], args := [d], vars := [g1] }
  | _ => none }
def FnExactLevelTrimWrongFalsely : Prop := fnExactLevelTrimRow.holds Tryd.pinned (OpenSpec.ofChange fnExactLevelTrimWrong)

/-- 'laws.FnExactLevelConst': WHATEVER THE INPUT: true; the input reads as it did. -/
def fnExactLevelConstSpec : ChangeSpec := { name := "fnExactLevelConst", vars := ["loop.example/g00744/impl.errLevel"], fn := fun _ => fun
  | [d, g1] => { results := [.lit (.bool true)], args := [d], vars := [g1] }
  | _ => none }
def fnExactLevelConstRow : OpenClaim := { program := "ytghoofgfimeedaadoor", sum := "b8dc748d59975f8452dce2360fba81d7374522612fb2df51d1f1898a8403bb60", func := "loop.example/g00744/laws.FnExactLevelConst", spec := "fnExactLevelConst", unfollowed := true, recurses := true, named := ["loop.example/g00744/impl.errLevel"], ifaces := true, apart := false, laid := [("loop.example/g00744/impl.errLevel", laid_loop_example_g00744_impl_errLevel)] }
def FnExactLevelConstSaid : Prop := fnExactLevelConstRow.holds Tryd.pinned (OpenSpec.ofChange fnExactLevelConstSpec)

/-- ITS FALSE NEIGHBOUR: 'it returns false'. Refute it at one input. -/
def fnExactLevelConstWrong : ChangeSpec := { name := "fnExactLevelConst", vars := ["loop.example/g00744/impl.errLevel"], fn := fun _ => fun
  | [d, g1] => { results := [.lit (.bool false)], args := [d], vars := [g1] }
  | _ => none }
def FnExactLevelConstWrongFalsely : Prop := fnExactLevelConstRow.holds Tryd.pinned (OpenSpec.ofChange fnExactLevelConstWrong)

/- THE SECOND FORM. 'bulk': how many values and letters a reading holds, each counted each time it is reached (what is shared counts as often as it is met; a slice's spare places count too). A statement '..UptoSaid' is the law's where the arguments, and the package variables that the reading takes, are together of bulk at most 1048576: NARROWER than '..Said'. Prove '..Said' where nothing that the law and all that it calls make is longer than what came in: it says more and counts as full. Else prove '..UptoSaid'. A law counts once. -/
mutual
def uptoBulk {H : Type} : DataW H → Nat
  | .lit (.string bytes) => bytes.length + 1
  | .lit _ => 1
  | .nil => 1
  | .ptr d => uptoBulk d + 1
  | .slice elems spare => uptoBulkAll elems + uptoBulkAll spare + 1
  | .agg parts => uptoBulkAll parts + 1
  | .iface _ d => uptoBulk d + 1
  | .map entries => uptoBulkEntries entries + 1
  | .held _ => 1
def uptoBulkAll {H : Type} : List (DataW H) → Nat
  | [] => 0
  | d :: r => uptoBulk d + uptoBulkAll r
def uptoBulkEntries {H : Type} : List (Lit × DataW H) → Nat
  | [] => 0
  | x :: r => uptoBulkEntry x + uptoBulkEntries r
def uptoBulkEntry {H : Type} : Lit × DataW H → Nat
  | (.string bytes, d) => bytes.length + uptoBulk d + 1
  | (_, d) => uptoBulk d + 1
 end
def uptoSmall : (H : Type) → List (DataW H) → Bool := fun _ ds => decide (uptoBulkAll ds ≤ 1048576)
def OpenSpec.upto (s : _root_.Go.ChangeSpec) : _root_.Go.OpenSpec := { _root_.Go.OpenSpec.ofChange s with cond := some uptoSmall }

/-- 'laws.FnNormFree', WHERE WHAT IT READS IS OF BULK AT MOST 1048576: true; the input reads as it did. -/
def fnNormFreeUptoRow : OpenClaim := { program := "ytghoofgfimeedaadoor", sum := "b8dc748d59975f8452dce2360fba81d7374522612fb2df51d1f1898a8403bb60", func := "loop.example/g00744/laws.FnNormFree", spec := "fnNormFree", unfollowed := true, recurses := true, named := ["loop.example/g00744/impl.errLevel"], ifaces := true, apart := false, laid := [("loop.example/g00744/impl.errLevel", laid_loop_example_g00744_impl_errLevel)], narrowed := true }
def FnNormFreeUptoSaid : Prop := fnNormFreeUptoRow.holds Tryd.pinned (OpenSpec.upto fnNormFreeSpec)

/-- 'laws.FnOrder', WHERE WHAT IT READS IS OF BULK AT MOST 1048576: true; the input reads as it did. -/
def fnOrderUptoRow : OpenClaim := { program := "ytghoofgfimeedaadoor", sum := "b8dc748d59975f8452dce2360fba81d7374522612fb2df51d1f1898a8403bb60", func := "loop.example/g00744/laws.FnOrder", spec := "fnOrder", unfollowed := true, recurses := true, named := ["loop.example/g00744/impl.errLevel"], ifaces := true, apart := false, laid := [("loop.example/g00744/impl.errLevel", laid_loop_example_g00744_impl_errLevel)], narrowed := true }
def FnOrderUptoSaid : Prop := fnOrderUptoRow.holds Tryd.pinned (OpenSpec.upto fnOrderSpec)

/-- 'laws.FnJoinLe', WHERE WHAT IT READS IS OF BULK AT MOST 1048576: true; the input reads as it did. -/
def fnJoinLeUptoRow : OpenClaim := { program := "ytghoofgfimeedaadoor", sum := "b8dc748d59975f8452dce2360fba81d7374522612fb2df51d1f1898a8403bb60", func := "loop.example/g00744/laws.FnJoinLe", spec := "fnJoinLe", unfollowed := true, recurses := true, named := ["loop.example/g00744/impl.errLevel"], ifaces := true, apart := false, laid := [("loop.example/g00744/impl.errLevel", laid_loop_example_g00744_impl_errLevel)], narrowed := true }
def FnJoinLeUptoSaid : Prop := fnJoinLeUptoRow.holds Tryd.pinned (OpenSpec.upto fnJoinLeSpec)

/-- 'laws.FnImax', WHERE WHAT IT READS IS OF BULK AT MOST 1048576: true; the input reads as it did. -/
def fnImaxUptoRow : OpenClaim := { program := "ytghoofgfimeedaadoor", sum := "b8dc748d59975f8452dce2360fba81d7374522612fb2df51d1f1898a8403bb60", func := "loop.example/g00744/laws.FnImax", spec := "fnImax", unfollowed := true, recurses := true, named := ["loop.example/g00744/impl.errLevel"], ifaces := true, apart := false, laid := [("loop.example/g00744/impl.errLevel", laid_loop_example_g00744_impl_errLevel)], narrowed := true }
def FnImaxUptoSaid : Prop := fnImaxUptoRow.holds Tryd.pinned (OpenSpec.upto fnImaxSpec)

/-- 'laws.FnExactLevelLe', WHERE WHAT IT READS IS OF BULK AT MOST 1048576: true; the input reads as it did. -/
def fnExactLevelLeUptoRow : OpenClaim := { program := "ytghoofgfimeedaadoor", sum := "b8dc748d59975f8452dce2360fba81d7374522612fb2df51d1f1898a8403bb60", func := "loop.example/g00744/laws.FnExactLevelLe", spec := "fnExactLevelLe", unfollowed := true, recurses := true, named := ["loop.example/g00744/impl.errLevel"], ifaces := true, apart := false, laid := [("loop.example/g00744/impl.errLevel", laid_loop_example_g00744_impl_errLevel)], narrowed := true }
def FnExactLevelLeUptoSaid : Prop := fnExactLevelLeUptoRow.holds Tryd.pinned (OpenSpec.upto fnExactLevelLeSpec)

/-- 'laws.FnExactLevelLess', WHERE WHAT IT READS IS OF BULK AT MOST 1048576: true; the input reads as it did. -/
def fnExactLevelLessUptoRow : OpenClaim := { program := "ytghoofgfimeedaadoor", sum := "b8dc748d59975f8452dce2360fba81d7374522612fb2df51d1f1898a8403bb60", func := "loop.example/g00744/laws.FnExactLevelLess", spec := "fnExactLevelLess", unfollowed := true, recurses := true, named := ["loop.example/g00744/impl.errLevel"], ifaces := true, apart := false, laid := [("loop.example/g00744/impl.errLevel", laid_loop_example_g00744_impl_errLevel)], narrowed := true }
def FnExactLevelLessUptoSaid : Prop := fnExactLevelLessUptoRow.holds Tryd.pinned (OpenSpec.upto fnExactLevelLessSpec)

/-- 'laws.FnExactLevelEq', WHERE WHAT IT READS IS OF BULK AT MOST 1048576: true; the input reads as it did. -/
def fnExactLevelEqUptoRow : OpenClaim := { program := "ytghoofgfimeedaadoor", sum := "b8dc748d59975f8452dce2360fba81d7374522612fb2df51d1f1898a8403bb60", func := "loop.example/g00744/laws.FnExactLevelEq", spec := "fnExactLevelEq", unfollowed := true, recurses := true, named := ["loop.example/g00744/impl.errLevel"], ifaces := true, apart := false, laid := [("loop.example/g00744/impl.errLevel", laid_loop_example_g00744_impl_errLevel)], narrowed := true }
def FnExactLevelEqUptoSaid : Prop := fnExactLevelEqUptoRow.holds Tryd.pinned (OpenSpec.upto fnExactLevelEqSpec)

/-- 'laws.FnExactCounter', WHERE WHAT IT READS IS OF BULK AT MOST 1048576: true; the input reads as it did. -/
def fnExactCounterUptoRow : OpenClaim := { program := "ytghoofgfimeedaadoor", sum := "b8dc748d59975f8452dce2360fba81d7374522612fb2df51d1f1898a8403bb60", func := "loop.example/g00744/laws.FnExactCounter", spec := "fnExactCounter", unfollowed := true, recurses := true, named := ["loop.example/g00744/impl.errLevel"], ifaces := true, apart := false, laid := [("loop.example/g00744/impl.errLevel", laid_loop_example_g00744_impl_errLevel)], narrowed := true }
def FnExactCounterUptoSaid : Prop := fnExactCounterUptoRow.holds Tryd.pinned (OpenSpec.upto fnExactCounterSpec)

/-- 'laws.FnExactLevelIdle', WHERE WHAT IT READS IS OF BULK AT MOST 1048576: true; the input reads as it did. -/
def fnExactLevelIdleUptoRow : OpenClaim := { program := "ytghoofgfimeedaadoor", sum := "b8dc748d59975f8452dce2360fba81d7374522612fb2df51d1f1898a8403bb60", func := "loop.example/g00744/laws.FnExactLevelIdle", spec := "fnExactLevelIdle", inPlace := ["sync/atomic.LoadUint32", "(*internal/sync.Mutex).Lock", "internal/race.Disable", "sync/atomic.CompareAndSwapInt32", "internal/race.Enable", "internal/race.Acquire", "(*internal/sync.Mutex).lockSlow", "internal/sync.runtime_canSpin", "internal/sync.runtime_doSpin", "internal/sync.throw", "internal/sync.runtime_nanotime", "internal/sync.runtime_SemacquireMutex", "sync/atomic.AddInt32", "(*internal/sync.Mutex).Unlock", "internal/race.ReleaseMerge", "(*internal/sync.Mutex).unlockSlow", "internal/sync.fatal", "internal/sync.runtime_Semrelease", "sync/atomic.StoreUint32"], unfollowed := true, recurses := true, named := ["loop.example/g00744/impl.errLevel"], ifaces := true, apart := false, laid := [("loop.example/g00744/impl.errLevel", laid_loop_example_g00744_impl_errLevel)], narrowed := true }
def FnExactLevelIdleUptoSaid : Prop := fnExactLevelIdleUptoRow.holds Tryd.pinned (OpenSpec.upto fnExactLevelIdleSpec)

/-- 'laws.FnExactLevelTrim', WHERE WHAT IT READS IS OF BULK AT MOST 1048576: true; the input reads as it did. -/
def fnExactLevelTrimUptoRow : OpenClaim := { program := "ytghoofgfimeedaadoor", sum := "b8dc748d59975f8452dce2360fba81d7374522612fb2df51d1f1898a8403bb60", func := "loop.example/g00744/laws.FnExactLevelTrim", spec := "fnExactLevelTrim", inPlace := ["sync/atomic.LoadUint32", "(*internal/sync.Mutex).Lock", "internal/race.Disable", "sync/atomic.CompareAndSwapInt32", "internal/race.Enable", "internal/race.Acquire", "(*internal/sync.Mutex).lockSlow", "internal/sync.runtime_canSpin", "internal/sync.runtime_doSpin", "internal/sync.throw", "internal/sync.runtime_nanotime", "internal/sync.runtime_SemacquireMutex", "sync/atomic.AddInt32", "(*internal/sync.Mutex).Unlock", "internal/race.ReleaseMerge", "(*internal/sync.Mutex).unlockSlow", "internal/sync.fatal", "internal/sync.runtime_Semrelease", "sync/atomic.StoreUint32"], unfollowed := true, recurses := true, named := ["loop.example/g00744/impl.errLevel"], ifaces := true, apart := false, laid := [("loop.example/g00744/impl.errLevel", laid_loop_example_g00744_impl_errLevel)], narrowed := true }
def FnExactLevelTrimUptoSaid : Prop := fnExactLevelTrimUptoRow.holds Tryd.pinned (OpenSpec.upto fnExactLevelTrimSpec)

/-- 'laws.FnExactLevelConst', WHERE WHAT IT READS IS OF BULK AT MOST 1048576: true; the input reads as it did. -/
def fnExactLevelConstUptoRow : OpenClaim := { program := "ytghoofgfimeedaadoor", sum := "b8dc748d59975f8452dce2360fba81d7374522612fb2df51d1f1898a8403bb60", func := "loop.example/g00744/laws.FnExactLevelConst", spec := "fnExactLevelConst", unfollowed := true, recurses := true, named := ["loop.example/g00744/impl.errLevel"], ifaces := true, apart := false, laid := [("loop.example/g00744/impl.errLevel", laid_loop_example_g00744_impl_errLevel)], narrowed := true }
def FnExactLevelConstUptoSaid : Prop := fnExactLevelConstUptoRow.holds Tryd.pinned (OpenSpec.upto fnExactLevelConstSpec)

end Rows
end Go.Proofs.YtghoofgfimeedaaDoor
