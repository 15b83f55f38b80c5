/-
  NARROWER THAN 'FOR EVERY INPUT', by the rows' own cells (each row's printed sentence says how): FnSign: ifaces, laid · FnResidual: ifaces, laid · FnExactLevelSign: ifaces, laid · FnExactResidual: ifaces, laid · FnExactSignMerge: ifaces, laid · FnExactLevelRead: ifaces, laid.
  DERIVED. THE GIVEN ROWS OF THIS SEAT. 6 by the template 'for every input the law returns true; each argument reads behind the call as it read before'; 0 by the template 'total and deterministic' (their statements: YtijiohdddfdjfaaDoorTotals.lean).
  GIVEN WITH THE SEED: the statements are not yours to turn. If you find one false, say at which input.
  Laid BY PROGRAM, IN A SANDBOX (cutbox-rows.mjs): the forced cells as the released guide's own fill.sh prints them over the translation 60eaa8fcf990b2bc… (all of the seat's roots in one cut). By AI agents, Wed Nov 11 2026. No macro, syntax, notation, axiom, sorry.
-/
import Derived.Test.YtijiohdddfdjfaaDoorChecked
import GoSem.PinnedTables
import GoSem.Claim
import GoSem.ClaimJoined
import GoSem.ClaimMapViews
import Derived.JoinedTies
import Derived.KernelRfl
namespace Go.Proofs.YtijiohdddfdjfaaDoor
/- THE CELL 'sum', in the pinned program and in every row, IS THE sha256 OF THE DUMP (.gsa) THAT YtijiohdddfdjfaaDoorProg.lean LOADS. Nothing in Lean hashes anything: it is a label: what it is worth is what the hold of that sum in a sandbox is worth. -/
noncomputable def Tryd.pinned : Pinned := { name := "ytijiohdddfdjfaadoor", sum := "60eaa8fcf990b2bc1044bd623a357be46e2c73069b7ff4efb8bcc3eaf93fea78", checked := Tryd.checked }
namespace Rows
def none {H : Type} : Left H := { results := [], args := [] }

/- WHAT THE LISTED PACKAGE-LEVEL VARIABLES READ AS WHEN THE CALL BEGINS. Each datum BY PROGRAM (the guide's laid-datum.mjs) off the statement by which the dump's own 'gosem.cut.vars' lays the variable. In a bare row this is a premise. The card (YtijiohdddfdjfaaDoorCards.lean) ties it to the program's text. -/
def laid_loop_example_g00744_impl_errLevel {H : Type} : DataW H := .iface "*errors.errorString" (.ptr (.agg [.lit (.string [110, 111, 116, 32, 97, 32, 118, 97, 108, 105, 100, 32, 108, 101, 118, 101, 108])]))
def laid_math_bits_deBruijn32tab {H : Type} : DataW H := .agg [.lit (.int .u8 0), .lit (.int .u8 1), .lit (.int .u8 28), .lit (.int .u8 2), .lit (.int .u8 29), .lit (.int .u8 14), .lit (.int .u8 24), .lit (.int .u8 3), .lit (.int .u8 30), .lit (.int .u8 22), .lit (.int .u8 20), .lit (.int .u8 15), .lit (.int .u8 25), .lit (.int .u8 17), .lit (.int .u8 4), .lit (.int .u8 8), .lit (.int .u8 31), .lit (.int .u8 27), .lit (.int .u8 13), .lit (.int .u8 23), .lit (.int .u8 21), .lit (.int .u8 19), .lit (.int .u8 16), .lit (.int .u8 7), .lit (.int .u8 26), .lit (.int .u8 12), .lit (.int .u8 18), .lit (.int .u8 6), .lit (.int .u8 11), .lit (.int .u8 5), .lit (.int .u8 10), .lit (.int .u8 9)]
def laid_math_bits_deBruijn64tab {H : Type} : DataW H := .agg [.lit (.int .u8 0), .lit (.int .u8 1), .lit (.int .u8 56), .lit (.int .u8 2), .lit (.int .u8 57), .lit (.int .u8 49), .lit (.int .u8 28), .lit (.int .u8 3), .lit (.int .u8 61), .lit (.int .u8 58), .lit (.int .u8 42), .lit (.int .u8 50), .lit (.int .u8 38), .lit (.int .u8 29), .lit (.int .u8 17), .lit (.int .u8 4), .lit (.int .u8 62), .lit (.int .u8 47), .lit (.int .u8 59), .lit (.int .u8 36), .lit (.int .u8 45), .lit (.int .u8 43), .lit (.int .u8 51), .lit (.int .u8 22), .lit (.int .u8 53), .lit (.int .u8 39), .lit (.int .u8 33), .lit (.int .u8 30), .lit (.int .u8 24), .lit (.int .u8 18), .lit (.int .u8 12), .lit (.int .u8 5), .lit (.int .u8 63), .lit (.int .u8 55), .lit (.int .u8 48), .lit (.int .u8 27), .lit (.int .u8 60), .lit (.int .u8 41), .lit (.int .u8 37), .lit (.int .u8 16), .lit (.int .u8 46), .lit (.int .u8 35), .lit (.int .u8 44), .lit (.int .u8 21), .lit (.int .u8 52), .lit (.int .u8 32), .lit (.int .u8 23), .lit (.int .u8 11), .lit (.int .u8 54), .lit (.int .u8 26), .lit (.int .u8 40), .lit (.int .u8 15), .lit (.int .u8 34), .lit (.int .u8 20), .lit (.int .u8 31), .lit (.int .u8 10), .lit (.int .u8 25), .lit (.int .u8 14), .lit (.int .u8 19), .lit (.int .u8 9), .lit (.int .u8 13), .lit (.int .u8 8), .lit (.int .u8 7), .lit (.int .u8 6)]
def laid_internal_strconv_uint64pow10 {H : Type} : DataW H := .agg [.lit (.int .u64 1), .lit (.int .u64 10), .lit (.int .u64 100), .lit (.int .u64 1000), .lit (.int .u64 10000), .lit (.int .u64 100000), .lit (.int .u64 1000000), .lit (.int .u64 10000000), .lit (.int .u64 100000000), .lit (.int .u64 1000000000), .lit (.int .u64 10000000000), .lit (.int .u64 100000000000), .lit (.int .u64 1000000000000), .lit (.int .u64 10000000000000), .lit (.int .u64 100000000000000), .lit (.int .u64 1000000000000000), .lit (.int .u64 10000000000000000), .lit (.int .u64 100000000000000000), .lit (.int .u64 1000000000000000000), .lit (.int .u64 10000000000000000000)]
def laid_unicode_utf8_acceptRanges {H : Type} : DataW H := .agg [.agg [.lit (.int .u8 128), .lit (.int .u8 191)], .agg [.lit (.int .u8 160), .lit (.int .u8 191)], .agg [.lit (.int .u8 128), .lit (.int .u8 159)], .agg [.lit (.int .u8 144), .lit (.int .u8 191)], .agg [.lit (.int .u8 128), .lit (.int .u8 143)], .agg [.lit (.int .u8 0), .lit (.int .u8 0)], .agg [.lit (.int .u8 0), .lit (.int .u8 0)], .agg [.lit (.int .u8 0), .lit (.int .u8 0)], .agg [.lit (.int .u8 0), .lit (.int .u8 0)], .agg [.lit (.int .u8 0), .lit (.int .u8 0)], .agg [.lit (.int .u8 0), .lit (.int .u8 0)], .agg [.lit (.int .u8 0), .lit (.int .u8 0)], .agg [.lit (.int .u8 0), .lit (.int .u8 0)], .agg [.lit (.int .u8 0), .lit (.int .u8 0)], .agg [.lit (.int .u8 0), .lit (.int .u8 0)], .agg [.lit (.int .u8 0), .lit (.int .u8 0)]]
/-- One of Go's own tables, pinned by name: the form's constant. -/
def laid_unicode_utf8_first : DataW Unit := Go.Pinned.utf8First

/-- 'laws.FnSign': WHATEVER THE INPUT: true; the input reads as it did. -/
def fnSignSpec : ChangeSpec := { name := "fnSign", vars := ["loop.example/g00744/impl.errLevel"], fn := fun _ => fun
  | [d, g1] => { results := [.lit (.bool true)], args := [d], vars := [g1] }
  | _ => none }
def fnSignRow : OpenClaim := { program := "ytijiohdddfdjfaadoor", sum := "60eaa8fcf990b2bc1044bd623a357be46e2c73069b7ff4efb8bcc3eaf93fea78", func := "loop.example/g00744/laws.FnSign", spec := "fnSign", unfollowed := true, recurses := true, named := ["loop.example/g00744/impl.errLevel"], ifaces := true, apart := false, laid := [("loop.example/g00744/impl.errLevel", laid_loop_example_g00744_impl_errLevel)] }
def FnSignSaid : Prop := fnSignRow.holds Tryd.pinned (OpenSpec.ofChange fnSignSpec)

/-- ITS FALSE NEIGHBOUR: 'it returns false'. Refute it at one input. -/
def fnSignWrong : ChangeSpec := { name := "fnSign", vars := ["loop.example/g00744/impl.errLevel"], fn := fun _ => fun
  | [d, g1] => { results := [.lit (.bool false)], args := [d], vars := [g1] }
  | _ => none }
def FnSignWrongFalsely : Prop := fnSignRow.holds Tryd.pinned (OpenSpec.ofChange fnSignWrong)

/-- 'laws.FnResidual': WHATEVER THE INPUT: true; the input reads as it did. -/
def fnResidualSpec : ChangeSpec := { name := "fnResidual", vars := ["loop.example/g00744/impl.errLevel"], fn := fun _ => fun
  | [d, g1] => { results := [.lit (.bool true)], args := [d], vars := [g1] }
  | _ => none }
def fnResidualRow : OpenClaim := { program := "ytijiohdddfdjfaadoor", sum := "60eaa8fcf990b2bc1044bd623a357be46e2c73069b7ff4efb8bcc3eaf93fea78", func := "loop.example/g00744/laws.FnResidual", spec := "fnResidual", unfollowed := true, recurses := true, named := ["loop.example/g00744/impl.errLevel"], ifaces := true, apart := false, laid := [("loop.example/g00744/impl.errLevel", laid_loop_example_g00744_impl_errLevel)] }
def FnResidualSaid : Prop := fnResidualRow.holds Tryd.pinned (OpenSpec.ofChange fnResidualSpec)

/-- ITS FALSE NEIGHBOUR: 'it returns false'. Refute it at one input. -/
def fnResidualWrong : ChangeSpec := { name := "fnResidual", vars := ["loop.example/g00744/impl.errLevel"], fn := fun _ => fun
  | [d, g1] => { results := [.lit (.bool false)], args := [d], vars := [g1] }
  | _ => none }
def FnResidualWrongFalsely : Prop := fnResidualRow.holds Tryd.pinned (OpenSpec.ofChange fnResidualWrong)

/-- 'laws.FnExactLevelSign': WHATEVER THE INPUT: true; the input reads as it did. -/
def fnExactLevelSignSpec : ChangeSpec := { name := "fnExactLevelSign", vars := ["loop.example/g00744/impl.errLevel"], fn := fun _ => fun
  | [d1, d2, g1] => { results := [.lit (.bool true)], args := [d1, d2], vars := [g1] }
  | _ => none }
def fnExactLevelSignRow : OpenClaim := { program := "ytijiohdddfdjfaadoor", sum := "60eaa8fcf990b2bc1044bd623a357be46e2c73069b7ff4efb8bcc3eaf93fea78", func := "loop.example/g00744/laws.FnExactLevelSign", spec := "fnExactLevelSign", unfollowed := true, recurses := true, named := ["loop.example/g00744/impl.errLevel"], ifaces := true, apart := false, laid := [("loop.example/g00744/impl.errLevel", laid_loop_example_g00744_impl_errLevel)] }
def FnExactLevelSignSaid : Prop := fnExactLevelSignRow.holds Tryd.pinned (OpenSpec.ofChange fnExactLevelSignSpec)

/-- ITS FALSE NEIGHBOUR: 'it returns false'. Refute it at one input. -/
def fnExactLevelSignWrong : ChangeSpec := { name := "fnExactLevelSign", vars := ["loop.example/g00744/impl.errLevel"], fn := fun _ => fun
  | [d1, d2, g1] => { results := [.lit (.bool false)], args := [d1, d2], vars := [g1] }
  | _ => none }
def FnExactLevelSignWrongFalsely : Prop := fnExactLevelSignRow.holds Tryd.pinned (OpenSpec.ofChange fnExactLevelSignWrong)

/-- 'laws.FnExactResidual': WHATEVER THE INPUT: true; the input reads as it did. -/
def fnExactResidualSpec : ChangeSpec := { name := "fnExactResidual", vars := ["loop.example/g00744/impl.errLevel"], fn := fun _ => fun
  | [d1, d2, g1] => { results := [.lit (.bool true)], args := [d1, d2], vars := [g1] }
  | _ => none }
def fnExactResidualRow : OpenClaim := { program := "ytijiohdddfdjfaadoor", sum := "60eaa8fcf990b2bc1044bd623a357be46e2c73069b7ff4efb8bcc3eaf93fea78", func := "loop.example/g00744/laws.FnExactResidual", spec := "fnExactResidual", unfollowed := true, recurses := true, named := ["loop.example/g00744/impl.errLevel"], ifaces := true, apart := false, laid := [("loop.example/g00744/impl.errLevel", laid_loop_example_g00744_impl_errLevel)] }
def FnExactResidualSaid : Prop := fnExactResidualRow.holds Tryd.pinned (OpenSpec.ofChange fnExactResidualSpec)

/-- ITS FALSE NEIGHBOUR: 'it returns false'. Refute it at one input. -/
def fnExactResidualWrong : ChangeSpec := { name := "fnExactResidual", vars := ["loop.example/g00744/impl.errLevel"], fn := fun _ => fun
  | [d1, d2, g1] => { results := [.lit (.bool false)], args := [d1, d2], vars := [g1] }
  | _ => none }
def FnExactResidualWrongFalsely : Prop := fnExactResidualRow.holds Tryd.pinned (OpenSpec.ofChange fnExactResidualWrong)

/-- 'laws.FnExactSignMerge': WHATEVER THE INPUT: true; the input reads as it did. -/
def fnExactSignMergeSpec : ChangeSpec := { name := "fnExactSignMerge", vars := ["loop.example/g00744/impl.errLevel"], fn := fun _ => fun
  | [d1, d2, g1] => { results := [.lit (.bool true)], args := [d1, d2], vars := [g1] }
  | _ => none }
def fnExactSignMergeRow : OpenClaim := { program := "ytijiohdddfdjfaadoor", sum := "60eaa8fcf990b2bc1044bd623a357be46e2c73069b7ff4efb8bcc3eaf93fea78", func := "loop.example/g00744/laws.FnExactSignMerge", spec := "fnExactSignMerge", inPlace := ["sync/atomic.LoadUint32", "(*internal/sync.Mutex).Lock", "internal/race.Disable", "sync/atomic.CompareAndSwapInt32", "internal/race.Enable", "internal/race.Acquire", "(*internal/sync.Mutex).lockSlow", "internal/sync.runtime_canSpin", "internal/sync.runtime_doSpin", "internal/sync.throw", "internal/sync.runtime_nanotime", "internal/sync.runtime_SemacquireMutex", "sync/atomic.AddInt32", "(*internal/sync.Mutex).Unlock", "internal/race.ReleaseMerge", "(*internal/sync.Mutex).unlockSlow", "internal/sync.fatal", "internal/sync.runtime_Semrelease", "sync/atomic.StoreUint32"], unfollowed := true, recurses := true, named := ["loop.example/g00744/impl.errLevel"], ifaces := true, apart := false, laid := [("loop.example/g00744/impl.errLevel", laid_loop_example_g00744_impl_errLevel)] }
def FnExactSignMergeSaid : Prop := fnExactSignMergeRow.holds Tryd.pinned (OpenSpec.ofChange fnExactSignMergeSpec)

/-- ITS FALSE NEIGHBOUR: 'it returns false'. Refute it at one input. -/
def fnExactSignMergeWrong : ChangeSpec := { name := "fnExactSignMerge", vars := ["loop.example/g00744/impl.errLevel"], fn := fun _ => fun
  | [d1, d2, g1] => { results := [.lit (.bool false)], args := [d1, d2], vars := [g1] }
  | _ => none }
def FnExactSignMergeWrongFalsely : Prop := fnExactSignMergeRow.holds Tryd.pinned (OpenSpec.ofChange fnExactSignMergeWrong)

/-- 'laws.FnExactLevelRead': WHATEVER THE INPUT: true; the input reads as it did. -/
def fnExactLevelReadSpec : ChangeSpec := { name := "fnExactLevelRead", vars := ["loop.example/g00744/impl.errLevel"], fn := fun _ => fun
  | [d, g1] => { results := [.lit (.bool true)], args := [d], vars := [g1] }
  | _ => none }
def fnExactLevelReadRow : OpenClaim := { program := "ytijiohdddfdjfaadoor", sum := "60eaa8fcf990b2bc1044bd623a357be46e2c73069b7ff4efb8bcc3eaf93fea78", func := "loop.example/g00744/laws.FnExactLevelRead", spec := "fnExactLevelRead", inPlace := ["internal/bytealg.CountString", "internal/bytealg.IndexByteString", "internal/bytealg.IndexString"], unfollowed := true, recurses := true, named := ["unicode/utf8.first", "unicode/utf8.acceptRanges", "internal/bytealg.MaxLen", "internal/strconv.uint64pow10", "math/bits.deBruijn32tab", "math/bits.deBruijn64tab", "loop.example/g00744/impl.errLevel"], ifaces := true, apart := false, laid := [("math/bits.deBruijn32tab", laid_math_bits_deBruijn32tab), ("math/bits.deBruijn64tab", laid_math_bits_deBruijn64tab), ("internal/strconv.uint64pow10", laid_internal_strconv_uint64pow10), ("unicode/utf8.acceptRanges", laid_unicode_utf8_acceptRanges), ("loop.example/g00744/impl.errLevel", laid_loop_example_g00744_impl_errLevel), ("unicode/utf8.first", laid_unicode_utf8_first)] }
def FnExactLevelReadSaid : Prop := fnExactLevelReadRow.holds Tryd.pinned (OpenSpec.ofChange fnExactLevelReadSpec)

/-- ITS FALSE NEIGHBOUR: 'it returns false'. Refute it at one input. -/
def fnExactLevelReadWrong : ChangeSpec := { name := "fnExactLevelRead", vars := ["loop.example/g00744/impl.errLevel"], fn := fun _ => fun
  | [d, g1] => { results := [.lit (.bool false)], args := [d], vars := [g1] }
  | _ => none }
def FnExactLevelReadWrongFalsely : Prop := fnExactLevelReadRow.holds Tryd.pinned (OpenSpec.ofChange fnExactLevelReadWrong)

/- THE SECOND FORM. 'bulk': how many values and letters a reading holds, each counted each time it is reached (what is shared counts as often as it is met; a slice's spare places count too). A statement '..UptoSaid' is the law's where the arguments, and the package variables that the reading takes, are together of bulk at most 1048576: NARROWER than '..Said'. Prove '..Said' where nothing that the law and all that it calls make is longer than what came in: it says more and counts as full. Else prove '..UptoSaid'. A law counts once. -/
mutual
def uptoBulk {H : Type} : DataW H → Nat
  | .lit (.string bytes) => bytes.length + 1
  | .lit _ => 1
  | .nil => 1
  | .ptr d => uptoBulk d + 1
  | .slice elems spare => uptoBulkAll elems + uptoBulkAll spare + 1
  | .agg parts => uptoBulkAll parts + 1
  | .iface _ d => uptoBulk d + 1
  | .map entries => uptoBulkEntries entries + 1
  | .held _ => 1
def uptoBulkAll {H : Type} : List (DataW H) → Nat
  | [] => 0
  | d :: r => uptoBulk d + uptoBulkAll r
def uptoBulkEntries {H : Type} : List (Lit × DataW H) → Nat
  | [] => 0
  | x :: r => uptoBulkEntry x + uptoBulkEntries r
def uptoBulkEntry {H : Type} : Lit × DataW H → Nat
  | (.string bytes, d) => bytes.length + uptoBulk d + 1
  | (_, d) => uptoBulk d + 1
 end
def uptoSmall : (H : Type) → List (DataW H) → Bool := fun _ ds => decide (uptoBulkAll ds ≤ 1048576)
def OpenSpec.upto (s : _root_.Go.ChangeSpec) : _root_.Go.OpenSpec := { _root_.Go.OpenSpec.ofChange s with cond := some uptoSmall }

/-- 'laws.FnSign', WHERE WHAT IT READS IS OF BULK AT MOST 1048576: true; the input reads as it did. -/
def fnSignUptoRow : OpenClaim := { program := "ytijiohdddfdjfaadoor", sum := "60eaa8fcf990b2bc1044bd623a357be46e2c73069b7ff4efb8bcc3eaf93fea78", func := "loop.example/g00744/laws.FnSign", spec := "fnSign", unfollowed := true, recurses := true, named := ["loop.example/g00744/impl.errLevel"], ifaces := true, apart := false, laid := [("loop.example/g00744/impl.errLevel", laid_loop_example_g00744_impl_errLevel)], narrowed := true }
def FnSignUptoSaid : Prop := fnSignUptoRow.holds Tryd.pinned (OpenSpec.upto fnSignSpec)

/-- 'laws.FnResidual', WHERE WHAT IT READS IS OF BULK AT MOST 1048576: true; the input reads as it did. -/
def fnResidualUptoRow : OpenClaim := { program := "ytijiohdddfdjfaadoor", sum := "60eaa8fcf990b2bc1044bd623a357be46e2c73069b7ff4efb8bcc3eaf93fea78", func := "loop.example/g00744/laws.FnResidual", spec := "fnResidual", unfollowed := true, recurses := true, named := ["loop.example/g00744/impl.errLevel"], ifaces := true, apart := false, laid := [("loop.example/g00744/impl.errLevel", laid_loop_example_g00744_impl_errLevel)], narrowed := true }
def FnResidualUptoSaid : Prop := fnResidualUptoRow.holds Tryd.pinned (OpenSpec.upto fnResidualSpec)

/-- 'laws.FnExactLevelSign', WHERE WHAT IT READS IS OF BULK AT MOST 1048576: true; the input reads as it did. -/
def fnExactLevelSignUptoRow : OpenClaim := { program := "ytijiohdddfdjfaadoor", sum := "60eaa8fcf990b2bc1044bd623a357be46e2c73069b7ff4efb8bcc3eaf93fea78", func := "loop.example/g00744/laws.FnExactLevelSign", spec := "fnExactLevelSign", unfollowed := true, recurses := true, named := ["loop.example/g00744/impl.errLevel"], ifaces := true, apart := false, laid := [("loop.example/g00744/impl.errLevel", laid_loop_example_g00744_impl_errLevel)], narrowed := true }
def FnExactLevelSignUptoSaid : Prop := fnExactLevelSignUptoRow.holds Tryd.pinned (OpenSpec.upto fnExactLevelSignSpec)

/-- 'laws.FnExactResidual', WHERE WHAT IT READS IS OF BULK AT MOST 1048576: true; the input reads as it did. -/
def fnExactResidualUptoRow : OpenClaim := { program := "ytijiohdddfdjfaadoor", sum := "60eaa8fcf990b2bc1044bd623a357be46e2c73069b7ff4efb8bcc3eaf93fea78", func := "loop.example/g00744/laws.FnExactResidual", spec := "fnExactResidual", unfollowed := true, recurses := true, named := ["loop.example/g00744/impl.errLevel"], ifaces := true, apart := false, laid := [("loop.example/g00744/impl.errLevel", laid_loop_example_g00744_impl_errLevel)], narrowed := true }
def FnExactResidualUptoSaid : Prop := fnExactResidualUptoRow.holds Tryd.pinned (OpenSpec.upto fnExactResidualSpec)

/-- 'laws.FnExactSignMerge', WHERE WHAT IT READS IS OF BULK AT MOST 1048576: true; the input reads as it did. -/
def fnExactSignMergeUptoRow : OpenClaim := { program := "ytijiohdddfdjfaadoor", sum := "60eaa8fcf990b2bc1044bd623a357be46e2c73069b7ff4efb8bcc3eaf93fea78", func := "loop.example/g00744/laws.FnExactSignMerge", spec := "fnExactSignMerge", inPlace := ["sync/atomic.LoadUint32", "(*internal/sync.Mutex).Lock", "internal/race.Disable", "sync/atomic.CompareAndSwapInt32", "internal/race.Enable", "internal/race.Acquire", "(*internal/sync.Mutex).lockSlow", "internal/sync.runtime_canSpin", "internal/sync.runtime_doSpin", "internal/sync.throw", "internal/sync.runtime_nanotime", "internal/sync.runtime_SemacquireMutex", "sync/atomic.AddInt32", "(*internal/sync.Mutex).Unlock", "internal/race.ReleaseMerge", "(*internal/sync.Mutex).unlockSlow", "internal/sync.fatal", "internal/sync.runtime_Semrelease", "sync/atomic.StoreUint32"], unfollowed := true, recurses := true, named := ["loop.example/g00744/impl.errLevel"], ifaces := true, apart := false, laid := [("loop.example/g00744/impl.errLevel", laid_loop_example_g00744_impl_errLevel)], narrowed := true }
def FnExactSignMergeUptoSaid : Prop := fnExactSignMergeUptoRow.holds Tryd.pinned (OpenSpec.upto fnExactSignMergeSpec)

/-- 'laws.FnExactLevelRead', WHERE WHAT IT READS IS OF BULK AT MOST 1048576: true; the input reads as it did. -/
def fnExactLevelReadUptoRow : OpenClaim := { program := "ytijiohdddfdjfaadoor", sum := "60eaa8fcf990b2bc1044bd623a357be46e2c73069b7ff4efb8bcc3eaf93fea78", func := "loop.example/g00744/laws.FnExactLevelRead", spec := "fnExactLevelRead", inPlace := ["internal/bytealg.CountString", "internal/bytealg.IndexByteString", "internal/bytealg.IndexString"], unfollowed := true, recurses := true, named := ["unicode/utf8.first", "unicode/utf8.acceptRanges", "internal/bytealg.MaxLen", "internal/strconv.uint64pow10", "math/bits.deBruijn32tab", "math/bits.deBruijn64tab", "loop.example/g00744/impl.errLevel"], ifaces := true, apart := false, laid := [("math/bits.deBruijn32tab", laid_math_bits_deBruijn32tab), ("math/bits.deBruijn64tab", laid_math_bits_deBruijn64tab), ("internal/strconv.uint64pow10", laid_internal_strconv_uint64pow10), ("unicode/utf8.acceptRanges", laid_unicode_utf8_acceptRanges), ("loop.example/g00744/impl.errLevel", laid_loop_example_g00744_impl_errLevel), ("unicode/utf8.first", laid_unicode_utf8_first)], narrowed := true }
def FnExactLevelReadUptoSaid : Prop := fnExactLevelReadUptoRow.holds Tryd.pinned (OpenSpec.upto fnExactLevelReadSpec)

end Rows
end Go.Proofs.YtijiohdddfdjfaaDoor
