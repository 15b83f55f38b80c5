/-
  NARROWER THAN 'FOR EVERY INPUT', by the rows' own cells (each row's printed sentence says how): FnEval: ifaces, laid · FnSubst: ifaces, laid · FnParams: ifaces, laid · FnMonotone: ifaces, laid · FnExactLevelOk: ifaces, laid · FnExactLevelEval: ifaces, laid · FnExactLevelParams: ifaces, laid · FnExactLevelOff: ifaces, laid · FnExactLevelSucc: ifaces, laid · FnExactLevelJoin: ifaces, laid · FnExactLevelSubst: ifaces, laid · FnExactLevelText: ifaces, laid.
  DERIVED. THE GIVEN ROWS OF THIS SEAT. 12 by the template 'for every input the law returns true; each argument reads behind the call as it read before'; 0 by the template 'total and deterministic' (their statements: YtkpelkbkemohlaaDoorTotals.lean).
  GIVEN WITH THE SEED: the statements are not yours to turn. If you find one false, say at which input.
  Laid BY PROGRAM, IN A SANDBOX (cutbox-rows.mjs): the forced cells as the released guide's own fill.sh prints them over the translation abfda73ee461f041… (all of the seat's roots in one cut). By AI agents, Wed Nov 11 2026. No macro, syntax, notation, axiom, sorry.
-/
import Derived.Test.YtkpelkbkemohlaaDoorChecked
import GoSem.Claim
import GoSem.ClaimJoined
import GoSem.ClaimMapViews
import Derived.JoinedTies
import Derived.KernelRfl
namespace Go.Proofs.YtkpelkbkemohlaaDoor
/- THE CELL 'sum', in the pinned program and in every row, IS THE sha256 OF THE DUMP (.gsa) THAT YtkpelkbkemohlaaDoorProg.lean LOADS. Nothing in Lean hashes anything: it is a label: what it is worth is what the hold of that sum in a sandbox is worth. -/
noncomputable def Tryd.pinned : Pinned := { name := "ytkpelkbkemohlaadoor", sum := "abfda73ee461f041a7d34f49457e9cccc6a3e8c69022b89caa973b9a2fe3ce1c", checked := Tryd.checked }
namespace Rows
def none {H : Type} : Left H := { results := [], args := [] }

/- WHAT THE LISTED PACKAGE-LEVEL VARIABLES READ AS WHEN THE CALL BEGINS. Each datum BY PROGRAM (the guide's laid-datum.mjs) off the statement by which the dump's own 'gosem.cut.vars' lays the variable. In a bare row this is a premise. The card (YtkpelkbkemohlaaDoorCards.lean) ties it to the program's text. -/
def laid_loop_example_g00744_impl_errLevel {H : Type} : DataW H := .iface "*errors.errorString" (.ptr (.agg [.lit (.string [110, 111, 116, 32, 97, 32, 118, 97, 108, 105, 100, 32, 108, 101, 118, 101, 108])]))
def laid_math_bits_deBruijn32tab {H : Type} : DataW H := .agg [.lit (.int .u8 0), .lit (.int .u8 1), .lit (.int .u8 28), .lit (.int .u8 2), .lit (.int .u8 29), .lit (.int .u8 14), .lit (.int .u8 24), .lit (.int .u8 3), .lit (.int .u8 30), .lit (.int .u8 22), .lit (.int .u8 20), .lit (.int .u8 15), .lit (.int .u8 25), .lit (.int .u8 17), .lit (.int .u8 4), .lit (.int .u8 8), .lit (.int .u8 31), .lit (.int .u8 27), .lit (.int .u8 13), .lit (.int .u8 23), .lit (.int .u8 21), .lit (.int .u8 19), .lit (.int .u8 16), .lit (.int .u8 7), .lit (.int .u8 26), .lit (.int .u8 12), .lit (.int .u8 18), .lit (.int .u8 6), .lit (.int .u8 11), .lit (.int .u8 5), .lit (.int .u8 10), .lit (.int .u8 9)]
def laid_math_bits_deBruijn64tab {H : Type} : DataW H := .agg [.lit (.int .u8 0), .lit (.int .u8 1), .lit (.int .u8 56), .lit (.int .u8 2), .lit (.int .u8 57), .lit (.int .u8 49), .lit (.int .u8 28), .lit (.int .u8 3), .lit (.int .u8 61), .lit (.int .u8 58), .lit (.int .u8 42), .lit (.int .u8 50), .lit (.int .u8 38), .lit (.int .u8 29), .lit (.int .u8 17), .lit (.int .u8 4), .lit (.int .u8 62), .lit (.int .u8 47), .lit (.int .u8 59), .lit (.int .u8 36), .lit (.int .u8 45), .lit (.int .u8 43), .lit (.int .u8 51), .lit (.int .u8 22), .lit (.int .u8 53), .lit (.int .u8 39), .lit (.int .u8 33), .lit (.int .u8 30), .lit (.int .u8 24), .lit (.int .u8 18), .lit (.int .u8 12), .lit (.int .u8 5), .lit (.int .u8 63), .lit (.int .u8 55), .lit (.int .u8 48), .lit (.int .u8 27), .lit (.int .u8 60), .lit (.int .u8 41), .lit (.int .u8 37), .lit (.int .u8 16), .lit (.int .u8 46), .lit (.int .u8 35), .lit (.int .u8 44), .lit (.int .u8 21), .lit (.int .u8 52), .lit (.int .u8 32), .lit (.int .u8 23), .lit (.int .u8 11), .lit (.int .u8 54), .lit (.int .u8 26), .lit (.int .u8 40), .lit (.int .u8 15), .lit (.int .u8 34), .lit (.int .u8 20), .lit (.int .u8 31), .lit (.int .u8 10), .lit (.int .u8 25), .lit (.int .u8 14), .lit (.int .u8 19), .lit (.int .u8 9), .lit (.int .u8 13), .lit (.int .u8 8), .lit (.int .u8 7), .lit (.int .u8 6)]
def laid_internal_strconv_uint64pow10 {H : Type} : DataW H := .agg [.lit (.int .u64 1), .lit (.int .u64 10), .lit (.int .u64 100), .lit (.int .u64 1000), .lit (.int .u64 10000), .lit (.int .u64 100000), .lit (.int .u64 1000000), .lit (.int .u64 10000000), .lit (.int .u64 100000000), .lit (.int .u64 1000000000), .lit (.int .u64 10000000000), .lit (.int .u64 100000000000), .lit (.int .u64 1000000000000), .lit (.int .u64 10000000000000), .lit (.int .u64 100000000000000), .lit (.int .u64 1000000000000000), .lit (.int .u64 10000000000000000), .lit (.int .u64 100000000000000000), .lit (.int .u64 1000000000000000000), .lit (.int .u64 10000000000000000000)]

/-- 'laws.FnEval': WHATEVER THE INPUT: true; the input reads as it did. -/
def fnEvalSpec : ChangeSpec := { name := "fnEval", vars := ["loop.example/g00744/impl.errLevel"], fn := fun _ => fun
  | [d, g1] => { results := [.lit (.bool true)], args := [d], vars := [g1] }
  | _ => none }
def fnEvalRow : OpenClaim := { program := "ytkpelkbkemohlaadoor", sum := "abfda73ee461f041a7d34f49457e9cccc6a3e8c69022b89caa973b9a2fe3ce1c", func := "loop.example/g00744/laws.FnEval", spec := "fnEval", unfollowed := true, recurses := true, named := ["loop.example/g00744/impl.errLevel"], ifaces := true, apart := false, laid := [("loop.example/g00744/impl.errLevel", laid_loop_example_g00744_impl_errLevel)] }
def FnEvalSaid : Prop := fnEvalRow.holds Tryd.pinned (OpenSpec.ofChange fnEvalSpec)

/-- ITS FALSE NEIGHBOUR: 'it returns false'. Refute it at one input. -/
def fnEvalWrong : ChangeSpec := { name := "fnEval", vars := ["loop.example/g00744/impl.errLevel"], fn := fun _ => fun
  | [d, g1] => { results := [.lit (.bool false)], args := [d], vars := [g1] }
  | _ => none }
def FnEvalWrongFalsely : Prop := fnEvalRow.holds Tryd.pinned (OpenSpec.ofChange fnEvalWrong)

/-- 'laws.FnSubst': WHATEVER THE INPUT: true; the input reads as it did. -/
def fnSubstSpec : ChangeSpec := { name := "fnSubst", vars := ["loop.example/g00744/impl.errLevel"], fn := fun _ => fun
  | [d, g1] => { results := [.lit (.bool true)], args := [d], vars := [g1] }
  | _ => none }
def fnSubstRow : OpenClaim := { program := "ytkpelkbkemohlaadoor", sum := "abfda73ee461f041a7d34f49457e9cccc6a3e8c69022b89caa973b9a2fe3ce1c", func := "loop.example/g00744/laws.FnSubst", spec := "fnSubst", unfollowed := true, recurses := true, named := ["loop.example/g00744/impl.errLevel"], ifaces := true, apart := false, laid := [("loop.example/g00744/impl.errLevel", laid_loop_example_g00744_impl_errLevel)] }
def FnSubstSaid : Prop := fnSubstRow.holds Tryd.pinned (OpenSpec.ofChange fnSubstSpec)

/-- ITS FALSE NEIGHBOUR: 'it returns false'. Refute it at one input. -/
def fnSubstWrong : ChangeSpec := { name := "fnSubst", vars := ["loop.example/g00744/impl.errLevel"], fn := fun _ => fun
  | [d, g1] => { results := [.lit (.bool false)], args := [d], vars := [g1] }
  | _ => none }
def FnSubstWrongFalsely : Prop := fnSubstRow.holds Tryd.pinned (OpenSpec.ofChange fnSubstWrong)

/-- 'laws.FnParams': WHATEVER THE INPUT: true; the input reads as it did. -/
def fnParamsSpec : ChangeSpec := { name := "fnParams", vars := ["loop.example/g00744/impl.errLevel"], fn := fun _ => fun
  | [d, g1] => { results := [.lit (.bool true)], args := [d], vars := [g1] }
  | _ => none }
def fnParamsRow : OpenClaim := { program := "ytkpelkbkemohlaadoor", sum := "abfda73ee461f041a7d34f49457e9cccc6a3e8c69022b89caa973b9a2fe3ce1c", func := "loop.example/g00744/laws.FnParams", spec := "fnParams", unfollowed := true, recurses := true, named := ["loop.example/g00744/impl.errLevel"], ifaces := true, apart := false, laid := [("loop.example/g00744/impl.errLevel", laid_loop_example_g00744_impl_errLevel)] }
def FnParamsSaid : Prop := fnParamsRow.holds Tryd.pinned (OpenSpec.ofChange fnParamsSpec)

/-- ITS FALSE NEIGHBOUR: 'it returns false'. Refute it at one input. -/
def fnParamsWrong : ChangeSpec := { name := "fnParams", vars := ["loop.example/g00744/impl.errLevel"], fn := fun _ => fun
  | [d, g1] => { results := [.lit (.bool false)], args := [d], vars := [g1] }
  | _ => none }
def FnParamsWrongFalsely : Prop := fnParamsRow.holds Tryd.pinned (OpenSpec.ofChange fnParamsWrong)

/-- 'laws.FnMonotone': WHATEVER THE INPUT: true; the input reads as it did. -/
def fnMonotoneSpec : ChangeSpec := { name := "fnMonotone", vars := ["loop.example/g00744/impl.errLevel"], fn := fun _ => fun
  | [d, g1] => { results := [.lit (.bool true)], args := [d], vars := [g1] }
  | _ => none }
def fnMonotoneRow : OpenClaim := { program := "ytkpelkbkemohlaadoor", sum := "abfda73ee461f041a7d34f49457e9cccc6a3e8c69022b89caa973b9a2fe3ce1c", func := "loop.example/g00744/laws.FnMonotone", spec := "fnMonotone", unfollowed := true, recurses := true, named := ["loop.example/g00744/impl.errLevel"], ifaces := true, apart := false, laid := [("loop.example/g00744/impl.errLevel", laid_loop_example_g00744_impl_errLevel)] }
def FnMonotoneSaid : Prop := fnMonotoneRow.holds Tryd.pinned (OpenSpec.ofChange fnMonotoneSpec)

/-- ITS FALSE NEIGHBOUR: 'it returns false'. Refute it at one input. -/
def fnMonotoneWrong : ChangeSpec := { name := "fnMonotone", vars := ["loop.example/g00744/impl.errLevel"], fn := fun _ => fun
  | [d, g1] => { results := [.lit (.bool false)], args := [d], vars := [g1] }
  | _ => none }
def FnMonotoneWrongFalsely : Prop := fnMonotoneRow.holds Tryd.pinned (OpenSpec.ofChange fnMonotoneWrong)

/-- 'laws.FnExactLevelOk': WHATEVER THE INPUT: true; the input reads as it did. -/
def fnExactLevelOkSpec : ChangeSpec := { name := "fnExactLevelOk", vars := ["loop.example/g00744/impl.errLevel"], fn := fun _ => fun
  | [d, g1] => { results := [.lit (.bool true)], args := [d], vars := [g1] }
  | _ => none }
def fnExactLevelOkRow : OpenClaim := { program := "ytkpelkbkemohlaadoor", sum := "abfda73ee461f041a7d34f49457e9cccc6a3e8c69022b89caa973b9a2fe3ce1c", func := "loop.example/g00744/laws.FnExactLevelOk", spec := "fnExactLevelOk", unfollowed := true, recurses := true, named := ["loop.example/g00744/impl.errLevel"], ifaces := true, apart := false, laid := [("loop.example/g00744/impl.errLevel", laid_loop_example_g00744_impl_errLevel)] }
def FnExactLevelOkSaid : Prop := fnExactLevelOkRow.holds Tryd.pinned (OpenSpec.ofChange fnExactLevelOkSpec)

/-- ITS FALSE NEIGHBOUR: 'it returns false'. Refute it at one input. -/
def fnExactLevelOkWrong : ChangeSpec := { name := "fnExactLevelOk", vars := ["loop.example/g00744/impl.errLevel"], fn := fun _ => fun
  | [d, g1] => { results := [.lit (.bool false)], args := [d], vars := [g1] }
  | _ => none }
def FnExactLevelOkWrongFalsely : Prop := fnExactLevelOkRow.holds Tryd.pinned (OpenSpec.ofChange fnExactLevelOkWrong)

/-- 'laws.FnExactLevelEval': WHATEVER THE INPUT: true; the input reads as it did. -/
def fnExactLevelEvalSpec : ChangeSpec := { name := "fnExactLevelEval", vars := ["loop.example/g00744/impl.errLevel"], fn := fun _ => fun
  | [d1, d2, g1] => { results := [.lit (.bool true)], args := [d1, d2], vars := [g1] }
  | _ => none }
def fnExactLevelEvalRow : OpenClaim := { program := "ytkpelkbkemohlaadoor", sum := "abfda73ee461f041a7d34f49457e9cccc6a3e8c69022b89caa973b9a2fe3ce1c", func := "loop.example/g00744/laws.FnExactLevelEval", spec := "fnExactLevelEval", unfollowed := true, recurses := true, named := ["loop.example/g00744/impl.errLevel"], ifaces := true, apart := false, laid := [("loop.example/g00744/impl.errLevel", laid_loop_example_g00744_impl_errLevel)] }
def FnExactLevelEvalSaid : Prop := fnExactLevelEvalRow.holds Tryd.pinned (OpenSpec.ofChange fnExactLevelEvalSpec)

/-- ITS FALSE NEIGHBOUR: 'it returns false'. Refute it at one input. -/
def fnExactLevelEvalWrong : ChangeSpec := { name := "fnExactLevelEval", vars := ["loop.example/g00744/impl.errLevel"], fn := fun _ => fun
  | [d1, d2, g1] => { results := [.lit (.bool false)], args := [d1, d2], vars := [g1] }
  | _ => none }
def FnExactLevelEvalWrongFalsely : Prop := fnExactLevelEvalRow.holds Tryd.pinned (OpenSpec.ofChange fnExactLevelEvalWrong)

/-- 'laws.FnExactLevelParams': WHATEVER THE INPUT: true; the input reads as it did. -/
def fnExactLevelParamsSpec : ChangeSpec := { name := "fnExactLevelParams", vars := ["loop.example/g00744/impl.errLevel"], fn := fun _ => fun
  | [d, g1] => { results := [.lit (.bool true)], args := [d], vars := [g1] }
  | _ => none }
def fnExactLevelParamsRow : OpenClaim := { program := "ytkpelkbkemohlaadoor", sum := "abfda73ee461f041a7d34f49457e9cccc6a3e8c69022b89caa973b9a2fe3ce1c", func := "loop.example/g00744/laws.FnExactLevelParams", spec := "fnExactLevelParams", unfollowed := true, recurses := true, named := ["loop.example/g00744/impl.errLevel"], ifaces := true, apart := false, laid := [("loop.example/g00744/impl.errLevel", laid_loop_example_g00744_impl_errLevel)] }
def FnExactLevelParamsSaid : Prop := fnExactLevelParamsRow.holds Tryd.pinned (OpenSpec.ofChange fnExactLevelParamsSpec)

/-- ITS FALSE NEIGHBOUR: 'it returns false'. Refute it at one input. -/
def fnExactLevelParamsWrong : ChangeSpec := { name := "fnExactLevelParams", vars := ["loop.example/g00744/impl.errLevel"], fn := fun _ => fun
  | [d, g1] => { results := [.lit (.bool false)], args := [d], vars := [g1] }
  | _ => none }
def FnExactLevelParamsWrongFalsely : Prop := fnExactLevelParamsRow.holds Tryd.pinned (OpenSpec.ofChange fnExactLevelParamsWrong)

/-- 'laws.FnExactLevelOff': WHATEVER THE INPUT: true; the input reads as it did. -/
def fnExactLevelOffSpec : ChangeSpec := { name := "fnExactLevelOff", vars := ["loop.example/g00744/impl.errLevel"], fn := fun _ => fun
  | [d, g1] => { results := [.lit (.bool true)], args := [d], vars := [g1] }
  | _ => none }
def fnExactLevelOffRow : OpenClaim := { program := "ytkpelkbkemohlaadoor", sum := "abfda73ee461f041a7d34f49457e9cccc6a3e8c69022b89caa973b9a2fe3ce1c", func := "loop.example/g00744/laws.FnExactLevelOff", spec := "fnExactLevelOff", unfollowed := true, recurses := true, named := ["loop.example/g00744/impl.errLevel"], ifaces := true, apart := false, laid := [("loop.example/g00744/impl.errLevel", laid_loop_example_g00744_impl_errLevel)] }
def FnExactLevelOffSaid : Prop := fnExactLevelOffRow.holds Tryd.pinned (OpenSpec.ofChange fnExactLevelOffSpec)

/-- ITS FALSE NEIGHBOUR: 'it returns false'. Refute it at one input. -/
def fnExactLevelOffWrong : ChangeSpec := { name := "fnExactLevelOff", vars := ["loop.example/g00744/impl.errLevel"], fn := fun _ => fun
  | [d, g1] => { results := [.lit (.bool false)], args := [d], vars := [g1] }
  | _ => none }
def FnExactLevelOffWrongFalsely : Prop := fnExactLevelOffRow.holds Tryd.pinned (OpenSpec.ofChange fnExactLevelOffWrong)

/-- 'laws.FnExactLevelSucc': WHATEVER THE INPUT: true; the input reads as it did. -/
def fnExactLevelSuccSpec : ChangeSpec := { name := "fnExactLevelSucc", vars := ["loop.example/g00744/impl.errLevel"], fn := fun _ => fun
  | [d1, d2, g1] => { results := [.lit (.bool true)], args := [d1, d2], vars := [g1] }
  | _ => none }
def fnExactLevelSuccRow : OpenClaim := { program := "ytkpelkbkemohlaadoor", sum := "abfda73ee461f041a7d34f49457e9cccc6a3e8c69022b89caa973b9a2fe3ce1c", func := "loop.example/g00744/laws.FnExactLevelSucc", spec := "fnExactLevelSucc", unfollowed := true, recurses := true, named := ["loop.example/g00744/impl.errLevel"], ifaces := true, apart := false, laid := [("loop.example/g00744/impl.errLevel", laid_loop_example_g00744_impl_errLevel)] }
def FnExactLevelSuccSaid : Prop := fnExactLevelSuccRow.holds Tryd.pinned (OpenSpec.ofChange fnExactLevelSuccSpec)

/-- ITS FALSE NEIGHBOUR: 'it returns false'. Refute it at one input. -/
def fnExactLevelSuccWrong : ChangeSpec := { name := "fnExactLevelSucc", vars := ["loop.example/g00744/impl.errLevel"], fn := fun _ => fun
  | [d1, d2, g1] => { results := [.lit (.bool false)], args := [d1, d2], vars := [g1] }
  | _ => none }
def FnExactLevelSuccWrongFalsely : Prop := fnExactLevelSuccRow.holds Tryd.pinned (OpenSpec.ofChange fnExactLevelSuccWrong)

/-- 'laws.FnExactLevelJoin': WHATEVER THE INPUT: true; the input reads as it did. -/
def fnExactLevelJoinSpec : ChangeSpec := { name := "fnExactLevelJoin", vars := ["loop.example/g00744/impl.errLevel"], fn := fun _ => fun
  | [d1, d2, d3, g1] => { results := [.lit (.bool true)], args := [d1, d2, d3], vars := [g1] }
  | _ => none }
def fnExactLevelJoinRow : OpenClaim := { program := "ytkpelkbkemohlaadoor", sum := "abfda73ee461f041a7d34f49457e9cccc6a3e8c69022b89caa973b9a2fe3ce1c", func := "loop.example/g00744/laws.FnExactLevelJoin", spec := "fnExactLevelJoin", unfollowed := true, recurses := true, named := ["loop.example/g00744/impl.errLevel"], ifaces := true, apart := false, laid := [("loop.example/g00744/impl.errLevel", laid_loop_example_g00744_impl_errLevel)] }
def FnExactLevelJoinSaid : Prop := fnExactLevelJoinRow.holds Tryd.pinned (OpenSpec.ofChange fnExactLevelJoinSpec)

/-- ITS FALSE NEIGHBOUR: 'it returns false'. Refute it at one input. -/
def fnExactLevelJoinWrong : ChangeSpec := { name := "fnExactLevelJoin", vars := ["loop.example/g00744/impl.errLevel"], fn := fun _ => fun
  | [d1, d2, d3, g1] => { results := [.lit (.bool false)], args := [d1, d2, d3], vars := [g1] }
  | _ => none }
def FnExactLevelJoinWrongFalsely : Prop := fnExactLevelJoinRow.holds Tryd.pinned (OpenSpec.ofChange fnExactLevelJoinWrong)

/-- 'laws.FnExactLevelSubst': WHATEVER THE INPUT: true; the input reads as it did. -/
def fnExactLevelSubstSpec : ChangeSpec := { name := "fnExactLevelSubst", vars := ["loop.example/g00744/impl.errLevel"], fn := fun _ => fun
  | [d1, d2, g1] => { results := [.lit (.bool true)], args := [d1, d2], vars := [g1] }
  | _ => none }
def fnExactLevelSubstRow : OpenClaim := { program := "ytkpelkbkemohlaadoor", sum := "abfda73ee461f041a7d34f49457e9cccc6a3e8c69022b89caa973b9a2fe3ce1c", func := "loop.example/g00744/laws.FnExactLevelSubst", spec := "fnExactLevelSubst", unfollowed := true, recurses := true, named := ["loop.example/g00744/impl.errLevel"], ifaces := true, apart := false, laid := [("loop.example/g00744/impl.errLevel", laid_loop_example_g00744_impl_errLevel)] }
def FnExactLevelSubstSaid : Prop := fnExactLevelSubstRow.holds Tryd.pinned (OpenSpec.ofChange fnExactLevelSubstSpec)

/-- ITS FALSE NEIGHBOUR: 'it returns false'. Refute it at one input. -/
def fnExactLevelSubstWrong : ChangeSpec := { name := "fnExactLevelSubst", vars := ["loop.example/g00744/impl.errLevel"], fn := fun _ => fun
  | [d1, d2, g1] => { results := [.lit (.bool false)], args := [d1, d2], vars := [g1] }
  | _ => none }
def FnExactLevelSubstWrongFalsely : Prop := fnExactLevelSubstRow.holds Tryd.pinned (OpenSpec.ofChange fnExactLevelSubstWrong)

/-- 'laws.FnExactLevelText': WHATEVER THE INPUT: true; the input reads as it did. -/
def fnExactLevelTextSpec : ChangeSpec := { name := "fnExactLevelText", vars := ["loop.example/g00744/impl.errLevel"], fn := fun _ => fun
  | [d, g1] => { results := [.lit (.bool true)], args := [d], vars := [g1] }
  | _ => none }
def fnExactLevelTextRow : OpenClaim := { program := "ytkpelkbkemohlaadoor", sum := "abfda73ee461f041a7d34f49457e9cccc6a3e8c69022b89caa973b9a2fe3ce1c", func := "loop.example/g00744/laws.FnExactLevelText", spec := "fnExactLevelText", inPlace := ["internal/abi.NoEscape", "internal/bytealg.MakeNoZero"], unfollowed := true, recurses := true, named := ["loop.example/g00744/impl.errLevel", "internal/strconv.uint64pow10", "math/bits.deBruijn32tab", "math/bits.deBruijn64tab"], ifaces := true, apart := false, laid := [("math/bits.deBruijn32tab", laid_math_bits_deBruijn32tab), ("math/bits.deBruijn64tab", laid_math_bits_deBruijn64tab), ("internal/strconv.uint64pow10", laid_internal_strconv_uint64pow10), ("loop.example/g00744/impl.errLevel", laid_loop_example_g00744_impl_errLevel)] }
def FnExactLevelTextSaid : Prop := fnExactLevelTextRow.holds Tryd.pinned (OpenSpec.ofChange fnExactLevelTextSpec)

/-- ITS FALSE NEIGHBOUR: 'it returns false'. Refute it at one input. -/
def fnExactLevelTextWrong : ChangeSpec := { name := "fnExactLevelText", vars := ["loop.example/g00744/impl.errLevel"], fn := fun _ => fun
  | [d, g1] => { results := [.lit (.bool false)], args := [d], vars := [g1] }
  | _ => none }
def FnExactLevelTextWrongFalsely : Prop := fnExactLevelTextRow.holds Tryd.pinned (OpenSpec.ofChange fnExactLevelTextWrong)

/- THE SECOND FORM. 'bulk': how many values and letters a reading holds, each counted each time it is reached (what is shared counts as often as it is met; a slice's spare places count too). A statement '..UptoSaid' is the law's where the arguments, and the package variables that the reading takes, are together of bulk at most 1048576: NARROWER than '..Said'. Prove '..Said' where nothing that the law and all that it calls make is longer than what came in: it says more and counts as full. Else prove '..UptoSaid'. A law counts once. -/
mutual
def uptoBulk {H : Type} : DataW H → Nat
  | .lit (.string bytes) => bytes.length + 1
  | .lit _ => 1
  | .nil => 1
  | .ptr d => uptoBulk d + 1
  | .slice elems spare => uptoBulkAll elems + uptoBulkAll spare + 1
  | .agg parts => uptoBulkAll parts + 1
  | .iface _ d => uptoBulk d + 1
  | .map entries => uptoBulkEntries entries + 1
  | .held _ => 1
def uptoBulkAll {H : Type} : List (DataW H) → Nat
  | [] => 0
  | d :: r => uptoBulk d + uptoBulkAll r
def uptoBulkEntries {H : Type} : List (Lit × DataW H) → Nat
  | [] => 0
  | x :: r => uptoBulkEntry x + uptoBulkEntries r
def uptoBulkEntry {H : Type} : Lit × DataW H → Nat
  | (.string bytes, d) => bytes.length + uptoBulk d + 1
  | (_, d) => uptoBulk d + 1
 end
def uptoSmall : (H : Type) → List (DataW H) → Bool := fun _ ds => decide (uptoBulkAll ds ≤ 1048576)
def OpenSpec.upto (s : _root_.Go.ChangeSpec) : _root_.Go.OpenSpec := { _root_.Go.OpenSpec.ofChange s with cond := some uptoSmall }

/-- 'laws.FnEval', WHERE WHAT IT READS IS OF BULK AT MOST 1048576: true; the input reads as it did. -/
def fnEvalUptoRow : OpenClaim := { program := "ytkpelkbkemohlaadoor", sum := "abfda73ee461f041a7d34f49457e9cccc6a3e8c69022b89caa973b9a2fe3ce1c", func := "loop.example/g00744/laws.FnEval", spec := "fnEval", unfollowed := true, recurses := true, named := ["loop.example/g00744/impl.errLevel"], ifaces := true, apart := false, laid := [("loop.example/g00744/impl.errLevel", laid_loop_example_g00744_impl_errLevel)], narrowed := true }
def FnEvalUptoSaid : Prop := fnEvalUptoRow.holds Tryd.pinned (OpenSpec.upto fnEvalSpec)

/-- 'laws.FnSubst', WHERE WHAT IT READS IS OF BULK AT MOST 1048576: true; the input reads as it did. -/
def fnSubstUptoRow : OpenClaim := { program := "ytkpelkbkemohlaadoor", sum := "abfda73ee461f041a7d34f49457e9cccc6a3e8c69022b89caa973b9a2fe3ce1c", func := "loop.example/g00744/laws.FnSubst", spec := "fnSubst", unfollowed := true, recurses := true, named := ["loop.example/g00744/impl.errLevel"], ifaces := true, apart := false, laid := [("loop.example/g00744/impl.errLevel", laid_loop_example_g00744_impl_errLevel)], narrowed := true }
def FnSubstUptoSaid : Prop := fnSubstUptoRow.holds Tryd.pinned (OpenSpec.upto fnSubstSpec)

/-- 'laws.FnParams', WHERE WHAT IT READS IS OF BULK AT MOST 1048576: true; the input reads as it did. -/
def fnParamsUptoRow : OpenClaim := { program := "ytkpelkbkemohlaadoor", sum := "abfda73ee461f041a7d34f49457e9cccc6a3e8c69022b89caa973b9a2fe3ce1c", func := "loop.example/g00744/laws.FnParams", spec := "fnParams", unfollowed := true, recurses := true, named := ["loop.example/g00744/impl.errLevel"], ifaces := true, apart := false, laid := [("loop.example/g00744/impl.errLevel", laid_loop_example_g00744_impl_errLevel)], narrowed := true }
def FnParamsUptoSaid : Prop := fnParamsUptoRow.holds Tryd.pinned (OpenSpec.upto fnParamsSpec)

/-- 'laws.FnMonotone', WHERE WHAT IT READS IS OF BULK AT MOST 1048576: true; the input reads as it did. -/
def fnMonotoneUptoRow : OpenClaim := { program := "ytkpelkbkemohlaadoor", sum := "abfda73ee461f041a7d34f49457e9cccc6a3e8c69022b89caa973b9a2fe3ce1c", func := "loop.example/g00744/laws.FnMonotone", spec := "fnMonotone", unfollowed := true, recurses := true, named := ["loop.example/g00744/impl.errLevel"], ifaces := true, apart := false, laid := [("loop.example/g00744/impl.errLevel", laid_loop_example_g00744_impl_errLevel)], narrowed := true }
def FnMonotoneUptoSaid : Prop := fnMonotoneUptoRow.holds Tryd.pinned (OpenSpec.upto fnMonotoneSpec)

/-- 'laws.FnExactLevelOk', WHERE WHAT IT READS IS OF BULK AT MOST 1048576: true; the input reads as it did. -/
def fnExactLevelOkUptoRow : OpenClaim := { program := "ytkpelkbkemohlaadoor", sum := "abfda73ee461f041a7d34f49457e9cccc6a3e8c69022b89caa973b9a2fe3ce1c", func := "loop.example/g00744/laws.FnExactLevelOk", spec := "fnExactLevelOk", unfollowed := true, recurses := true, named := ["loop.example/g00744/impl.errLevel"], ifaces := true, apart := false, laid := [("loop.example/g00744/impl.errLevel", laid_loop_example_g00744_impl_errLevel)], narrowed := true }
def FnExactLevelOkUptoSaid : Prop := fnExactLevelOkUptoRow.holds Tryd.pinned (OpenSpec.upto fnExactLevelOkSpec)

/-- 'laws.FnExactLevelEval', WHERE WHAT IT READS IS OF BULK AT MOST 1048576: true; the input reads as it did. -/
def fnExactLevelEvalUptoRow : OpenClaim := { program := "ytkpelkbkemohlaadoor", sum := "abfda73ee461f041a7d34f49457e9cccc6a3e8c69022b89caa973b9a2fe3ce1c", func := "loop.example/g00744/laws.FnExactLevelEval", spec := "fnExactLevelEval", unfollowed := true, recurses := true, named := ["loop.example/g00744/impl.errLevel"], ifaces := true, apart := false, laid := [("loop.example/g00744/impl.errLevel", laid_loop_example_g00744_impl_errLevel)], narrowed := true }
def FnExactLevelEvalUptoSaid : Prop := fnExactLevelEvalUptoRow.holds Tryd.pinned (OpenSpec.upto fnExactLevelEvalSpec)

/-- 'laws.FnExactLevelParams', WHERE WHAT IT READS IS OF BULK AT MOST 1048576: true; the input reads as it did. -/
def fnExactLevelParamsUptoRow : OpenClaim := { program := "ytkpelkbkemohlaadoor", sum := "abfda73ee461f041a7d34f49457e9cccc6a3e8c69022b89caa973b9a2fe3ce1c", func := "loop.example/g00744/laws.FnExactLevelParams", spec := "fnExactLevelParams", unfollowed := true, recurses := true, named := ["loop.example/g00744/impl.errLevel"], ifaces := true, apart := false, laid := [("loop.example/g00744/impl.errLevel", laid_loop_example_g00744_impl_errLevel)], narrowed := true }
def FnExactLevelParamsUptoSaid : Prop := fnExactLevelParamsUptoRow.holds Tryd.pinned (OpenSpec.upto fnExactLevelParamsSpec)

/-- 'laws.FnExactLevelOff', WHERE WHAT IT READS IS OF BULK AT MOST 1048576: true; the input reads as it did. -/
def fnExactLevelOffUptoRow : OpenClaim := { program := "ytkpelkbkemohlaadoor", sum := "abfda73ee461f041a7d34f49457e9cccc6a3e8c69022b89caa973b9a2fe3ce1c", func := "loop.example/g00744/laws.FnExactLevelOff", spec := "fnExactLevelOff", unfollowed := true, recurses := true, named := ["loop.example/g00744/impl.errLevel"], ifaces := true, apart := false, laid := [("loop.example/g00744/impl.errLevel", laid_loop_example_g00744_impl_errLevel)], narrowed := true }
def FnExactLevelOffUptoSaid : Prop := fnExactLevelOffUptoRow.holds Tryd.pinned (OpenSpec.upto fnExactLevelOffSpec)

/-- 'laws.FnExactLevelSucc', WHERE WHAT IT READS IS OF BULK AT MOST 1048576: true; the input reads as it did. -/
def fnExactLevelSuccUptoRow : OpenClaim := { program := "ytkpelkbkemohlaadoor", sum := "abfda73ee461f041a7d34f49457e9cccc6a3e8c69022b89caa973b9a2fe3ce1c", func := "loop.example/g00744/laws.FnExactLevelSucc", spec := "fnExactLevelSucc", unfollowed := true, recurses := true, named := ["loop.example/g00744/impl.errLevel"], ifaces := true, apart := false, laid := [("loop.example/g00744/impl.errLevel", laid_loop_example_g00744_impl_errLevel)], narrowed := true }
def FnExactLevelSuccUptoSaid : Prop := fnExactLevelSuccUptoRow.holds Tryd.pinned (OpenSpec.upto fnExactLevelSuccSpec)

/-- 'laws.FnExactLevelJoin', WHERE WHAT IT READS IS OF BULK AT MOST 1048576: true; the input reads as it did. -/
def fnExactLevelJoinUptoRow : OpenClaim := { program := "ytkpelkbkemohlaadoor", sum := "abfda73ee461f041a7d34f49457e9cccc6a3e8c69022b89caa973b9a2fe3ce1c", func := "loop.example/g00744/laws.FnExactLevelJoin", spec := "fnExactLevelJoin", unfollowed := true, recurses := true, named := ["loop.example/g00744/impl.errLevel"], ifaces := true, apart := false, laid := [("loop.example/g00744/impl.errLevel", laid_loop_example_g00744_impl_errLevel)], narrowed := true }
def FnExactLevelJoinUptoSaid : Prop := fnExactLevelJoinUptoRow.holds Tryd.pinned (OpenSpec.upto fnExactLevelJoinSpec)

/-- 'laws.FnExactLevelSubst', WHERE WHAT IT READS IS OF BULK AT MOST 1048576: true; the input reads as it did. -/
def fnExactLevelSubstUptoRow : OpenClaim := { program := "ytkpelkbkemohlaadoor", sum := "abfda73ee461f041a7d34f49457e9cccc6a3e8c69022b89caa973b9a2fe3ce1c", func := "loop.example/g00744/laws.FnExactLevelSubst", spec := "fnExactLevelSubst", unfollowed := true, recurses := true, named := ["loop.example/g00744/impl.errLevel"], ifaces := true, apart := false, laid := [("loop.example/g00744/impl.errLevel", laid_loop_example_g00744_impl_errLevel)], narrowed := true }
def FnExactLevelSubstUptoSaid : Prop := fnExactLevelSubstUptoRow.holds Tryd.pinned (OpenSpec.upto fnExactLevelSubstSpec)

/-- 'laws.FnExactLevelText', WHERE WHAT IT READS IS OF BULK AT MOST 1048576: true; the input reads as it did. -/
def fnExactLevelTextUptoRow : OpenClaim := { program := "ytkpelkbkemohlaadoor", sum := "abfda73ee461f041a7d34f49457e9cccc6a3e8c69022b89caa973b9a2fe3ce1c", func := "loop.example/g00744/laws.FnExactLevelText", spec := "fnExactLevelText", inPlace := ["internal/abi.NoEscape", "internal/bytealg.MakeNoZero"], unfollowed := true, recurses := true, named := ["loop.example/g00744/impl.errLevel", "internal/strconv.uint64pow10", "math/bits.deBruijn32tab", "math/bits.deBruijn64tab"], ifaces := true, apart := false, laid := [("math/bits.deBruijn32tab", laid_math_bits_deBruijn32tab), ("math/bits.deBruijn64tab", laid_math_bits_deBruijn64tab), ("internal/strconv.uint64pow10", laid_internal_strconv_uint64pow10), ("loop.example/g00744/impl.errLevel", laid_loop_example_g00744_impl_errLevel)], narrowed := true }
def FnExactLevelTextUptoSaid : Prop := fnExactLevelTextUptoRow.holds Tryd.pinned (OpenSpec.upto fnExactLevelTextSpec)

end Rows
end Go.Proofs.YtkpelkbkemohlaaDoor
