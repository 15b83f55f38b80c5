/- A row that lists five tables of the library beside errLevel. -/
import Derived.Test.YtijiohdddfdjfaaDoorRow
import Derived.Test.YtijiohdddfdjfaaDoorShelf
import Derived.Deep.DeepLaidRun
namespace Go.Proofs.YtijiohdddfdjfaaDoor
open Go.ChangeShapes Go.WideShapes Go.ChangeAt Go.RowKit

/-- what the row's longer list gives -/
theorem errAt_of_laid6 {W : World} (h : laidMetH Tryd.prog Rows.fnExactLevelReadRow.laid W) : ∃ T pv, ErrAt W T pv := by
  have h' : laidMet Tryd.prog Rows.fnExactLevelReadRow.laid W := h
  obtain ⟨ps, ⟨_, _, _, _, _, _, _, _, _, _, ⟨_, _, _, _, _, _, _, _, _, _, ⟨_, _, _, _, _, _, _, _, _, _, ⟨_, _, _, _, _, _, _, _, _, _, ⟨g0, t0, cs0, f0, p0, q0, hg0, ht0, hv0, hd0, _, e0⟩, _⟩, _⟩, _⟩, _⟩, _, _⟩ := h'
  obtain rfl := Option.some.inj (gErr.symm.trans hg0)
  obtain rfl := Option.some.inj (gErrType.symm.trans ht0)
  obtain ⟨fuel', u, v, hcs, _, _⟩ := iface_of_trod Tryd.underlying107 hd0
  refine ⟨u, v, ?_⟩
  have hc := World.var?_cell gErr hv0 0
  have : cs0[0]? = some (.iface u v) := by
    have := congrArg (·[0]?) hcs
    simpa using this
  rw [ErrAt, hc]
  exact this
/-- MaxLen holds an int, by the world's shape -/
theorem maxLen_of {W : World} (h : W.ShapedOpen Tryd.prog) : ∃ m, W.cell? Tryd.maxLenAt = some (.int .i64 m) := Tryd.laysM147.s1_3 W h

/-- the cells of a table, one struct deep -/
def oneCells : DataW Unit → List Value
  | .lit (.int k n) => [Value.int k n]
  | .agg ds => ds.map fun
      | .lit (.int k n) => Value.int k n
      | _ => .int .i64 0
  | _ => []
def tabCells6 : DataW Unit → Array Value
  | .agg ds => (ds.flatMap oneCells).toArray
  | _ => #[]
/-- the variable of that name holds these cells -/
noncomputable def putVar6 (w : World) (name : String) (cs : Array Value) : World :=
  match Tryd.prog.globalNamed name with
  | some g => { w with heap := w.heap.modify g fun
      | .cells _ t frozen => .cells cs t frozen
      | o => o }
  | none => w
noncomputable def laidWorld6 (os : Os) : World :=
  putVar6 (putVar6 (putVar6 (putVar6 (putVar6 (laidWorld os) "math/bits.deBruijn32tab" (tabCells6 Rows.laid_math_bits_deBruijn32tab)) "math/bits.deBruijn64tab" (tabCells6 Rows.laid_math_bits_deBruijn64tab)) "internal/strconv.uint64pow10" (tabCells6 Rows.laid_internal_strconv_uint64pow10)) "unicode/utf8.acceptRanges" (tabCells6 Rows.laid_unicode_utf8_acceptRanges)) "unicode/utf8.first" (tabCells6 Rows.laid_unicode_utf8_first)
theorem laid_met6 (os : Os) (args : Array Value) : laidMet Tryd.prog Rows.fnExactLevelReadRow.laid ((laidWorld6 os).forCall (fun _ _ => 0) ⟨#[], args, []⟩).memory :=
  laidMet_of_run3 8 (by kernel_rfl) (by kernel_rfl) (by kernel_rfl)
end Go.Proofs.YtijiohdddfdjfaaDoor
