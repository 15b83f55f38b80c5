/- What every row of this seat needs: the variable errLevel as it is laid, an argument that is a slice of tokens, a start that fits. -/
/- An argument that is a slice of bytes. -/
import Derived.Test.YtfmhmnpmdjpmeaaDoorApReg
import Derived.Test.YtfmhmnpmdjpmeaaDoorCards
import Derived.Test.YtfmhmnpmdjpmeaaDoorTie
import Derived.ProofKit
import Derived.OpenShut
import Derived.OpenVars
import Derived.Deep.SlicePairs
import Derived.Deep.DeepHandedRow
import Derived.LaidLaws
import Derived.ChangeVars
import Derived.SizedLaws
import Derived.Test.YtfmhmnpmdjpmeaaDoorCur3

namespace Go.Proofs.YtfmhmnpmdjpmeaaDoor
open Go.ChangeShapes Go.WideShapes Go.ChangeAt Go.RowKit

theorem own : ownKnob Tryd.prog.godebug = none := by kernel_rfl
theorem laidOut : laidOutB Tryd.prog = true := by kernel_rfl
theorem gErr : Tryd.prog.globalNamed "loop.example/g00744/impl.errLevel" = some 0 := by kernel_rfl
theorem gErrType : (Tryd.prog.globals[0]?).map (·.type) = some 137 := by kernel_rfl
/-- what the row's list gives: the variable's one cell holds an interface value that is not nil -/
theorem errAt_of_laid {W : World} (h : laidMetH Tryd.prog [("loop.example/g00744/impl.errLevel", Rows.laid_loop_example_g00744_impl_errLevel)] W) : ∃ T pv, ErrAt W T pv := by
  have h' : laidMet Tryd.prog [("loop.example/g00744/impl.errLevel", Rows.laid_loop_example_g00744_impl_errLevel)] W := h
  obtain ⟨ps, ⟨g0, t0, cs0, f0, p0, q0, hg0, ht0, hv0, hd0, _, e0⟩, _, _⟩ := h'
  obtain rfl := Option.some.inj (gErr.symm.trans hg0)
  obtain rfl := Option.some.inj (gErrType.symm.trans ht0)
  obtain ⟨fuel', u, v, hcs, _, _⟩ := iface_of_trod Tryd.underlying137 hd0
  refine ⟨u, v, ?_⟩
  have hc := World.var?_cell gErr hv0 0
  have : cs0[0]? = some (.iface u v) := by
    have := congrArg (·[0]?) hcs
    simpa using this
  rw [ErrAt, hc]
  exact this

/-- the text of errLevel -/
def errText : ByteArray := { data := #[110, 111, 116, 32, 97, 32, 118, 97, 108, 105, 100, 32, 108, 101, 118, 101, 108] }
/-- how many blocks the settled world has -/
noncomputable def low : Nat := (World.holding Tryd.prog default ⟨#[], #[], []⟩).heap.size
/-- a world for the witness: the settled one with one block more, the error; the variable holds a pointer to it -/
noncomputable def laidWorld (os : Os) : World :=
  { World.holding Tryd.prog os ⟨#[.cells #[.string errText] 181], #[], []⟩ with heap := (World.holding Tryd.prog os ⟨#[.cells #[.string errText] 181], #[], []⟩).heap.modify 0 fun
      | .cells _ t frozen => .cells #[.iface 164 (.pointer (some ⟨low, 0, none⟩))] t frozen
      | o => o }
theorem laid_met (os : Os) (args : Array Value) : laidMet Tryd.prog [("loop.example/g00744/impl.errLevel", Rows.laid_loop_example_g00744_impl_errLevel)] ((laidWorld os).forCall (fun _ _ => 0) ⟨#[], args, []⟩).memory :=
  laidMet_of_run (ps := [.cell 0 0, .cell low 0]) 8 (by kernel_rfl) (by kernel_rfl) (by kernel_rfl)
end Go.Proofs.YtfmhmnpmdjpmeaaDoor

namespace Go.Proofs.YtfmhmnpmdjpmeaaDoor
open Go.ChangeShapes Go.WideShapes Go.ChangeAt Go.RowKit

theorem cellsU8 : Tryd.prog.cellsOf 5 = 1 := by kernel_rfl
theorem wf_u8 {n : Int} (h : (Lit.int .u8 n).wf = true) : 0 ≤ n ∧ n < 256 := by
  have h1 : IntKind.u8.min = 0 := by decide
  have h2 : IntKind.u8.max = 255 := by decide
  simp only [Lit.wf, h1, h2, Bool.and_eq_true, decide_eq_true_eq] at h
  omega

theorem bytes_of_arg {H : Type} {enc : TypeId × Value → H} {W : World} {A : Option Addr} {len cap : Nat} {d : DataW H} {p : List MemPlace}
    (h : DataW.Trod enc Tryd.prog W 0 (fun _ => true) true 46 (.slice A len cap) d p) : ∃ _ : Unit, BytR W W.heap.size A len ∧ (len : Int) ≤ 9223372036854775807 := by
  obtain ⟨fuel, hf⟩ := h
  rcases open_ints Tryd.underlying46 Tryd.underlying5 cellsU8 hf with ⟨hcs, _⟩ | ⟨a, len', cap', zs, hcs, _, hl, hm, hz, _, hcell, hwf⟩
  · simp [Value.cells] at hcs
    obtain ⟨rfl, rfl, rfl⟩ := hcs
    exact ⟨(), fun h => absurd h (by omega), by omega⟩
  · simp [Value.cells] at hcs
    obtain ⟨rfl, rfl, rfl⟩ := hcs
    have hzc : zs.length = cap := by simpa using hz
    refine ⟨(), fun h0 => ?_, by unfold maxLen at hm; omega⟩
    obtain ⟨b, off, spot⟩ := a
    have hc0 := hcell 0 (by omega)
    have hspot : spot = none := by simpa [Addr.add] using World.cell?_spot hc0
    subst hspot
    have hadd : ∀ j, (⟨b, off, none⟩ : Addr).add j = ⟨b, off + j, none⟩ := by
      intro j
      unfold Addr.add
      by_cases h : j = 0
      · subst h; rfl
      · rw [if_neg h]
    refine ⟨b, off, rfl, ?_, fun k hk => ?_⟩
    · have := World.block_lt_of_cell? W _ hc0
      simpa [hadd] using this
    · have hc := hcell k (by omega)
      rw [hadd] at hc
      have hmem : zs.getD k 0 ∈ zs := by
        rw [List.getD_eq_getElem?_getD, List.getElem?_eq_getElem (by omega)]
        exact List.getElem_mem (by omega)
      obtain ⟨h1, h2⟩ := wf_u8 (hwf _ hmem)
      obtain ⟨x, hx⟩ := Int.eq_ofNat_of_zero_le h1
      exact ⟨x, by omega, by rw [hc, hx]⟩
end Go.Proofs.YtfmhmnpmdjpmeaaDoor
