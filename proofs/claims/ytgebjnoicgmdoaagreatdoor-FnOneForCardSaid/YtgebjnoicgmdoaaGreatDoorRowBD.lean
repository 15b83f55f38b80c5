/- What every row of this seat needs: the variable errLevel as it is laid, an argument that is a slice of tokens, a start that fits. -/
/- Rows that list two variables: errLevel and errCons. -/
/- An argument that is a slice of bytes. -/
/- An argument that is a slice of bytes, with its capacity. -/
import Derived.Test.YtgebjnoicgmdoaaGreatDoorActs
import Derived.Test.YtgebjnoicgmdoaaGreatDoorCards
import Derived.Test.YtgebjnoicgmdoaaGreatDoorTie
import Derived.ProofKit
import Derived.OpenShut
import Derived.OpenVars
import Derived.Deep.SlicePairs
import Derived.Deep.DeepHandedRow
import Derived.LaidLaws
import Derived.ChangeVars
import Derived.SizedLaws
import Derived.Test.YtgebjnoicgmdoaaGreatDoorUnCu
import Derived.Test.YtgebjnoicgmdoaaGreatDoorCsMath

namespace Go.Proofs.YtgebjnoicgmdoaaGreatDoor
open Go.ChangeShapes Go.WideShapes Go.ChangeAt Go.RowKit

theorem own : ownKnob Tryz.prog.godebug = none := by kernel_rfl
theorem laidOut : laidOutB Tryz.prog = true := by kernel_rfl
theorem gErr : Tryz.prog.globalNamed "loop.example/g00744/impl.errLevel" = some 1 := by kernel_rfl
theorem gErrType : (Tryz.prog.globals[1]?).map (·.type) = some 81 := by kernel_rfl
/-- the text of errLevel -/
def errText : ByteArray := { data := #[110, 111, 116, 32, 97, 32, 118, 97, 108, 105, 100, 32, 108, 101, 118, 101, 108] }
/-- how many blocks the settled world has -/
noncomputable def low : Nat := (World.holding Tryz.prog default ⟨#[], #[], []⟩).heap.size
end Go.Proofs.YtgebjnoicgmdoaaGreatDoor

namespace Go.Proofs.YtgebjnoicgmdoaaGreatDoor
open Go.ChangeShapes Go.WideShapes Go.ChangeAt Go.RowKit

theorem gErrC : Tryz.prog.globalNamed "loop.example/g00744/impl.errCons" = some 0 := by kernel_rfl
theorem gErrCType : (Tryz.prog.globals[0]?).map (·.type) = some 81 := by kernel_rfl
/-- what the row's list gives: each variable's one cell holds an interface value that is not nil -/
theorem errs_of_laid {W : World} (h : laidMetH Tryz.prog [("loop.example/g00744/impl.errLevel", Rows.laid_loop_example_g00744_impl_errLevel), ("loop.example/g00744/impl.errCons", Rows.laid_loop_example_g00744_impl_errCons)] W) : ∃ T pv Tc pc, ErrAt W T pv ∧ ErrCAt W Tc pc := by
  have h' : laidMet Tryz.prog [("loop.example/g00744/impl.errLevel", Rows.laid_loop_example_g00744_impl_errLevel), ("loop.example/g00744/impl.errCons", Rows.laid_loop_example_g00744_impl_errCons)] W := h
  obtain ⟨ps, ⟨g0, t0, cs0, f0, p0, q0, hg0, ht0, hv0, hd0, ⟨g1, t1, cs1, f1, p1, q1, hg1, ht1, hv1, hd1, _, e1⟩, e0⟩, _, _⟩ := h'
  obtain rfl := Option.some.inj (gErr.symm.trans hg0)
  obtain rfl := Option.some.inj (gErrType.symm.trans ht0)
  obtain rfl := Option.some.inj (gErrC.symm.trans hg1)
  obtain rfl := Option.some.inj (gErrCType.symm.trans ht1)
  obtain ⟨fuel', u, v, hcs, _, _⟩ := iface_of_trod Tryz.underlying81 hd0
  obtain ⟨fuel1, u1, v1, hcs1, _, _⟩ := iface_of_trod Tryz.underlying81 hd1
  refine ⟨u, v, u1, v1, ?_, ?_⟩
  · have hc := World.var?_cell gErr hv0 0
    have : cs0[0]? = some (.iface u v) := by
      have := congrArg (·[0]?) hcs
      simpa using this
    rw [ErrAt, hc]
    exact this
  · have hc := World.var?_cell gErrC hv1 0
    have : cs1[0]? = some (.iface u1 v1) := by
      have := congrArg (·[0]?) hcs1
      simpa using this
    rw [ErrCAt, hc]
    exact this
/-- the text of errCons -/
def errTextC : ByteArray := { data := #[110, 111, 116, 32, 97, 32, 118, 97, 108, 105, 100, 32, 108, 105, 115, 116, 32, 111, 102, 32, 99, 111, 110, 115, 116, 114, 97, 105, 110, 116, 115] }
noncomputable def base2 (os : Os) : World := World.holding Tryz.prog os ⟨#[.cells #[.string errText] 249, .cells #[.string errTextC] 249], #[], []⟩
/-- a world for the witness: the settled one with two blocks more, the errors; the variables hold pointers to them -/
noncomputable def laidWorld2 (os : Os) : World :=
  { base2 os with heap := ((base2 os).heap.modify 1 fun
      | .cells _ t frozen => .cells #[.iface 228 (.pointer (some ⟨low, 0, none⟩))] t frozen
      | o => o).modify 0 fun
      | .cells _ t frozen => .cells #[.iface 228 (.pointer (some ⟨low + 1, 0, none⟩))] t frozen
      | o => o }
theorem laid_met2 (os : Os) (args : Array Value) : laidMet Tryz.prog [("loop.example/g00744/impl.errLevel", Rows.laid_loop_example_g00744_impl_errLevel), ("loop.example/g00744/impl.errCons", Rows.laid_loop_example_g00744_impl_errCons)] ((laidWorld2 os).forCall (fun _ _ => 0) ⟨#[], args, []⟩).memory :=
  laidMet_of_run' 8 (by kernel_rfl) (by kernel_rfl)
end Go.Proofs.YtgebjnoicgmdoaaGreatDoor

namespace Go.Proofs.YtgebjnoicgmdoaaGreatDoor
open Go.ChangeShapes Go.WideShapes Go.ChangeAt Go.RowKit

theorem cellsU8 : Tryz.prog.cellsOf 5 = 1 := by kernel_rfl
theorem wf_u8 {n : Int} (h : (Lit.int .u8 n).wf = true) : 0 ≤ n ∧ n < 256 := by
  have h1 : IntKind.u8.min = 0 := by decide
  have h2 : IntKind.u8.max = 255 := by decide
  simp only [Lit.wf, h1, h2, Bool.and_eq_true, decide_eq_true_eq] at h
  omega

end Go.Proofs.YtgebjnoicgmdoaaGreatDoor

namespace Go.Proofs.YtgebjnoicgmdoaaGreatDoor
open Go.ChangeShapes Go.WideShapes Go.ChangeAt Go.RowKit

theorem bytes_of_argC {H : Type} {enc : TypeId × Value → H} {W : World} {A : Option Addr} {len cap : Nat} {d : DataW H} {p : List MemPlace}
    (h : DataW.Trod enc Tryz.prog W 0 (fun _ => true) true 22 (.slice A len cap) d p) : BytR W W.heap.size A len ∧ len ≤ cap := by
  obtain ⟨fuel, hf⟩ := h
  rcases open_ints Tryz.underlying22 Tryz.underlying5 cellsU8 hf with ⟨hcs, _⟩ | ⟨a, len', cap', zs, hcs, _, hl, hm, hz, _, hcell, hwf⟩
  · simp [Value.cells] at hcs
    obtain ⟨rfl, rfl, rfl⟩ := hcs
    exact ⟨fun h => absurd h (by omega), by omega⟩
  · simp [Value.cells] at hcs
    obtain ⟨rfl, rfl, rfl⟩ := hcs
    have hzc : zs.length = cap := by simpa using hz
    refine ⟨fun h0 => ?_, hl⟩
    obtain ⟨b, off, spot⟩ := a
    have hc0 := hcell 0 (by omega)
    have hspot : spot = none := by simpa [Addr.add] using World.cell?_spot hc0
    subst hspot
    have hadd : ∀ j, (⟨b, off, none⟩ : Addr).add j = ⟨b, off + j, none⟩ := by
      intro j
      unfold Addr.add
      by_cases h : j = 0
      · subst h; rfl
      · rw [if_neg h]
    refine ⟨b, off, rfl, ?_, fun k hk => ?_⟩
    · have := World.block_lt_of_cell? W _ hc0
      simpa [hadd] using this
    · have hc := hcell k (by omega)
      rw [hadd] at hc
      have hmem : zs.getD k 0 ∈ zs := by
        rw [List.getD_eq_getElem?_getD, List.getElem?_eq_getElem (by omega)]
        exact List.getElem_mem (by omega)
      obtain ⟨h1, h2⟩ := wf_u8 (hwf _ hmem)
      obtain ⟨x, hx⟩ := Int.eq_ofNat_of_zero_le h1
      exact ⟨x, by omega, by rw [hc, hx]⟩
end Go.Proofs.YtgebjnoicgmdoaaGreatDoor
