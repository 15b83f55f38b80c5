/- What every row of this seat needs: the variable errLevel as it is laid, an argument that is a slice of tokens, a start that fits. -/
/- What the rows over nodes need: an argument that is a slice of nodes. -/
import Derived.Test.YtfmhmnpmdjpmeaaDoorMeth
import Derived.Test.YtfmhmnpmdjpmeaaDoorCards
import Derived.Test.YtfmhmnpmdjpmeaaDoorTie
import Derived.ProofKit
import Derived.OpenShut
import Derived.OpenVars
import Derived.Deep.SlicePairs
import Derived.Deep.DeepHandedRow
import Derived.LaidLaws
import Derived.ChangeVars
import Derived.SizedLaws
import Derived.Test.YtfmhmnpmdjpmeaaDoorNdKey
import Derived.Deep.Strs

namespace Go.Proofs.YtfmhmnpmdjpmeaaDoor
open Go.ChangeShapes Go.WideShapes Go.ChangeAt Go.RowKit

theorem own : ownKnob Tryd.prog.godebug = none := by kernel_rfl
theorem laidOut : laidOutB Tryd.prog = true := by kernel_rfl
theorem gErr : Tryd.prog.globalNamed "loop.example/g00744/impl.errLevel" = some 0 := by kernel_rfl
theorem gErrType : (Tryd.prog.globals[0]?).map (·.type) = some 137 := by kernel_rfl
theorem cellsInt : Tryd.prog.cellsOf 3 = 1 := by kernel_rfl

/-- what the row's list gives: the variable's one cell holds an interface value that is not nil -/
theorem errAt_of_laid {W : World} (h : laidMetH Tryd.prog [("loop.example/g00744/impl.errLevel", Rows.laid_loop_example_g00744_impl_errLevel)] W) : ∃ T pv, ErrAt W T pv := by
  have h' : laidMet Tryd.prog [("loop.example/g00744/impl.errLevel", Rows.laid_loop_example_g00744_impl_errLevel)] W := h
  obtain ⟨ps, ⟨g0, t0, cs0, f0, p0, q0, hg0, ht0, hv0, hd0, _, e0⟩, _, _⟩ := h'
  obtain rfl := Option.some.inj (gErr.symm.trans hg0)
  obtain rfl := Option.some.inj (gErrType.symm.trans ht0)
  obtain ⟨fuel', u, v, hcs, _, _⟩ := iface_of_trod Tryd.underlying137 hd0
  refine ⟨u, v, ?_⟩
  have hc := World.var?_cell gErr hv0 0
  have : cs0[0]? = some (.iface u v) := by
    have := congrArg (·[0]?) hcs
    simpa using this
  rw [ErrAt, hc]
  exact this

/-- the text of errLevel -/
def errText : ByteArray := { data := #[110, 111, 116, 32, 97, 32, 118, 97, 108, 105, 100, 32, 108, 101, 118, 101, 108] }
/-- how many blocks the settled world has -/
noncomputable def low : Nat := (World.holding Tryd.prog default ⟨#[], #[], []⟩).heap.size
/-- a world for the witness: the settled one with one block more, the error; the variable holds a pointer to it -/
noncomputable def laidWorld (os : Os) : World :=
  { World.holding Tryd.prog os ⟨#[.cells #[.string errText] 181], #[], []⟩ with heap := (World.holding Tryd.prog os ⟨#[.cells #[.string errText] 181], #[], []⟩).heap.modify 0 fun
      | .cells _ t frozen => .cells #[.iface 164 (.pointer (some ⟨low, 0, none⟩))] t frozen
      | o => o }
theorem laid_met (os : Os) (args : Array Value) : laidMet Tryd.prog [("loop.example/g00744/impl.errLevel", Rows.laid_loop_example_g00744_impl_errLevel)] ((laidWorld os).forCall (fun _ _ => 0) ⟨#[], args, []⟩).memory :=
  laidMet_of_run (ps := [.cell 0 0, .cell low 0]) 8 (by kernel_rfl) (by kernel_rfl) (by kernel_rfl)
end Go.Proofs.YtfmhmnpmdjpmeaaDoor

namespace Go.Proofs.YtfmhmnpmdjpmeaaDoor
open Go.ChangeShapes Go.WideShapes Go.ChangeAt Go.RowKit

section
variable {H : Type} {enc : TypeId × Value → H} {P : Program} {w : World} {base : Nat} {spare : Nat → Bool} {held : Bool}
theorem quad_cells {e : TypeId} {f0 f1 f2 f3 : Field} {fuel : Nat} {v : List Value} {x : DataW H × List MemPlace} (he : P.underlying e = some (.struct #[f0, f1, f2, f3]))
    (o0 : f0.offset = 0) (o1 : f1.offset = 1) (o2 : f2.offset = 2) (o3 : f3.offset = 3) (c0 : P.cellsOf f0.type = 1) (c1 : P.cellsOf f1.type = 1) (c2 : P.cellsOf f2.type = 1) (c3 : P.cellsOf f3.type = 1) (hlen : v.length = 4)
    (h : DataW.trod enc P w base spare held fuel e v = some x) :
    ∃ (v0 v1 v2 v3 : Value) (n : Nat) (y0 y1 y2 y3 : DataW H × List MemPlace), v = [v0, v1, v2, v3] ∧ DataW.trod enc P w base spare held n f0.type [v0] = some y0 ∧ DataW.trod enc P w base spare held n f1.type [v1] = some y1 ∧ DataW.trod enc P w base spare held n f2.type [v2] = some y2 ∧ DataW.trod enc P w base spare held n f3.type [v3] = some y3 := by
  obtain ⟨xs, k, hk, hxy, _, hxl, hf⟩ := DataW.trod_struct he h
  match xs, hxl, v, hlen with
  | [y0, y1, y2, y3], _, [v0, v1, v2, v3], _ =>
    have g0 := hf 0 f0 rfl
    have g1 := hf 1 f1 rfl
    have g2 := hf 2 f2 rfl
    have g3 := hf 3 f3 rfl
    simp [o0, o1, o2, o3, c0, c1, c2, c3] at g0 g1 g2 g3
    exact ⟨v0, v1, v2, v3, k, y0, y1, y2, y3, rfl, g0, g1, g2, g3⟩
end
theorem cellsNod : Tryd.prog.cellsOf 76 = 4 := by kernel_rfl
/-- one constraint that is an argument -/
theorem nod_cells {H : Type} {enc : TypeId × Value → H} {W : World} {fuel : Nat} {v : List Value} {x : DataW H × List MemPlace} (hlen : v.length = 4)
    (h : DataW.trod enc Tryd.prog W 0 (fun _ => true) true fuel 76 v = some x) : ∃ U R V X : Int, v = [.int .i64 U, .int .i64 R, .int .i64 V, .int .i64 X] := by
  obtain ⟨v0, v1, v2, v3, n, y0, y1, y2, y3, rfl, g0, g1, g2, g3⟩ := quad_cells Tryd.underlying76 rfl rfl rfl rfl cellsInt cellsInt cellsInt cellsInt hlen h
  obtain ⟨x, ex, _, _⟩ := DataW.trod_int Tryd.underlying3 g0
  obtain ⟨y, ey, _, _⟩ := DataW.trod_int Tryd.underlying3 g1
  obtain ⟨z, ez, _, _⟩ := DataW.trod_int Tryd.underlying3 g2
  obtain ⟨u, eu, _, _⟩ := DataW.trod_int Tryd.underlying3 g3
  simp at ex ey ez eu
  subst ex; subst ey; subst ez; subst eu
  exact ⟨x, y, z, u, rfl⟩
theorem nodes_of_arg {H : Type} {enc : TypeId × Value → H} {W : World} {A : Option Addr} {len cap : Nat} {d : DataW H} {p : List MemPlace}
    (h : DataW.Trod enc Tryd.prog W 0 (fun _ => true) true 22 (.slice A len cap) d p) : ∃ l, NodR W W.heap.size A len l ∧ (len : Int) ≤ 9223372036854775807 := by
  obtain ⟨fuel, hf⟩ := h
  rcases Deep.open_slice Tryd.underlying22 hf with ⟨hcs, _⟩ | ⟨a, len', cap', m, n, D, Pl, hcs, _, hl, hm, hmm, _, hx⟩
  · simp [Value.cells] at hcs
    obtain ⟨rfl, rfl, rfl⟩ := hcs
    exact ⟨[], ⟨rfl, fun h => absurd h (by omega)⟩, by omega⟩
  · simp [Value.cells] at hcs
    obtain ⟨rfl, rfl, rfl⟩ := hcs
    have hmc : m = cap := by simpa using hmm
    subst hmc
    have each : ∀ i, i < m → ∃ q : Nd, W.cell? (a.add (i * 4)) = some (.int .i64 q.1) ∧ W.cell? (a.add (i * 4 + 1)) = some (.int .i64 q.2.1) ∧ W.cell? (a.add (i * 4 + 2)) = some (.int .i64 q.2.2.1) ∧ W.cell? (a.add (i * 4 + 3)) = some (.int .i64 q.2.2.2) := by
      intro i hi
      obtain ⟨cs', h1, h2⟩ := hx i hi
      rw [cellsNod] at h1
      obtain ⟨_, hlen, hcell⟩ := World.cells?_some h1
      obtain ⟨U, R, V, X, rfl⟩ := nod_cells hlen h2
      have e0 := hcell 0 (by omega)
      have e1 := hcell 1 (by omega)
      have e2 := hcell 2 (by omega)
      have e3 := hcell 3 (by omega)
      rw [Deep.add_add] at e0 e1 e2 e3
      exact ⟨(U, R, V, X), by simpa using e0, by simpa using e1, by simpa using e2, by simpa using e3⟩
    obtain ⟨q, hq⟩ := Deep.choose_lt each
    refine ⟨(List.range len).map q, ⟨by simp, fun h0 => ?_⟩, by unfold maxLen at hm; omega⟩
    obtain ⟨b, off, spot⟩ := a
    have hc0 := (hq 0 (by omega)).1
    have hspot : spot = none := by simpa [Addr.add] using World.cell?_spot hc0
    subst hspot
    have hadd : ∀ j, (⟨b, off, none⟩ : Addr).add j = ⟨b, off + j, none⟩ := by
      intro j
      unfold Addr.add
      by_cases h : j = 0
      · subst h; rfl
      · rw [if_neg h]
    refine ⟨b, off, rfl, ?_, fun k hk => ?_⟩
    · have := World.block_lt_of_cell? W _ hc0
      simpa [hadd] using this
    · obtain ⟨c0, c1, c2, c3⟩ := hq k (by omega)
      rw [hadd] at c0 c1 c2 c3
      have eg : ((List.range len).map q).getD k nd0 = q k := by
        simp [List.getD_eq_getElem?_getD, hk]
      rw [eg]
      exact ⟨c0, c1, c2, c3⟩
end Go.Proofs.YtfmhmnpmdjpmeaaDoor
