/- What every row of this seat needs: the variable errLevel as it is laid, an argument that is a slice of tokens, a start that fits. -/
/- Rows that list two variables: errLevel and errCons. -/
/- What the rows over constraints need: an argument that is a slice of constraints, or one constraint. -/
/- An argument that is a slice of levels. -/
/- An argument that is a slice of pairs. -/
import Derived.Test.YtgebjnoicgmdoaaGreatDoorBase
import Derived.Test.YtgebjnoicgmdoaaGreatDoorCards
import Derived.Test.YtgebjnoicgmdoaaGreatDoorTie
import Derived.ProofKit
import Derived.OpenShut
import Derived.OpenVars
import Derived.Deep.SlicePairs
import Derived.Deep.DeepHandedRow
import Derived.LaidLaws
import Derived.ChangeVars
import Derived.SizedLaws
import Derived.Test.YtgebjnoicgmdoaaGreatDoorUnCu
import Derived.Test.YtgebjnoicgmdoaaGreatDoorCoTab
import Derived.Deep.Strs
import Derived.Test.YtgebjnoicgmdoaaGreatDoorDcMath
import Derived.Test.YtgebjnoicgmdoaaGreatDoorPrR

namespace Go.Proofs.YtgebjnoicgmdoaaGreatDoor
open Go.ChangeShapes Go.WideShapes Go.ChangeAt Go.RowKit

theorem own : ownKnob Tryz.prog.godebug = none := by kernel_rfl
theorem laidOut : laidOutB Tryz.prog = true := by kernel_rfl
theorem gErr : Tryz.prog.globalNamed "loop.example/g00744/impl.errLevel" = some 1 := by kernel_rfl
theorem gErrType : (Tryz.prog.globals[1]?).map (·.type) = some 81 := by kernel_rfl
theorem cellsTok : Tryz.prog.cellsOf 117 = 2 := by kernel_rfl
theorem cellsInt : Tryz.prog.cellsOf 3 = 1 := by kernel_rfl

theorem toks_of_arg {H : Type} {enc : TypeId × Value → H} {W : World} {A : Option Addr} {len cap : Nat} {d : DataW H} {p : List MemPlace}
    (h : DataW.Trod enc Tryz.prog W 0 (fun _ => true) true 57 (.slice A len cap) d p) : ∃ l, TokR W W.heap.size A len l ∧ (len : Int) ≤ 9223372036854775807 := by
  obtain ⟨fuel, hf⟩ := h
  rcases Deep.open_slice_pairs Tryz.underlying57 Tryz.underlying117 cellsTok rfl rfl cellsInt cellsInt hf with ⟨hcs, _⟩ | ⟨a, len', cap', m, n, V0, V1, D0, D1, P0, P1, hcs, _, hl, hm, hmm, _, hx⟩
  · simp [Value.cells] at hcs
    obtain ⟨rfl, rfl, rfl⟩ := hcs
    exact ⟨[], ⟨rfl, fun h => absurd h (by omega)⟩, by omega⟩
  · simp [Value.cells] at hcs
    obtain ⟨rfl, rfl, rfl⟩ := hcs
    have hmc : m = cap := by simpa using hmm
    subst hmc
    refine ⟨(List.range len).map fun i => (intOf (V0 i), intOf (V1 i)), ⟨by simp, fun h0 => ?_⟩, by unfold maxLen at hm; omega⟩
    obtain ⟨b, off, spot⟩ := a
    have hc0 := (hx 0 (by omega)).1
    have hspot : spot = none := by simpa [Addr.add] using World.cell?_spot hc0
    subst hspot
    have hadd : ∀ j, (⟨b, off, none⟩ : Addr).add j = ⟨b, off + j, none⟩ := by
      intro j
      unfold Addr.add
      by_cases h : j = 0
      · subst h; rfl
      · rw [if_neg h]
    refine ⟨b, off, rfl, ?_, fun k hk => ?_⟩
    · have := World.block_lt_of_cell? W _ hc0
      simpa [hadd] using this
    · obtain ⟨c0, c1, t0, t1⟩ := hx k (by omega)
      rw [hadd] at c0 c1
      obtain ⟨x, ex, _, _⟩ := DataW.trod_int Tryz.underlying3 t0
      obtain ⟨y, ey, _, _⟩ := DataW.trod_int Tryz.underlying3 t1
      simp at ex ey
      have eg : ((List.range len).map fun i => (intOf (V0 i), intOf (V1 i))).getD k (0, 0) = (intOf (V0 k), intOf (V1 k)) := by
        simp [List.getD_eq_getElem?_getD, hk]
      rw [eg]
      exact ⟨c0.trans (by rw [ex]; rfl), Eq.trans c1 (by rw [ey]; rfl)⟩

/-- the text of errLevel -/
def errText : ByteArray := { data := #[110, 111, 116, 32, 97, 32, 118, 97, 108, 105, 100, 32, 108, 101, 118, 101, 108] }
/-- how many blocks the settled world has -/
noncomputable def low : Nat := (World.holding Tryz.prog default ⟨#[], #[], []⟩).heap.size
end Go.Proofs.YtgebjnoicgmdoaaGreatDoor

namespace Go.Proofs.YtgebjnoicgmdoaaGreatDoor
open Go.ChangeShapes Go.WideShapes Go.ChangeAt Go.RowKit

theorem gErrC : Tryz.prog.globalNamed "loop.example/g00744/impl.errCons" = some 0 := by kernel_rfl
theorem gErrCType : (Tryz.prog.globals[0]?).map (·.type) = some 81 := by kernel_rfl
/-- what the row's list gives: each variable's one cell holds an interface value that is not nil -/
theorem errs_of_laid {W : World} (h : laidMetH Tryz.prog [("loop.example/g00744/impl.errLevel", Rows.laid_loop_example_g00744_impl_errLevel), ("loop.example/g00744/impl.errCons", Rows.laid_loop_example_g00744_impl_errCons)] W) : ∃ T pv Tc pc, ErrAt W T pv ∧ ErrCAt W Tc pc := by
  have h' : laidMet Tryz.prog [("loop.example/g00744/impl.errLevel", Rows.laid_loop_example_g00744_impl_errLevel), ("loop.example/g00744/impl.errCons", Rows.laid_loop_example_g00744_impl_errCons)] W := h
  obtain ⟨ps, ⟨g0, t0, cs0, f0, p0, q0, hg0, ht0, hv0, hd0, ⟨g1, t1, cs1, f1, p1, q1, hg1, ht1, hv1, hd1, _, e1⟩, e0⟩, _, _⟩ := h'
  obtain rfl := Option.some.inj (gErr.symm.trans hg0)
  obtain rfl := Option.some.inj (gErrType.symm.trans ht0)
  obtain rfl := Option.some.inj (gErrC.symm.trans hg1)
  obtain rfl := Option.some.inj (gErrCType.symm.trans ht1)
  obtain ⟨fuel', u, v, hcs, _, _⟩ := iface_of_trod Tryz.underlying81 hd0
  obtain ⟨fuel1, u1, v1, hcs1, _, _⟩ := iface_of_trod Tryz.underlying81 hd1
  refine ⟨u, v, u1, v1, ?_, ?_⟩
  · have hc := World.var?_cell gErr hv0 0
    have : cs0[0]? = some (.iface u v) := by
      have := congrArg (·[0]?) hcs
      simpa using this
    rw [ErrAt, hc]
    exact this
  · have hc := World.var?_cell gErrC hv1 0
    have : cs1[0]? = some (.iface u1 v1) := by
      have := congrArg (·[0]?) hcs1
      simpa using this
    rw [ErrCAt, hc]
    exact this
/-- the text of errCons -/
def errTextC : ByteArray := { data := #[110, 111, 116, 32, 97, 32, 118, 97, 108, 105, 100, 32, 108, 105, 115, 116, 32, 111, 102, 32, 99, 111, 110, 115, 116, 114, 97, 105, 110, 116, 115] }
noncomputable def base2 (os : Os) : World := World.holding Tryz.prog os ⟨#[.cells #[.string errText] 249, .cells #[.string errTextC] 249], #[], []⟩
/-- a world for the witness: the settled one with two blocks more, the errors; the variables hold pointers to them -/
noncomputable def laidWorld2 (os : Os) : World :=
  { base2 os with heap := ((base2 os).heap.modify 1 fun
      | .cells _ t frozen => .cells #[.iface 228 (.pointer (some ⟨low, 0, none⟩))] t frozen
      | o => o).modify 0 fun
      | .cells _ t frozen => .cells #[.iface 228 (.pointer (some ⟨low + 1, 0, none⟩))] t frozen
      | o => o }
theorem laid_met2 (os : Os) (args : Array Value) : laidMet Tryz.prog [("loop.example/g00744/impl.errLevel", Rows.laid_loop_example_g00744_impl_errLevel), ("loop.example/g00744/impl.errCons", Rows.laid_loop_example_g00744_impl_errCons)] ((laidWorld2 os).forCall (fun _ _ => 0) ⟨#[], args, []⟩).memory :=
  laidMet_of_run' 8 (by kernel_rfl) (by kernel_rfl)
end Go.Proofs.YtgebjnoicgmdoaaGreatDoor

namespace Go.Proofs.YtgebjnoicgmdoaaGreatDoor
open Go.ChangeShapes Go.WideShapes Go.ChangeAt Go.RowKit
open Cs (Cn)

section
variable {H : Type} {enc : TypeId × Value → H} {P : Program} {w : World} {base : Nat} {spare : Nat → Bool} {held : Bool}
theorem trip_cells {e : TypeId} {f0 f1 f2 : Field} {fuel : Nat} {v : List Value} {x : DataW H × List MemPlace} (he : P.underlying e = some (.struct #[f0, f1, f2]))
    (o0 : f0.offset = 0) (o1 : f1.offset = 1) (o2 : f2.offset = 2) (c0 : P.cellsOf f0.type = 1) (c1 : P.cellsOf f1.type = 1) (c2 : P.cellsOf f2.type = 1) (hlen : v.length = 3)
    (h : DataW.trod enc P w base spare held fuel e v = some x) :
    ∃ (v0 v1 v2 : Value) (n : Nat) (y0 y1 y2 : DataW H × List MemPlace), v = [v0, v1, v2] ∧ DataW.trod enc P w base spare held n f0.type [v0] = some y0 ∧ DataW.trod enc P w base spare held n f1.type [v1] = some y1 ∧ DataW.trod enc P w base spare held n f2.type [v2] = some y2 := by
  obtain ⟨xs, k, hk, hxy, _, hxl, hf⟩ := DataW.trod_struct he h
  match xs, hxl, v, hlen with
  | [y0, y1, y2], _, [v0, v1, v2], _ =>
    have g0 := hf 0 f0 rfl
    have g1 := hf 1 f1 rfl
    have g2 := hf 2 f2 rfl
    simp [o0, o1, o2, c0, c1, c2] at g0 g1 g2
    exact ⟨v0, v1, v2, k, y0, y1, y2, rfl, g0, g1, g2⟩
end
theorem cellsCon : Tryz.prog.cellsOf 115 = 3 := by kernel_rfl
/-- one constraint that is an argument -/
theorem con_cells {H : Type} {enc : TypeId × Value → H} {W : World} {fuel : Nat} {v : List Value} {x : DataW H × List MemPlace} (hlen : v.length = 3)
    (h : DataW.trod enc Tryz.prog W 0 (fun _ => true) true fuel 115 v = some x) : ∃ U R V : Int, v = [.int .i64 U, .int .i64 R, .int .i64 V] := by
  obtain ⟨v0, v1, v2, n, y0, y1, y2, rfl, g0, g1, g2⟩ := trip_cells Tryz.underlying115 rfl rfl rfl cellsInt cellsInt cellsInt hlen h
  obtain ⟨x, ex, _, _⟩ := DataW.trod_int Tryz.underlying3 g0
  obtain ⟨y, ey, _, _⟩ := DataW.trod_int Tryz.underlying3 g1
  obtain ⟨z, ez, _, _⟩ := DataW.trod_int Tryz.underlying3 g2
  simp at ex ey ez
  subst ex; subst ey; subst ez
  exact ⟨x, y, z, rfl⟩
theorem cons_of_arg {H : Type} {enc : TypeId × Value → H} {W : World} {A : Option Addr} {len cap : Nat} {d : DataW H} {p : List MemPlace}
    (h : DataW.Trod enc Tryz.prog W 0 (fun _ => true) true 56 (.slice A len cap) d p) : ∃ l, ConR W W.heap.size A len l ∧ (len : Int) ≤ 9223372036854775807 := by
  obtain ⟨fuel, hf⟩ := h
  rcases Deep.open_slice Tryz.underlying56 hf with ⟨hcs, _⟩ | ⟨a, len', cap', m, n, D, Pl, hcs, _, hl, hm, hmm, _, hx⟩
  · simp [Value.cells] at hcs
    obtain ⟨rfl, rfl, rfl⟩ := hcs
    exact ⟨[], ⟨rfl, fun h => absurd h (by omega)⟩, by omega⟩
  · simp [Value.cells] at hcs
    obtain ⟨rfl, rfl, rfl⟩ := hcs
    have hmc : m = cap := by simpa using hmm
    subst hmc
    have each : ∀ i, i < m → ∃ q : Cn, W.cell? (a.add (i * 3)) = some (.int .i64 q.1) ∧ W.cell? (a.add (i * 3 + 1)) = some (.int .i64 q.2.1) ∧ W.cell? (a.add (i * 3 + 2)) = some (.int .i64 q.2.2) := by
      intro i hi
      obtain ⟨cs', h1, h2⟩ := hx i hi
      rw [cellsCon] at h1
      obtain ⟨_, hlen, hcell⟩ := World.cells?_some h1
      obtain ⟨U, R, V, rfl⟩ := con_cells hlen h2
      have e0 := hcell 0 (by omega)
      have e1 := hcell 1 (by omega)
      have e2 := hcell 2 (by omega)
      rw [Deep.add_add] at e0 e1 e2
      exact ⟨(U, R, V), by simpa using e0, by simpa using e1, by simpa using e2⟩
    obtain ⟨q, hq⟩ := Deep.choose_lt each
    refine ⟨(List.range len).map q, ⟨by simp, fun h0 => ?_⟩, by unfold maxLen at hm; omega⟩
    obtain ⟨b, off, spot⟩ := a
    have hc0 := (hq 0 (by omega)).1
    have hspot : spot = none := by simpa [Addr.add] using World.cell?_spot hc0
    subst hspot
    have hadd : ∀ j, (⟨b, off, none⟩ : Addr).add j = ⟨b, off + j, none⟩ := by
      intro j
      unfold Addr.add
      by_cases h : j = 0
      · subst h; rfl
      · rw [if_neg h]
    refine ⟨b, off, rfl, ?_, fun k hk => ?_⟩
    · have := World.block_lt_of_cell? W _ hc0
      simpa [hadd] using this
    · obtain ⟨c0, c1, c2⟩ := hq k (by omega)
      rw [hadd] at c0 c1 c2
      have eg : ((List.range len).map q).getD k (0, 0, 0) = q k := by
        simp [List.getD_eq_getElem?_getD, hk]
      rw [eg]
      exact ⟨c0, c1, c2⟩
end Go.Proofs.YtgebjnoicgmdoaaGreatDoor

namespace Go.Proofs.YtgebjnoicgmdoaaGreatDoor
open Go.ChangeShapes Go.WideShapes Go.ChangeAt Go.RowKit

theorem cellsToks : Tryz.prog.cellsOf 57 = 1 := by kernel_rfl

theorem toks_of_cell {H : Type} {enc : TypeId × Value → H} {W : World} {v : Value} {fuel : Nat} {x : DataW H × List MemPlace}
    (h : DataW.trod enc Tryz.prog W 0 (fun _ => true) true fuel 57 [v] = some x) : ∃ A len cap l, v = .slice A len cap ∧ TokR W W.heap.size A len l ∧ (len : Int) ≤ 9223372036854775807 := by
  have h' := h
  rcases Deep.open_slice Tryz.underlying57 h with ⟨hcs, _⟩ | ⟨a, len, cap, m, n, D, Pl, hcs, _⟩
  · obtain rfl : v = .slice none 0 0 := by simpa using hcs
    obtain ⟨l, hl, hn⟩ := toks_of_arg (A := none) (len := 0) (cap := 0) (d := x.1) (p := x.2) ⟨fuel, h'⟩
    exact ⟨none, 0, 0, l, rfl, hl, hn⟩
  · obtain rfl : v = .slice (some a) len cap := by simpa using hcs
    obtain ⟨l, hl, hn⟩ := toks_of_arg (A := some a) (len := len) (cap := cap) (d := x.1) (p := x.2) ⟨fuel, h'⟩
    exact ⟨some a, len, cap, l, rfl, hl, hn⟩

end Go.Proofs.YtgebjnoicgmdoaaGreatDoor

namespace Go.Proofs.YtgebjnoicgmdoaaGreatDoor
open Go.ChangeShapes Go.WideShapes Go.ChangeAt Go.RowKit

theorem cellsPair : Tryz.prog.cellsOf 122 = 3 := by kernel_rfl
theorem cellsBool : Tryz.prog.cellsOf 4 = 1 := by kernel_rfl
set_option maxRecDepth 100000 in
theorem pairs_of_arg {H : Type} {enc : TypeId × Value → H} {W : World} {A : Option Addr} {len cap : Nat} {d : DataW H} {p : List MemPlace}
    (h : DataW.Trod enc Tryz.prog W 0 (fun _ => true) true 68 (.slice A len cap) d p) : ∃ l, PrR W W.heap.size A len l ∧ (len : Int) ≤ 9223372036854775807 := by
  obtain ⟨fuel, hf⟩ := h
  rcases Deep.open_slice Tryz.underlying68 hf with ⟨hcs, _⟩ | ⟨a, len', cap', m, n, D, Pl, hcs, _, hl, hm, hmm, _, hx⟩
  · simp [Value.cells] at hcs
    obtain ⟨rfl, rfl, rfl⟩ := hcs
    exact ⟨[], ⟨rfl, fun h => absurd h (by omega)⟩, by omega⟩
  · simp [Value.cells] at hcs
    obtain ⟨rfl, rfl, rfl⟩ := hcs
    have hmc : m = cap := by simpa using hmm
    subst hmc
    have each : ∀ i, i < m → ∃ q : (Option Addr × Nat × Nat × List (Int × Int)) × Bool × (Option Addr × Nat × Nat × List (Int × Int)),
        W.cell? (a.add (i * 3)) = some (.slice q.1.1 q.1.2.1 q.1.2.2.1) ∧ W.cell? (a.add (i * 3 + 1)) = some (.bool q.2.1) ∧ W.cell? (a.add (i * 3 + 2)) = some (.slice q.2.2.1 q.2.2.2.1 q.2.2.2.2.1) ∧
        TokR W W.heap.size q.1.1 q.1.2.1 q.1.2.2.2 ∧ TokR W W.heap.size q.2.2.1 q.2.2.2.1 q.2.2.2.2.2 ∧ (q.1.2.1 : Int) ≤ 9223372036854775807 ∧ (q.2.2.2.1 : Int) ≤ 9223372036854775807 := by
      intro i hi
      obtain ⟨cs', h1, h2⟩ := hx i hi
      rw [cellsPair] at h1
      obtain ⟨_, hlen, hcell⟩ := World.cells?_some h1
      obtain ⟨xs, k, hk, hxy, _, hxl, hfl⟩ := DataW.trod_struct Tryz.underlying122 h2
      match xs, hxl, cs', hlen with
      | [y0, y1, y2], _, [v0, v1, v2], _ =>
        have g0 := hfl 0 _ rfl
        have g1 := hfl 1 _ rfl
        have g2 := hfl 2 _ rfl
        simp [cellsToks, cellsBool] at g0 g1 g2
        obtain ⟨A', l', c', t, hv, ht, hn⟩ := toks_of_cell g0
        obtain ⟨b, hb, _⟩ := DataW.trod_bool Tryz.underlying4 g1
        obtain ⟨A2, l2, c2, t2, hv2, ht2, hn2⟩ := toks_of_cell g2
        have e0 := hcell 0 (by omega)
        have e1 := hcell 1 (by omega)
        have e2 := hcell 2 (by omega)
        rw [Deep.add_add] at e0 e1 e2
        simp at hb
        refine ⟨((A', l', c', t), b, (A2, l2, c2, t2)), ?_, ?_, ?_, ht, ht2, hn, hn2⟩
        · rw [← hv]; simpa using e0
        · rw [← hb]; simpa using e1
        · rw [← hv2]; simpa using e2
    obtain ⟨q, hq⟩ := Deep.choose_lt each
    refine ⟨(List.range len).map fun i => ((q i).1.2.2.2, (q i).2.1, (q i).2.2.2.2.2), ⟨by simp, fun h0 => ?_⟩, by unfold maxLen at hm; omega⟩
    obtain ⟨b, off, spot⟩ := a
    have hc0 := (hq 0 (by omega)).1
    have hspot : spot = none := by simpa [Addr.add] using World.cell?_spot hc0
    subst hspot
    have hadd : ∀ j, (⟨b, off, none⟩ : Addr).add j = ⟨b, off + j, none⟩ := by
      intro j
      unfold Addr.add
      by_cases h : j = 0
      · subst h; rfl
      · rw [if_neg h]
    refine ⟨b, off, rfl, ?_, fun k hk => ?_⟩
    · have := World.block_lt_of_cell? W _ hc0
      simpa [hadd] using this
    · obtain ⟨c0, c1, c2, t1, t2, n1, n2⟩ := hq k (by omega)
      rw [hadd] at c0 c1 c2
      have eg : ((List.range len).map fun i => ((q i).1.2.2.2, (q i).2.1, (q i).2.2.2.2.2)).getD k pr0 = ((q k).1.2.2.2, (q k).2.1, (q k).2.2.2.2.2) := by
        simp [List.getD_eq_getElem?_getD, hk]
      rw [eg]
      exact ⟨_, _, _, _, _, _, c0, c1, c2, t1, t2, n1, n2⟩
end Go.Proofs.YtgebjnoicgmdoaaGreatDoor
