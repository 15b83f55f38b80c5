/- What the rows over constraints need: an argument that is a slice of constraints, or one constraint. -/
import Derived.Test.YtmmhcpigcdlnmaaRowN
import Derived.Test.YtmmhcpigcdlnmaaCoMem
import Derived.Deep.Strs

namespace Go.Proofs.Ytmmhcpigcdlnmaa
open Go.ChangeShapes Go.WideShapes Go.ChangeAt Go.RowKit
open Cs (Cn)

section
variable {H : Type} {enc : TypeId × Value → H} {P : Program} {w : World} {base : Nat} {spare : Nat → Bool} {held : Bool}
theorem trip_cells {e : TypeId} {f0 f1 f2 : Field} {fuel : Nat} {v : List Value} {x : DataW H × List MemPlace} (he : P.underlying e = some (.struct #[f0, f1, f2]))
    (o0 : f0.offset = 0) (o1 : f1.offset = 1) (o2 : f2.offset = 2) (c0 : P.cellsOf f0.type = 1) (c1 : P.cellsOf f1.type = 1) (c2 : P.cellsOf f2.type = 1) (hlen : v.length = 3)
    (h : DataW.trod enc P w base spare held fuel e v = some x) :
    ∃ (v0 v1 v2 : Value) (n : Nat) (y0 y1 y2 : DataW H × List MemPlace), v = [v0, v1, v2] ∧ DataW.trod enc P w base spare held n f0.type [v0] = some y0 ∧ DataW.trod enc P w base spare held n f1.type [v1] = some y1 ∧ DataW.trod enc P w base spare held n f2.type [v2] = some y2 := by
  obtain ⟨xs, k, hk, hxy, _, hxl, hf⟩ := DataW.trod_struct he h
  match xs, hxl, v, hlen with
  | [y0, y1, y2], _, [v0, v1, v2], _ =>
    have g0 := hf 0 f0 rfl
    have g1 := hf 1 f1 rfl
    have g2 := hf 2 f2 rfl
    simp [o0, o1, o2, c0, c1, c2] at g0 g1 g2
    exact ⟨v0, v1, v2, k, y0, y1, y2, rfl, g0, g1, g2⟩
end
theorem cellsCon : Try.prog.cellsOf 91 = 3 := by kernel_rfl
/-- one constraint that is an argument -/
theorem con_cells {H : Type} {enc : TypeId × Value → H} {W : World} {fuel : Nat} {v : List Value} {x : DataW H × List MemPlace} (hlen : v.length = 3)
    (h : DataW.trod enc Try.prog W 0 (fun _ => true) true fuel 91 v = some x) : ∃ U R V : Int, v = [.int .i64 U, .int .i64 R, .int .i64 V] := by
  obtain ⟨v0, v1, v2, n, y0, y1, y2, rfl, g0, g1, g2⟩ := trip_cells Try.underlying91 rfl rfl rfl cellsInt cellsInt cellsInt hlen h
  obtain ⟨x, ex, _, _⟩ := DataW.trod_int Try.underlying3 g0
  obtain ⟨y, ey, _, _⟩ := DataW.trod_int Try.underlying3 g1
  obtain ⟨z, ez, _, _⟩ := DataW.trod_int Try.underlying3 g2
  simp at ex ey ez
  subst ex; subst ey; subst ez
  exact ⟨x, y, z, rfl⟩
theorem con_of_arg {H : Type} {enc : TypeId × Value → H} {W : World} {cs : Array Value} {d : DataW H} {p : List MemPlace}
    (h : DataW.Trod enc Try.prog W 0 (fun _ => true) true 91 (.agg cs) d p) (hs : cs.size = Try.prog.cellsOf 91) : ∃ U R V : Int, cs = #[.int .i64 U, .int .i64 R, .int .i64 V] := by
  obtain ⟨fuel, hf⟩ := h
  rw [cellsCon] at hs
  have hf' : DataW.trod enc Try.prog W 0 (fun _ => true) true fuel 91 cs.toList = some (d, p) := hf
  obtain ⟨U, R, V, e⟩ := con_cells (by simpa using hs) hf'
  exact ⟨U, R, V, by cases cs; simp at e; rw [e]⟩
theorem cons_of_arg {H : Type} {enc : TypeId × Value → H} {W : World} {A : Option Addr} {len cap : Nat} {d : DataW H} {p : List MemPlace}
    (h : DataW.Trod enc Try.prog W 0 (fun _ => true) true 46 (.slice A len cap) d p) : ∃ l, ConR W W.heap.size A len l ∧ (len : Int) ≤ 9223372036854775807 := by
  obtain ⟨fuel, hf⟩ := h
  rcases Deep.open_slice Try.underlying46 hf with ⟨hcs, _⟩ | ⟨a, len', cap', m, n, D, Pl, hcs, _, hl, hm, hmm, _, hx⟩
  · simp [Value.cells] at hcs
    obtain ⟨rfl, rfl, rfl⟩ := hcs
    exact ⟨[], ⟨rfl, fun h => absurd h (by omega)⟩, by omega⟩
  · simp [Value.cells] at hcs
    obtain ⟨rfl, rfl, rfl⟩ := hcs
    have hmc : m = cap := by simpa using hmm
    subst hmc
    have each : ∀ i, i < m → ∃ q : Cn, W.cell? (a.add (i * 3)) = some (.int .i64 q.1) ∧ W.cell? (a.add (i * 3 + 1)) = some (.int .i64 q.2.1) ∧ W.cell? (a.add (i * 3 + 2)) = some (.int .i64 q.2.2) := by
      intro i hi
      obtain ⟨cs', h1, h2⟩ := hx i hi
      rw [cellsCon] at h1
      obtain ⟨_, hlen, hcell⟩ := World.cells?_some h1
      obtain ⟨U, R, V, rfl⟩ := con_cells hlen h2
      have e0 := hcell 0 (by omega)
      have e1 := hcell 1 (by omega)
      have e2 := hcell 2 (by omega)
      rw [Deep.add_add] at e0 e1 e2
      exact ⟨(U, R, V), by simpa using e0, by simpa using e1, by simpa using e2⟩
    obtain ⟨q, hq⟩ := Deep.choose_lt each
    refine ⟨(List.range len).map q, ⟨by simp, fun h0 => ?_⟩, by unfold maxLen at hm; omega⟩
    obtain ⟨b, off, spot⟩ := a
    have hc0 := (hq 0 (by omega)).1
    have hspot : spot = none := by simpa [Addr.add] using World.cell?_spot hc0
    subst hspot
    have hadd : ∀ j, (⟨b, off, none⟩ : Addr).add j = ⟨b, off + j, none⟩ := by
      intro j
      unfold Addr.add
      by_cases h : j = 0
      · subst h; rfl
      · rw [if_neg h]
    refine ⟨b, off, rfl, ?_, fun k hk => ?_⟩
    · have := World.block_lt_of_cell? W _ hc0
      simpa [hadd] using this
    · obtain ⟨c0, c1, c2⟩ := hq k (by omega)
      rw [hadd] at c0 c1 c2
      have eg : ((List.range len).map q).getD k (0, 0, 0) = q k := by
        simp [List.getD_eq_getElem?_getD, hk]
      rw [eg]
      exact ⟨c0, c1, c2⟩
end Go.Proofs.Ytmmhcpigcdlnmaa
