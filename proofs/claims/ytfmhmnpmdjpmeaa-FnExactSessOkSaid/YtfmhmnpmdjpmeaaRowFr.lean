/- What the rows over constraints need: an argument that is a slice of constraints, or one constraint. -/
/- An argument that is a session: a struct with a slice of frames, each of a slice of numbers and a slice of constraints. -/
import Derived.Test.YtfmhmnpmdjpmeaaRowN
import Derived.Test.YtfmhmnpmdjpmeaaCoMem
import Derived.Deep.Strs
import Derived.Test.YtfmhmnpmdjpmeaaNMath

namespace Go.Proofs.Ytfmhmnpmdjpmeaa
open Go.ChangeShapes Go.WideShapes Go.ChangeAt Go.RowKit
open Cs (Cn)

section
variable {H : Type} {enc : TypeId × Value → H} {P : Program} {w : World} {base : Nat} {spare : Nat → Bool} {held : Bool}
theorem trip_cells {e : TypeId} {f0 f1 f2 : Field} {fuel : Nat} {v : List Value} {x : DataW H × List MemPlace} (he : P.underlying e = some (.struct #[f0, f1, f2]))
    (o0 : f0.offset = 0) (o1 : f1.offset = 1) (o2 : f2.offset = 2) (c0 : P.cellsOf f0.type = 1) (c1 : P.cellsOf f1.type = 1) (c2 : P.cellsOf f2.type = 1) (hlen : v.length = 3)
    (h : DataW.trod enc P w base spare held fuel e v = some x) :
    ∃ (v0 v1 v2 : Value) (n : Nat) (y0 y1 y2 : DataW H × List MemPlace), v = [v0, v1, v2] ∧ DataW.trod enc P w base spare held n f0.type [v0] = some y0 ∧ DataW.trod enc P w base spare held n f1.type [v1] = some y1 ∧ DataW.trod enc P w base spare held n f2.type [v2] = some y2 := by
  obtain ⟨xs, k, hk, hxy, _, hxl, hf⟩ := DataW.trod_struct he h
  match xs, hxl, v, hlen with
  | [y0, y1, y2], _, [v0, v1, v2], _ =>
    have g0 := hf 0 f0 rfl
    have g1 := hf 1 f1 rfl
    have g2 := hf 2 f2 rfl
    simp [o0, o1, o2, c0, c1, c2] at g0 g1 g2
    exact ⟨v0, v1, v2, k, y0, y1, y2, rfl, g0, g1, g2⟩
end
theorem cellsCon : Try.prog.cellsOf 129 = 3 := by kernel_rfl
/-- one constraint that is an argument -/
theorem con_cells {H : Type} {enc : TypeId × Value → H} {W : World} {fuel : Nat} {v : List Value} {x : DataW H × List MemPlace} (hlen : v.length = 3)
    (h : DataW.trod enc Try.prog W 0 (fun _ => true) true fuel 129 v = some x) : ∃ U R V : Int, v = [.int .i64 U, .int .i64 R, .int .i64 V] := by
  obtain ⟨v0, v1, v2, n, y0, y1, y2, rfl, g0, g1, g2⟩ := trip_cells Try.underlying129 rfl rfl rfl cellsInt cellsInt cellsInt hlen h
  obtain ⟨x, ex, _, _⟩ := DataW.trod_int Try.underlying3 g0
  obtain ⟨y, ey, _, _⟩ := DataW.trod_int Try.underlying3 g1
  obtain ⟨z, ez, _, _⟩ := DataW.trod_int Try.underlying3 g2
  simp at ex ey ez
  subst ex; subst ey; subst ez
  exact ⟨x, y, z, rfl⟩
theorem cons_of_arg {H : Type} {enc : TypeId × Value → H} {W : World} {A : Option Addr} {len cap : Nat} {d : DataW H} {p : List MemPlace}
    (h : DataW.Trod enc Try.prog W 0 (fun _ => true) true 93 (.slice A len cap) d p) : ∃ l, ConR W W.heap.size A len l ∧ (len : Int) ≤ 9223372036854775807 := by
  obtain ⟨fuel, hf⟩ := h
  rcases Deep.open_slice Try.underlying93 hf with ⟨hcs, _⟩ | ⟨a, len', cap', m, n, D, Pl, hcs, _, hl, hm, hmm, _, hx⟩
  · simp [Value.cells] at hcs
    obtain ⟨rfl, rfl, rfl⟩ := hcs
    exact ⟨[], ⟨rfl, fun h => absurd h (by omega)⟩, by omega⟩
  · simp [Value.cells] at hcs
    obtain ⟨rfl, rfl, rfl⟩ := hcs
    have hmc : m = cap := by simpa using hmm
    subst hmc
    have each : ∀ i, i < m → ∃ q : Cn, W.cell? (a.add (i * 3)) = some (.int .i64 q.1) ∧ W.cell? (a.add (i * 3 + 1)) = some (.int .i64 q.2.1) ∧ W.cell? (a.add (i * 3 + 2)) = some (.int .i64 q.2.2) := by
      intro i hi
      obtain ⟨cs', h1, h2⟩ := hx i hi
      rw [cellsCon] at h1
      obtain ⟨_, hlen, hcell⟩ := World.cells?_some h1
      obtain ⟨U, R, V, rfl⟩ := con_cells hlen h2
      have e0 := hcell 0 (by omega)
      have e1 := hcell 1 (by omega)
      have e2 := hcell 2 (by omega)
      rw [Deep.add_add] at e0 e1 e2
      exact ⟨(U, R, V), by simpa using e0, by simpa using e1, by simpa using e2⟩
    obtain ⟨q, hq⟩ := Deep.choose_lt each
    refine ⟨(List.range len).map q, ⟨by simp, fun h0 => ?_⟩, by unfold maxLen at hm; omega⟩
    obtain ⟨b, off, spot⟩ := a
    have hc0 := (hq 0 (by omega)).1
    have hspot : spot = none := by simpa [Addr.add] using World.cell?_spot hc0
    subst hspot
    have hadd : ∀ j, (⟨b, off, none⟩ : Addr).add j = ⟨b, off + j, none⟩ := by
      intro j
      unfold Addr.add
      by_cases h : j = 0
      · subst h; rfl
      · rw [if_neg h]
    refine ⟨b, off, rfl, ?_, fun k hk => ?_⟩
    · have := World.block_lt_of_cell? W _ hc0
      simpa [hadd] using this
    · obtain ⟨c0, c1, c2⟩ := hq k (by omega)
      rw [hadd] at c0 c1 c2
      have eg : ((List.range len).map q).getD k (0, 0, 0) = q k := by
        simp [List.getD_eq_getElem?_getD, hk]
      rw [eg]
      exact ⟨c0, c1, c2⟩
end Go.Proofs.Ytfmhmnpmdjpmeaa

namespace Go.Proofs.Ytfmhmnpmdjpmeaa
open Go.ChangeShapes Go.WideShapes Go.ChangeAt Go.RowKit
open Cs (Cn)

theorem cellsFrame : Try.prog.cellsOf 95 = 2 := by kernel_rfl
theorem cellsIntS : Try.prog.cellsOf 23 = 1 := by kernel_rfl
theorem cellsConS : Try.prog.cellsOf 93 = 1 := by kernel_rfl
theorem cellsSess : Try.prog.cellsOf 37 = 1 := by kernel_rfl
theorem cellsFrameS : Try.prog.cellsOf 35 = 1 := by kernel_rfl
theorem ints_of_cell {H : Type} {enc : TypeId × Value → H} {W : World} {v : Value} {fuel : Nat} {x : DataW H × List MemPlace}
    (h : DataW.trod enc Try.prog W 0 (fun _ => true) true fuel 23 [v] = some x) : ∃ A len cap l, v = .slice A len cap ∧ IntR W W.heap.size A len l ∧ (len : Int) ≤ 9223372036854775807 ∧ len ≤ cap := by
  have h' := h
  rcases Deep.open_slice Try.underlying23 h with ⟨hcs, _⟩ | ⟨a, len, cap, m, n, D, Pl, hcs, _, hlc, _⟩
  · obtain rfl : v = .slice none 0 0 := by simpa using hcs
    obtain ⟨l, hl, hn⟩ := ints_of_arg (A := none) (len := 0) (cap := 0) (d := x.1) (p := x.2) ⟨fuel, h'⟩
    exact ⟨none, 0, 0, l, rfl, hl, hn, Nat.le_refl _⟩
  · obtain rfl : v = .slice (some a) len cap := by simpa using hcs
    obtain ⟨l, hl, hn⟩ := ints_of_arg (A := some a) (len := len) (cap := cap) (d := x.1) (p := x.2) ⟨fuel, h'⟩
    exact ⟨some a, len, cap, l, rfl, hl, hn, hlc⟩
theorem cons_of_cell {H : Type} {enc : TypeId × Value → H} {W : World} {v : Value} {fuel : Nat} {x : DataW H × List MemPlace}
    (h : DataW.trod enc Try.prog W 0 (fun _ => true) true fuel 93 [v] = some x) : ∃ A len cap l, v = .slice A len cap ∧ ConR W W.heap.size A len l ∧ (len : Int) ≤ 9223372036854775807 ∧ (A = none → cap = 0) := by
  have h' := h
  rcases Deep.open_slice Try.underlying93 h with ⟨hcs, _⟩ | ⟨a, len, cap, m, n, D, Pl, hcs, _⟩
  · obtain rfl : v = .slice none 0 0 := by simpa using hcs
    obtain ⟨l, hl, hn⟩ := cons_of_arg (A := none) (len := 0) (cap := 0) (d := x.1) (p := x.2) ⟨fuel, h'⟩
    exact ⟨none, 0, 0, l, rfl, hl, hn, fun _ => rfl⟩
  · obtain rfl : v = .slice (some a) len cap := by simpa using hcs
    obtain ⟨l, hl, hn⟩ := cons_of_arg (A := some a) (len := len) (cap := cap) (d := x.1) (p := x.2) ⟨fuel, h'⟩
    exact ⟨some a, len, cap, l, rfl, hl, hn, fun h => by cases h⟩
set_option maxRecDepth 100000 in
theorem frames_of_arg {H : Type} {enc : TypeId × Value → H} {W : World} {A : Option Addr} {len cap fuel : Nat} {x : DataW H × List MemPlace}
    (hf : DataW.trod enc Try.prog W 0 (fun _ => true) true fuel 35 [.slice A len cap] = some x) : ∃ l, FrR W W.heap.size A len l ∧ (len : Int) ≤ 9223372036854775807 := by
  rcases Deep.open_slice Try.underlying35 hf with ⟨hcs, _⟩ | ⟨a, len', cap', m, n, D, Pl, hcs, _, hl, hm, hmm, _, hx⟩
  · simp at hcs
    obtain ⟨rfl, rfl, rfl⟩ := hcs
    exact ⟨[], ⟨rfl, fun h => absurd h (by omega)⟩, by omega⟩
  · simp at hcs
    obtain ⟨rfl, rfl, rfl⟩ := hcs
    have hmc : m = cap := by simpa using hmm
    subst hmc
    have each : ∀ i, i < m → ∃ q : (Option Addr × Nat × Nat × List Int) × (Option Addr × Nat × Nat × List Cn),
        W.cell? (a.add (i * 2)) = some (.slice q.1.1 q.1.2.1 q.1.2.2.1) ∧ W.cell? (a.add (i * 2 + 1)) = some (.slice q.2.1 q.2.2.1 q.2.2.2.1) ∧
        IntR W W.heap.size q.1.1 q.1.2.1 q.1.2.2.2 ∧ ConR W W.heap.size q.2.1 q.2.2.1 q.2.2.2.2 ∧ (q.1.2.1 : Int) ≤ 9223372036854775807 ∧ (q.2.2.1 : Int) ≤ 9223372036854775807 ∧ q.1.2.1 ≤ q.1.2.2.1 ∧ (q.2.1 = none → q.2.2.2.1 = 0) := by
      intro i hi
      obtain ⟨cs', h1, h2⟩ := hx i hi
      rw [cellsFrame] at h1
      obtain ⟨_, hlen, hcell⟩ := World.cells?_some h1
      obtain ⟨xs, k, hk, hxy, _, hxl, hfl⟩ := DataW.trod_struct Try.underlying95 h2
      match xs, hxl, cs', hlen with
      | [y0, y1], _, [v0, v1], _ =>
        have g0 := hfl 0 _ rfl
        have g1 := hfl 1 _ rfl
        simp [cellsIntS, cellsConS] at g0 g1
        obtain ⟨A', l', c', t, hv, ht, hn, hlc⟩ := ints_of_cell g0
        obtain ⟨A2, l2, c2, t2, hv2, ht2, hn2, hz2⟩ := cons_of_cell g1
        have e0 := hcell 0 (by omega)
        have e1 := hcell 1 (by omega)
        rw [Deep.add_add] at e0 e1
        refine ⟨((A', l', c', t), (A2, l2, c2, t2)), ?_, ?_, ht, ht2, hn, hn2, hlc, hz2⟩
        · rw [← hv]; simpa using e0
        · rw [← hv2]; simpa using e1
    obtain ⟨q, hq⟩ := Deep.choose_lt each
    refine ⟨(List.range len).map fun i => ((q i).1.2.2.2, (q i).2.2.2.2), ⟨by simp, fun h0 => ?_⟩, by unfold maxLen at hm; omega⟩
    obtain ⟨b, off, spot⟩ := a
    have hc0 := (hq 0 (by omega)).1
    have hspot : spot = none := by simpa [Addr.add] using World.cell?_spot hc0
    subst hspot
    have hadd : ∀ j, (⟨b, off, none⟩ : Addr).add j = ⟨b, off + j, none⟩ := by
      intro j
      unfold Addr.add
      by_cases h : j = 0
      · subst h; rfl
      · rw [if_neg h]
    refine ⟨b, off, rfl, ?_, fun k hk => ?_⟩
    · have := World.block_lt_of_cell? W _ hc0
      simpa [hadd] using this
    · obtain ⟨c0, c1, t1, t2, n1, n2, n3, n4⟩ := hq k (by omega)
      rw [hadd] at c0 c1
      have eg : ((List.range len).map fun i => ((q i).1.2.2.2, (q i).2.2.2.2)).getD k fm0 = ((q k).1.2.2.2, (q k).2.2.2.2) := by
        simp [List.getD_eq_getElem?_getD, hk]
      rw [eg]
      exact ⟨_, _, _, _, _, _, c0, c1, t1, t2, n1, n2, n3, n4⟩
set_option maxRecDepth 100000 in
theorem sess_of_arg {H : Type} {enc : TypeId × Value → H} {W : World} {cs : Array Value} {d : DataW H} {p : List MemPlace}
    (h : DataW.Trod enc Try.prog W 0 (fun _ => true) true 37 (.agg cs) d p) (hs : cs.size = Try.prog.cellsOf 37) : ∃ A len cap l, cs = #[.slice A len cap] ∧ FrR W W.heap.size A len l ∧ (len : Int) ≤ 9223372036854775807 := by
  obtain ⟨fuel, hf⟩ := h
  rw [cellsSess] at hs
  have hf' : DataW.trod enc Try.prog W 0 (fun _ => true) true fuel 37 cs.toList = some (d, p) := hf
  obtain ⟨xs, k, hk, hxy, _, hxl, hfl⟩ := DataW.trod_struct Try.underlying37 hf'
  obtain ⟨v, hv⟩ : ∃ v, cs = #[v] := by
    match cs, hs with
    | ⟨[v]⟩, _ => exact ⟨v, rfl⟩
  subst hv
  match xs, hxl with
  | [y0], _ =>
    have g0 := hfl 0 _ rfl
    simp [cellsFrameS] at g0
    rcases Deep.open_slice Try.underlying35 g0 with ⟨hcs, _⟩ | ⟨a, len, cap, m, n, D, Pl, hcs, _⟩
    · obtain rfl : v = .slice none 0 0 := by simpa using hcs
      obtain ⟨l, hl, hn⟩ := frames_of_arg g0
      exact ⟨none, 0, 0, l, rfl, hl, hn⟩
    · obtain rfl : v = .slice (some a) len cap := by simpa using hcs
      obtain ⟨l, hl, hn⟩ := frames_of_arg g0
      exact ⟨some a, len, cap, l, rfl, hl, hn⟩
end Go.Proofs.Ytfmhmnpmdjpmeaa
