/- An argument that is a slice of levels. -/
import Derived.Test.YtkpelkbkemohlaaDoorLvls
import Derived.Test.YtkpelkbkemohlaaDoorRow
namespace Go.Proofs.YtkpelkbkemohlaaDoor
open Go.ChangeShapes Go.WideShapes Go.ChangeAt Go.RowKit

theorem cellsLevel : Tryd.prog.cellsOf 93 = 1 := by kernel_rfl
theorem cellsToks : Tryd.prog.cellsOf 50 = 1 := by kernel_rfl

theorem toks_of_cell {H : Type} {enc : TypeId × Value → H} {W : World} {v : Value} {fuel : Nat} {x : DataW H × List MemPlace}
    (h : DataW.trod enc Tryd.prog W 0 (fun _ => true) true fuel 50 [v] = some x) : ∃ A len cap l, v = .slice A len cap ∧ TokR W W.heap.size A len l ∧ (len : Int) ≤ 9223372036854775807 := by
  have h' := h
  rcases Deep.open_slice Tryd.underlying50 h with ⟨hcs, _⟩ | ⟨a, len, cap, m, n, D, Pl, hcs, _⟩
  · obtain rfl : v = .slice none 0 0 := by simpa using hcs
    obtain ⟨l, hl, hn⟩ := toks_of_arg (A := none) (len := 0) (cap := 0) (d := x.1) (p := x.2) ⟨fuel, h'⟩
    exact ⟨none, 0, 0, l, rfl, hl, hn⟩
  · obtain rfl : v = .slice (some a) len cap := by simpa using hcs
    obtain ⟨l, hl, hn⟩ := toks_of_arg (A := some a) (len := len) (cap := cap) (d := x.1) (p := x.2) ⟨fuel, h'⟩
    exact ⟨some a, len, cap, l, rfl, hl, hn⟩

theorem levels_of_arg {H : Type} {enc : TypeId × Value → H} {W : World} {A : Option Addr} {len cap : Nat} {d : DataW H} {p : List MemPlace}
    (h : DataW.Trod enc Tryd.prog W 0 (fun _ => true) true 60 (.slice A len cap) d p) : ∃ l, LvlR W W.heap.size A len l ∧ (len : Int) ≤ 9223372036854775807 := by
  obtain ⟨fuel, hf⟩ := h
  rcases Deep.open_slice1 Tryd.underlying60 cellsLevel hf with ⟨hcs, _⟩ | ⟨a, len', cap', m, n, V, D, Pl, hcs, _, hl, hm, hmm, _, hx⟩
  · simp [Value.cells] at hcs
    obtain ⟨rfl, rfl, rfl⟩ := hcs
    exact ⟨[], ⟨rfl, fun h => absurd h (by omega)⟩, by omega⟩
  · simp [Value.cells] at hcs
    obtain ⟨rfl, rfl, rfl⟩ := hcs
    have hmc : m = cap := by simpa using hmm
    subst hmc
    have each : ∀ i, i < len → ∃ q : Option Addr × Nat × Nat × List (Int × Int), W.cell? (a.add i) = some (.slice q.1 q.2.1 q.2.2.1) ∧ TokR W W.heap.size q.1 q.2.1 q.2.2.2 ∧ (q.2.1 : Int) ≤ 9223372036854775807 := by
      intro i hi
      obtain ⟨c0, h2⟩ := hx i (by omega)
      obtain ⟨xs, k, hk, hxy, _, hxl, hfl⟩ := DataW.trod_struct Tryd.underlying93 h2
      match xs, hxl with
      | [y0], _ =>
        have g0 := hfl 0 _ rfl
        simp [cellsToks] at g0
        obtain ⟨A', l', c', t, hv, ht, hn⟩ := toks_of_cell g0
        exact ⟨(A', l', c', t), by rw [c0, hv], ht, hn⟩
    obtain ⟨q, hq⟩ := Deep.choose_lt each
    refine ⟨(List.range len).map fun i => (q i).2.2.2, ⟨by simp, fun h0 => ?_⟩, by unfold maxLen at hm; omega⟩
    obtain ⟨b, off, spot⟩ := a
    have hc0 := (hq 0 h0).1
    have hspot : spot = none := by simpa [Addr.add] using World.cell?_spot hc0
    subst hspot
    have hadd : ∀ j, (⟨b, off, none⟩ : Addr).add j = ⟨b, off + j, none⟩ := by
      intro j
      unfold Addr.add
      by_cases h : j = 0
      · subst h; rfl
      · rw [if_neg h]
    refine ⟨b, off, rfl, ?_, fun k hk => ?_⟩
    · have := World.block_lt_of_cell? W _ hc0
      simpa [hadd] using this
    · obtain ⟨c0, t0, n0⟩ := hq k hk
      rw [hadd] at c0
      have eg : ((List.range len).map fun i => (q i).2.2.2).getD k [] = (q k).2.2.2 := by
        simp [List.getD_eq_getElem?_getD, hk]
      rw [eg]
      exact ⟨_, _, _, c0, t0, n0⟩
end Go.Proofs.YtkpelkbkemohlaaDoor
