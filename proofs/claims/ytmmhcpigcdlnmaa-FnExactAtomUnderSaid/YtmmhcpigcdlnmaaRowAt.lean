/- What the rows over one atom need: an argument that is an atom. -/
import Derived.Test.YtmmhcpigcdlnmaaRowC

namespace Go.Proofs.Ytmmhcpigcdlnmaa
open Go.ChangeShapes Go.WideShapes Go.ChangeAt Go.RowKit

section
variable {H : Type} {enc : TypeId × Value → H} {P : Program} {w : World} {base : Nat} {spare : Nat → Bool} {held : Bool}
theorem duo_cells {e : TypeId} {f0 f1 : Field} {fuel : Nat} {v : List Value} {x : DataW H × List MemPlace} (he : P.underlying e = some (.struct #[f0, f1]))
    (o0 : f0.offset = 0) (o1 : f1.offset = 1) (c0 : P.cellsOf f0.type = 1) (c1 : P.cellsOf f1.type = 1) (hlen : v.length = 2)
    (h : DataW.trod enc P w base spare held fuel e v = some x) :
    ∃ (v0 v1 : Value) (n : Nat) (y0 y1 : DataW H × List MemPlace), v = [v0, v1] ∧ DataW.trod enc P w base spare held n f0.type [v0] = some y0 ∧ DataW.trod enc P w base spare held n f1.type [v1] = some y1 := by
  obtain ⟨xs, k, hk, hxy, _, hxl, hf⟩ := DataW.trod_struct he h
  match xs, hxl, v, hlen with
  | [y0, y1], _, [v0, v1], _ =>
    have g0 := hf 0 f0 rfl
    have g1 := hf 1 f1 rfl
    simp [o0, o1, c0, c1] at g0 g1
    exact ⟨v0, v1, k, y0, y1, rfl, g0, g1⟩
end
/-- one atom that is an argument -/
theorem atom_of_arg {H : Type} {enc : TypeId × Value → H} {W : World} {cs : Array Value} {d : DataW H} {p : List MemPlace}
    (h : DataW.Trod enc Try.prog W 0 (fun _ => true) true 53 (.agg cs) d p) (hs : cs.size = Try.prog.cellsOf 53) : ∃ u v : Int, cs = #[.int .i64 u, .int .i64 v] := by
  obtain ⟨fuel, hf⟩ := h
  rw [cellsAtom] at hs
  have hf' : DataW.trod enc Try.prog W 0 (fun _ => true) true fuel 53 cs.toList = some (d, p) := hf
  obtain ⟨v0, v1, n, y0, y1, e, g0, g1⟩ := duo_cells Try.underlying53 rfl rfl cellsInt cellsInt (by simpa using hs) hf'
  obtain ⟨x, ex, _, _⟩ := DataW.trod_int Try.underlying3 g0
  obtain ⟨y, ey, _, _⟩ := DataW.trod_int Try.underlying3 g1
  simp at ex ey
  subst ex; subst ey
  exact ⟨x, y, by cases cs; simp at e; rw [e]⟩
end Go.Proofs.Ytmmhcpigcdlnmaa
