/- slices.Concat over slices of tokens. -/
import Derived.Test.YtijiohdddfdjfaaSlc
namespace Go.Proofs.Ytijiohdddfdjfaa
open Go.RowKit

theorem flat_take {α : Type} (ls : List (List α)) (k : Nat) (hk : k < ls.length) : (ls.take (k + 1)).flatten = (ls.take k).flatten ++ ls.getD k [] := by
  rw [List.take_succ_eq_append_getElem hk, List.flatten_append]
  simp [List.getD_eq_getElem?_getD, List.getElem?_eq_getElem hk]
theorem flat_le {α : Type} (ls : List (List α)) (k : Nat) : (ls.take k).flatten.length ≤ ls.flatten.length := by
  have h : ls.flatten = (ls.take k).flatten ++ (ls.drop k).flatten := by rw [← List.flatten_append, List.take_append_drop]
  rw [h]; simp

/-- the slices that are joined: their values in a row at block gs, their tokens below B -/
def Parts (w : World) (B gs : Nat) (ad : Nat → Addr) (cp : Nat → Nat) (ls : List (List (Int × Int))) : Prop :=
  gs < B ∧ ∀ i, i < ls.length → w.cell? ⟨gs, i, none⟩ = some (.slice (some (ad i)) (ls.getD i []).length (cp i)) ∧ TokA w B (ad i) (ls.getD i [])
theorem Parts.below {w w' : World} {B gs : Nat} {ad : Nat → Addr} {cp : Nat → Nat} {ls : List (List (Int × Int))} (h : Parts w B gs ad cp ls) (hb : Below B w w') : Parts w' B gs ad cp ls :=
  ⟨h.1, fun i hi => ⟨(hb.cell (p := ⟨gs, i, none⟩) h.1).trans (h.2 i hi).1, (h.2 i hi).2.below hb⟩⟩

theorem own_some {w : World} {base g n c : Nat} {e : TypeId} {size : Nat} {v' : Value} {xs : List Value} (h : w.ownsRow base e size v' n xs) (hne : v' = .slice none 0 0 ↔ (Value.slice (some ⟨g, 0, none⟩) n c = .slice none 0 0 ∧ False)) :
    ∃ g' cap', v' = .slice (some ⟨g', 0, none⟩) n cap' := by
  rcases h.2 with ⟨h0, _⟩ | ⟨g', cap', _, h0, _⟩
  · exact absurd (hne.1 h0).2 (fun x => x)
  · exact ⟨g', cap', h0⟩

end Go.Proofs.Ytijiohdddfdjfaa
