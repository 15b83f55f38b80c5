/- The laws' work on slices of levels: their size, a copy. -/
import Derived.Test.YtgbdojenenfgfaaDoorLvls
namespace Go.Proofs.YtgbdojenenfgfaaDoor
open Go.RowKit

/-- what is left of a bound -/
def szR (left : Int) (m : Nat) : Int := if left < m then -1 else left - m
theorem szR_pos {left : Int} {m : Nat} (h : left < m) : szR left m = -1 := if_pos h
theorem szR_neg {left : Int} {m : Nat} (h : ¬ left < m) : szR left m = left - m := if_neg h

theorem TokOwn.tl {w : World} {g n : Nat} {l : List (Int × Int)} (h : TokOwn w g n l) : g < w.heap.size := by obtain ⟨_, cs, hblk, _⟩ := h; exact hblk.lt
theorem TokOwn.put {w : World} {g n : Nat} {l : List (Int × Int)} (h : TokOwn w g n l) {p : Addr} (hp : g ≠ p.block) (u : Value) : TokOwn (w.setCell p u) g n l := by
  obtain ⟨hl, cs, hblk, rest⟩ := h
  exact ⟨hl, cs, hblk.other hp u, rest⟩

theorem TokOwn.lt {w : World} {g n : Nat} {l : List (Int × Int)} (h : TokOwn w g n l) : g + 1 ≤ w.heap.size := h.tl
theorem TokOwn.mark {w w' : World} {g n base m k size : Nat} {e : TypeId} {v : Value} {l : List (Int × Int)} {lo hi : Nat} (h : TokOwn w g n l) (hm : MarkOut w base e size v m k w') (hv : InR v lo hi) (hd : g < lo ∨ hi ≤ g) : TokOwn w' g n l := by
  have hlt := h.lt
  obtain ⟨hl, cs, hblk, rest⟩ := h
  refine ⟨hl, cs, ?_, rest⟩
  exact (hm.1.block g (by omega) (fun he => by have := hv g he.symm; omega)).trans hblk
/-- nothing outside of g .. hi - 1 has turned -/
def LKept (w : World) (g hi : Nat) (wr : World) : Prop :=
  (∀ (B : Nat) (w0 : World), Below B w0 w → B ≤ g → Below B w0 wr) ∧
  (∀ (base : Nat) (e : TypeId) (size n : Nat) (u : Value) (xs : List Value) (lo' hi' : Nat), w.ownsRow base e size u n xs → InR u lo' hi' → (hi ≤ lo' ∨ hi' ≤ g) → wr.ownsRow base e size u n xs) ∧ wr.heap.size = w.heap.size
theorem LKept.below {w wr : World} {g hi : Nat} (h : LKept w g hi wr) {B : Nat} {w0 : World} (hb : Below B w0 w) (hB : B ≤ g) : Below B w0 wr := h.1 B w0 hb hB
theorem LKept.kept {w wr : World} {g hi : Nat} (h : LKept w g hi wr) {base : Nat} {e : TypeId} {size n : Nat} {u : Value} {xs : List Value} {lo' hi' : Nat} (hu : w.ownsRow base e size u n xs) (hi1 : InR u lo' hi') (hd : hi ≤ lo' ∨ hi' ≤ g) : wr.ownsRow base e size u n xs :=
  h.2.1 base e size n u xs lo' hi' hu hi1 hd
theorem LKept.size {w wr : World} {g hi : Nat} (h : LKept w g hi wr) : w.heap.size ≤ wr.heap.size := by rw [h.2.2]; exact Nat.le_refl _
theorem LKept.step {w wr w1 : World} {g hi base size n k : Nat} {e : TypeId} {v : Value} {lo h' : Nat} (h : LKept w g hi wr) (hg : g ≤ w.heap.size) (hm : MarkOut wr base e size v n k w1) (hv : InR v lo h') (h1 : g ≤ lo) (h2 : h' ≤ hi) : LKept w g hi w1 :=
  ⟨fun B w0 hb hB => markBelow (h.1 B w0 hb hB) hm hv (by omega) (by rw [h.2.2]; omega), fun base' e' size' n' u xs lo' hi' hu hi1 hd => markKept (h.kept hu hi1 hd) hm hv hi1 (by omega), by rw [hm.2.1, h.2.2]⟩

end Go.Proofs.YtgbdojenenfgfaaDoor
