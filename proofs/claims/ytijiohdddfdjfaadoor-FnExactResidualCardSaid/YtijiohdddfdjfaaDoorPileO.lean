/- A pile of rows of atoms that may begin inside their blocks; the steps of the pile for a sign. -/
import Derived.Test.YtijiohdddfdjfaaDoorSRes
import Derived.Test.YtijiohdddfdjfaaDoorNFree
namespace Go.Proofs.YtijiohdddfdjfaaDoor
open Go.RowKit

namespace Nm
theorem wstep_ok {s : Int} {t : At} {st st' : List (List At)} (h : wstep s t st = some st') : Lv.tkOk t = true := by
  unfold wstep at h
  by_cases hok : Lv.tkOk t = true
  · exact hok
  · rw [if_neg hok] at h; cases h
theorem wstep_zero {s y : Int} {st st' : List (List At)} (h : wstep s (0, y) st = some st') : st' = [(-1, 0)] :: st := by
  have hok := wstep_ok h
  unfold wstep at h
  rw [if_pos hok] at h
  simp at h
  exact h.symm
theorem wstep_par {s y : Int} {st st' : List (List At)} (h : wstep s (4, y) st = some st') : st' = [pl s (y, 0)] :: st := by
  have hok := wstep_ok h
  unfold wstep at h
  rw [if_pos hok] at h
  simp at h
  exact h.symm
theorem wstep_succ {s y : Int} {st st' : List (List At)} (h : wstep s (1, y) st = some st') : ∃ a r, st = a :: r ∧ st' = up 1 a :: r := by
  have hok := wstep_ok h
  unfold wstep at h
  rw [if_pos hok] at h
  match st, h with
  | a :: r, h => simp at h; exact ⟨a, r, rfl, h.symm⟩
  | [], h => simp at h
theorem wstep_two {s op y : Int} {st st' : List (List At)} (h : wstep s (op, y) st = some st') (ho : op = 2 ∨ op = 3) : ∃ a b r, st = b :: a :: r ∧ st' = (if op = 3 ∧ zeroL b = true then [(-1, 0)] else a ++ b) :: r := by
  have hok := wstep_ok h
  unfold wstep at h
  rw [if_pos hok, if_neg (by simp; omega), if_neg (by simp; omega), if_neg (by simp; omega)] at h
  match st, h with
  | b :: a :: r, h => simp only at h; injection h with h; exact ⟨a, b, r, rfl, h.symm⟩
  | [b], h => simp at h
  | [], h => simp at h
end Nm

theorem o_apart {w : World} {base base' : Nat} {A : Option Addr} {n c n' size' : Nat} {xs ys : List Value} {e' : TypeId} {u : Value} (h : OwnO w base A n c xs) (h' : w.ownsRow base' e' size' u n' ys) (hne : 68 ≠ e') : ∀ k, (Value.slice A n c).ownBlock = some k → u.ownBlock ≠ some k := by
  intro k hk hu
  obtain ⟨cs, hb⟩ := own_blk h' k hu
  rcases h.2 with ⟨rfl, _⟩ | ⟨g, o, cur, rfl, _, hblk, _⟩
  · cases hk
  · have : g = k := by simpa [Value.ownBlock] using hk
    subst this
    have e := hblk.symm.trans hb
    injection e with e
    injection e with _ e
    exact hne e
/-- a pile of rows of atoms, its top first -/
def PileO (w : World) (base g D c : Nat) (cs : List (List (Int × Int))) : Prop :=
  cs.length = D ∧ ∃ vals : List Value, w.ownsRow base 34 1 (.slice (some ⟨g, 0, none⟩) D c) D vals ∧
    ∀ (i : Nat) (a : List (Int × Int)), cs.reverse[i]? = some a → ∃ A ca, vals[i]? = some (Value.slice A a.length ca) ∧ OwnO w base A a.length ca (tokCells a)
theorem PileO.below {w w' : World} {base g D c : Nat} {cs : List (List (Int × Int))} (h : PileO w base g D c cs) (hb : Below w.heap.size w w') : PileO w' base g D c cs := by
  obtain ⟨h1, vals, h2, h3⟩ := h
  refine ⟨h1, vals, own_below' h2 hb, fun i a ha => ?_⟩
  obtain ⟨ga, ca, q1, q2⟩ := h3 i a ha
  exact ⟨ga, ca, q1, at_below' q2 hb⟩
theorem PileO.alloc {w : World} {base g D c : Nat} {cs : List (List (Int × Int))} (h : PileO w base g D c cs) (o : Obj) : PileO (w.alloc o) base g D c cs :=
  h.below ((Below.refl _ _).alloc (Nat.le_refl _) o)
theorem PileO.drew {w : World} {base g D c : Nat} {cs : List (List (Int × Int))} (h : PileO w base g D c cs) : PileO w.drew base g D c cs := h
theorem PileO.drop {w : World} {base g D c : Nat} {cs : List (List (Int × Int))} (h : PileO w base g D c cs) (k : Nat) (hk : k ≤ D) : PileO w base g (D - k) c (cs.drop k) := by
  obtain ⟨h1, vals, h2, h3⟩ := h
  refine ⟨by rw [List.length_drop, h1], vals.take (D - k), own_take h2 (by omega), fun i a ha => ?_⟩
  rw [List.reverse_drop, h1] at ha
  have hi : i < D - k := by
    have := (List.getElem?_eq_some_iff.1 ha).1
    rw [List.length_take] at this
    omega
  rw [List.getElem?_take_of_lt hi] at ha
  obtain ⟨ga, ca, q1, q2⟩ := h3 i a ha
  exact ⟨ga, ca, by rw [List.getElem?_take_of_lt hi]; exact q1, q2⟩
theorem PileO.push {w w' : World} {base g D c ca : Nat} {A : Option Addr} {cs : List (List (Int × Int))} {a : List (Int × Int)} {v' : Value} {vals : List Value} (hD : cs.length = D)
    (h2 : w.ownsRow base 34 1 (.slice (some ⟨g, 0, none⟩) D c) D vals) (h3 : ∀ (i : Nat) (a : List (Int × Int)), cs.reverse[i]? = some a → ∃ A ca, vals[i]? = some (Value.slice A a.length ca) ∧ OwnO w base A a.length ca (tokCells a))
    (ho : OwnO w base A a.length ca (tokCells a)) (hg : w.grownBy w' (Value.slice (some ⟨g, 0, none⟩) D c).ownBlock)
    (hown : w'.ownsRow base 34 1 v' (D + 1) (vals ++ [Value.slice A a.length ca])) : ∃ g' c', v' = .slice (some ⟨g', 0, none⟩) (D + 1) c' ∧ PileO w' base g' (D + 1) c' (a :: cs) := by
  obtain ⟨g', c', rfl⟩ := own_form hown (by omega)
  refine ⟨g', c', rfl, by rw [List.length_cons, hD], _, hown, fun i x hx => ?_⟩
  have hvl : vals.length = D := by have := h2.1; omega
  have hk : ∀ {gx : Option Addr} {cx : Nat} {x : List (Int × Int)}, OwnO w base gx x.length cx (tokCells x) → OwnO w' base gx x.length cx (tokCells x) := fun h => at_kept h hg (o_apart h h2 (by decide))
  rw [List.reverse_cons] at hx
  by_cases hi : i < D
  · rw [List.getElem?_append_left (by rw [List.length_reverse, hD]; exact hi)] at hx
    obtain ⟨gx, cx, q1, q2⟩ := h3 i x hx
    exact ⟨gx, cx, by rw [List.getElem?_append_left (by omega)]; exact q1, hk q2⟩
  · have hiD : i = D := by
      have := (List.getElem?_eq_some_iff.1 hx).1
      simp at this
      omega
    subst hiD
    rw [List.getElem?_append_right (by rw [List.length_reverse, hD]; exact Nat.le_refl _), List.length_reverse, hD, Nat.sub_self] at hx
    obtain rfl : a = x := by simpa using hx
    exact ⟨A, ca, by rw [List.getElem?_append_right (by omega), hvl, Nat.sub_self]; rfl, hk ho⟩
theorem PileO.top {w : World} {base g d c ca : Nat} {A : Option Addr} {s : List (List (Int × Int))} {a a' : List (Int × Int)} (h : PileO w base g (d + 1) c (a :: s)) (ho : OwnO w base A a'.length ca (tokCells a')) :
    PileO (w.setCell ⟨g, d, none⟩ (.slice A a'.length ca)) base g (d + 1) c (a' :: s) := by
  obtain ⟨h1, vals, h2, h3⟩ := h
  have hs : s.length = d := by simpa using h1
  have hvl : vals.length = d + 1 := by have := h2.1; omega
  have hk : ∀ {gx : Option Addr} {cx : Nat} {x : List (Int × Int)}, OwnO w base gx x.length cx (tokCells x) → OwnO (w.setCell ⟨g, d, none⟩ (.slice A a'.length ca)) base gx x.length cx (tokCells x) := fun h => at_kept h (put_grown w g d _) (o_apart h h2 (by decide))
  refine ⟨by simpa using hs, _, own_put h2 d _, fun i x hx => ?_⟩
  rw [List.reverse_cons] at hx
  by_cases hi : i < d
  · have hx2 : (a :: s).reverse[i]? = some x := by
      rw [List.reverse_cons, List.getElem?_append_left (by rw [List.length_reverse, hs]; exact hi)]
      rw [List.getElem?_append_left (by rw [List.length_reverse, hs]; exact hi)] at hx
      exact hx
    obtain ⟨gx, cx, q1, q2⟩ := h3 i x hx2
    exact ⟨gx, cx, by rw [List.getElem?_set_ne (by omega)]; exact q1, hk q2⟩
  · have hid : i = d := by
      have := (List.getElem?_eq_some_iff.1 hx).1
      simp at this
      omega
    subst hid
    rw [List.getElem?_append_right (by rw [List.length_reverse, hs]; exact Nat.le_refl _), List.length_reverse, hs, Nat.sub_self] at hx
    obtain rfl : a' = x := by simpa using hx
    exact ⟨A, ca, by rw [List.getElem?_set_self (by omega)], hk ho⟩
theorem PileO.at {w : World} {base g D c i : Nat} {cs : List (List (Int × Int))} {a : List (Int × Int)} (h : PileO w base g D c cs) (ha : cs.reverse[i]? = some a) :
    ∃ A ca, w.cell? ⟨g, i, none⟩ = some (.slice A a.length ca) ∧ OwnO w base A a.length ca (tokCells a) := by
  obtain ⟨h1, vals, h2, h3⟩ := h
  obtain ⟨ga, ca, q1, q2⟩ := h3 i a ha
  have hk := h2.cells (g := g) rfl i _ q1
  rw [own_adds] at hk
  exact ⟨ga, ca, hk, q2⟩
theorem PileO.cap {w : World} {base g D c : Nat} {cs : List (List (Int × Int))} (h : PileO w base g D c cs) : D ≤ c := by
  obtain ⟨_, vals, hh, _⟩ := h
  exact own_capR hh
end Go.Proofs.YtijiohdddfdjfaaDoor
