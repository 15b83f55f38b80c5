/- A pile of rows of tokens, each in a block of its own. -/
/- A pile of rows of atoms that may begin inside their blocks; the steps of the pile for a sign. -/
/- slices.Repeat of one token, up to a thousand times. -/
/- The program's tokens of an atom. -/
/- The program's level without imax for a sign. -/
/- ResidOk of the program. -/
/- NormFree of the reference model. -/
/- Residual of the reference model (written by tools/mksres2.py). -/
/- Residual of the program. -/
/- Whether a level is 0 hangs on the sign of the env alone. -/
/- Plain facts: a residual is right for its sign and has the values of its level for the envs of that sign. -/
/- ResidOk of the reference model (written by tools/mkrok2.py). -/
/- NormEval of the program and of the reference model. -/
/- ResidEval of the program and of the reference model. -/
/- laws.sameAtoms: two rows of atoms are compared. -/
/- The law FnMonotone: the plain fact and the walk. -/
/- The law FnResidual: the walk. -/
import Derived.Test.YtijiohdddfdjfaaDoorSRes
import Derived.Test.YtijiohdddfdjfaaDoorSlc
import Derived.Test.YtijiohdddfdjfaaDoorNMath4
import Derived.Deep.RegionLaw
import Derived.Deep.AppendLies
import Derived.Test.YtijiohdddfdjfaaDoorNOk2
import Derived.Test.YtijiohdddfdjfaaDoorSgHas
import Derived.Test.YtijiohdddfdjfaaDoorRsMath
import Derived.Test.YtijiohdddfdjfaaDoorSpec
import Derived.Test.YtijiohdddfdjfaaDoorROk0
import Derived.Test.YtijiohdddfdjfaaDoorSgLev
import Derived.Test.YtijiohdddfdjfaaDoorNOk3
import Derived.Test.YtijiohdddfdjfaaDoorSgOf
import Derived.Test.YtijiohdddfdjfaaDoorAtLaws
import Derived.Test.YtijiohdddfdjfaaDoorDraw2
import Derived.Test.YtijiohdddfdjfaaDoorSpecEval
import Derived.Test.YtijiohdddfdjfaaDoorSgDraw

namespace Go.Proofs.YtijiohdddfdjfaaDoor
open Go.RowKit

theorem info_toks : (Tryd.prog.info? 24).map (fun i => (i.zero, i.size, i.bytes)) = some (some (.slice none 0 0), 1, 24) := by kernel_rfl
/-- a pile of rows of tokens, its bottom first -/
def PileT (w : World) (base : Nat) (v : Value) (D : Nat) (bs : List (List (Int × Int))) (vals : List Value) (G C : Nat → Nat) : Prop :=
  bs.length = D ∧ w.ownsRow base 24 1 v D vals ∧ (∀ i j, i < D → j < D → i ≠ j → G i ≠ G j) ∧
    ∀ i, i < D → vals[i]? = some (Value.slice (some ⟨G i, 0, none⟩) (bs.getD i []).length (C i)) ∧ OwnT w base (some ⟨G i, 0, none⟩) (bs.getD i []).length (C i) (bs.getD i [])
section
variable {w w' : World} {base D g c : Nat} {v : Value} {bs : List (List (Int × Int))} {vals : List Value} {G C : Nat → Nat}
theorem PileT.below (h : PileT w base v D bs vals G C) (hb : Below w.heap.size w w') : PileT w' base v D bs vals G C :=
  ⟨h.1, own_below' h.2.1 hb, h.2.2.1, fun i hi => ⟨(h.2.2.2 i hi).1, own_below' (h.2.2.2 i hi).2 hb⟩⟩
theorem PileT.lt (h : PileT w base v D bs vals G C) {i : Nat} (hi : i < D) : base ≤ G i ∧ G i < w.heap.size := (h.2.2.2 i hi).2.lt (G i) rfl
theorem PileT.take (h : PileT w base (.slice (some ⟨g, 0, none⟩) D c) D bs vals G C) {m : Nat} (hm : m ≤ D) : PileT w base (.slice (some ⟨g, 0, none⟩) m c) m (bs.take m) (vals.take m) G C := by
  refine ⟨by rw [List.length_take, h.1]; omega, own_take h.2.1 hm, fun i j hi hj => h.2.2.1 i j (by omega) (by omega), fun i hi => ?_⟩
  have h1 := h.2.2.2 i (by omega)
  have e : (bs.take m).getD i [] = bs.getD i [] := by rw [List.getD_eq_getElem?_getD, List.getElem?_take_of_lt hi, ← List.getD_eq_getElem?_getD]
  rw [e]
  exact ⟨by rw [List.getElem?_take_of_lt hi]; exact h1.1, h1.2⟩
theorem PileT.push {x : List (Int × Int)} {gx cx : Nat} {v' : Value} (h : PileT w base v D bs vals G C) (ho : OwnT w base (some ⟨gx, 0, none⟩) x.length cx x) (hne : ∀ i, i < D → G i ≠ gx)
    (hg : w.grownBy w' v.ownBlock) (hown : w'.ownsRow base 24 1 v' (D + 1) (vals ++ [Value.slice (some ⟨gx, 0, none⟩) x.length cx])) :
    PileT w' base v' (D + 1) (bs ++ [x]) (vals ++ [Value.slice (some ⟨gx, 0, none⟩) x.length cx]) (fun i => if i = D then gx else G i) (fun i => if i = D then cx else C i) := by
  have hvl : vals.length = D := by have := h.2.1.1; omega
  have hk : ∀ {gy cy : Nat} {y : List (Int × Int)}, OwnT w base (some ⟨gy, 0, none⟩) y.length cy y → OwnT w' base (some ⟨gy, 0, none⟩) y.length cy y := fun q => q.kept hg (own_apartK q h.2.1 (by decide))
  refine ⟨by rw [List.length_append, h.1]; rfl, hown, fun i j hi hj hij => ?_, fun i hi => ?_⟩
  · simp only []
    by_cases e1 : i = D <;> by_cases e2 : j = D
    · omega
    · rw [if_pos e1, if_neg e2]; exact fun e => hne j (by omega) e.symm
    · rw [if_neg e1, if_pos e2]; exact hne i (by omega)
    · rw [if_neg e1, if_neg e2]; exact h.2.2.1 i j (by omega) (by omega) hij
  · simp only []
    by_cases e : i = D
    · subst e
      rw [if_pos rfl, if_pos rfl]
      have e2 : (bs ++ [x]).getD i [] = x := by rw [List.getD_eq_getElem?_getD, List.getElem?_append_right (by rw [h.1]; exact Nat.le_refl _), h.1, Nat.sub_self]; rfl
      rw [e2]
      exact ⟨by rw [List.getElem?_append_right (by omega), hvl, Nat.sub_self]; rfl, hk ho⟩
    · rw [if_neg e, if_neg e]
      have h1 := h.2.2.2 i (by omega)
      have e2 : (bs ++ [x]).getD i [] = bs.getD i [] := by rw [List.getD_eq_getElem?_getD, List.getElem?_append_left (by rw [h.1]; omega), ← List.getD_eq_getElem?_getD]
      rw [e2]
      exact ⟨by rw [List.getElem?_append_left (by omega)]; exact h1.1, hk h1.2⟩
/-- one row is put anew -/
theorem PileT.put {x : List (Int × Int)} {gx cx i : Nat} (h : PileT w base (.slice (some ⟨g, 0, none⟩) D c) D bs vals G C) (hi : i < D) (ho : OwnT w base (some ⟨gx, 0, none⟩) x.length cx x) (hne : ∀ j, j < D → j ≠ i → G j ≠ gx) :
    PileT (w.setCell ⟨g, i, none⟩ (.slice (some ⟨gx, 0, none⟩) x.length cx)) base (.slice (some ⟨g, 0, none⟩) D c) D (bs.set i x) (vals.set i (.slice (some ⟨gx, 0, none⟩) x.length cx)) (fun j => if j = i then gx else G j) (fun j => if j = i then cx else C j) := by
  have hvl : vals.length = D := by have := h.2.1.1; omega
  have hk : ∀ {gy cy : Nat} {y : List (Int × Int)}, OwnT w base (some ⟨gy, 0, none⟩) y.length cy y → OwnT (w.setCell ⟨g, i, none⟩ (.slice (some ⟨gx, 0, none⟩) x.length cx)) base (some ⟨gy, 0, none⟩) y.length cy y := fun q => q.kept (put_grown w g i _) (own_apartK q h.2.1 (by decide))
  refine ⟨by rw [List.length_set, h.1], own_put h.2.1 i _, fun a b ha hb hab => ?_, fun j hj => ?_⟩
  · simp only []
    by_cases e1 : a = i <;> by_cases e2 : b = i
    · omega
    · rw [if_pos e1, if_neg e2]; exact fun e => hne b hb e2 e.symm
    · rw [if_neg e1, if_pos e2]; exact hne a ha e1
    · rw [if_neg e1, if_neg e2]; exact h.2.2.1 a b ha hb hab
  · simp only []
    by_cases e : j = i
    · subst e
      rw [if_pos rfl, if_pos rfl]
      have e2 : (bs.set j x).getD j [] = x := by rw [List.getD_eq_getElem?_getD, List.getElem?_set_self (by rw [h.1]; exact hj)]; rfl
      rw [e2]
      exact ⟨by rw [List.getElem?_set_self (by omega)], hk ho⟩
    · rw [if_neg e, if_neg e]
      have h1 := h.2.2.2 j hj
      have e2 : (bs.set i x).getD j [] = bs.getD j [] := by rw [List.getD_eq_getElem?_getD, List.getElem?_set_ne (fun q => e q.symm), ← List.getD_eq_getElem?_getD]
      rw [e2]
      exact ⟨by rw [List.getElem?_set_ne (fun q => e q.symm)]; exact h1.1, hk h1.2⟩
/-- one row has been written on -/
theorem PileT.grown {x : List (Int × Int)} {gx cx i : Nat} (h : PileT w base (.slice (some ⟨g, 0, none⟩) D c) D bs vals G C) (hi : i < D) (hg : w.grownBy w' (some (G i))) (ho : OwnT w' base (some ⟨gx, 0, none⟩) x.length cx x) (hx : gx = G i ∨ w.heap.size ≤ gx) :
    PileT (w'.setCell ⟨g, i, none⟩ (.slice (some ⟨gx, 0, none⟩) x.length cx)) base (.slice (some ⟨g, 0, none⟩) D c) D (bs.set i x) (vals.set i (.slice (some ⟨gx, 0, none⟩) x.length cx)) (fun j => if j = i then gx else G j) (fun j => if j = i then cx else C j) := by
  have hvl : vals.length = D := by have := h.2.1.1; omega
  have hp : w'.ownsRow base 24 1 (.slice (some ⟨g, 0, none⟩) D c) D vals := h.2.1.kept hg (own_apartK h.2.1 (h.2.2.2 i hi).2 (by decide))
  have hk : ∀ {gy cy : Nat} {y : List (Int × Int)}, OwnT w' base (some ⟨gy, 0, none⟩) y.length cy y → OwnT (w'.setCell ⟨g, i, none⟩ (.slice (some ⟨gx, 0, none⟩) x.length cx)) base (some ⟨gy, 0, none⟩) y.length cy y := fun q => q.kept (put_grown w' g i _) (own_apartK q hp (by decide))
  have hne : ∀ j, j < D → j ≠ i → G j ≠ gx := by
    intro j hj hji e
    rcases hx with hx | hx
    · exact h.2.2.1 j i hj hi hji (e.trans hx)
    · have := (h.lt hj).2; omega
  refine ⟨by rw [List.length_set, h.1], own_put hp i _, fun a b ha hb hab => ?_, fun j hj => ?_⟩
  · simp only []
    by_cases e1 : a = i <;> by_cases e2 : b = i
    · omega
    · rw [if_pos e1, if_neg e2]; exact fun e => hne b hb e2 e.symm
    · rw [if_neg e1, if_pos e2]; exact hne a ha e1
    · rw [if_neg e1, if_neg e2]; exact h.2.2.1 a b ha hb hab
  · simp only []
    by_cases e : j = i
    · subst e
      rw [if_pos rfl, if_pos rfl]
      have e2 : (bs.set j x).getD j [] = x := by rw [List.getD_eq_getElem?_getD, List.getElem?_set_self (by rw [h.1]; exact hj)]; rfl
      rw [e2]
      exact ⟨by rw [List.getElem?_set_self (by omega)], hk ho⟩
    · rw [if_neg e, if_neg e]
      have h1 := h.2.2.2 j hj
      have e2 : (bs.set i x).getD j [] = bs.getD j [] := by rw [List.getD_eq_getElem?_getD, List.getElem?_set_ne (fun q => e q.symm), ← List.getD_eq_getElem?_getD]
      rw [e2]
      refine ⟨by rw [List.getElem?_set_ne (fun q => e q.symm)]; exact h1.1, hk (h1.2.kept hg (.inr ?_))⟩
      intro q
      have : G j = G i := by simpa [Value.ownBlock] using q
      exact h.2.2.1 j i hj hi e this
theorem PileT.at {i : Nat} (h : PileT w base (.slice (some ⟨g, 0, none⟩) D c) D bs vals G C) (hi : i < D) : w.cell? ⟨g, i, none⟩ = some (.slice (some ⟨G i, 0, none⟩) (bs.getD i []).length (C i)) := by
  have hk := h.2.1.cells (g := g) rfl i _ (h.2.2.2 i hi).1
  rw [own_adds] at hk
  exact hk
end
theorem rev_top {α : Type} (x : α) (r : List α) (d : Nat) (hd : r.length = d) (dflt : α) : (x :: r).reverse.getD d dflt = x ∧ ∀ y, (x :: r).reverse.set d y = (y :: r).reverse := by
  subst hd
  refine ⟨?_, fun y => ?_⟩
  · rw [List.reverse_cons, List.getD_eq_getElem?_getD, List.getElem?_append_right (by simp), List.length_reverse, Nat.sub_self]; rfl
  · rw [List.reverse_cons, List.reverse_cons, List.set_append_right _ _ (by simp), List.length_reverse, Nat.sub_self]; rfl
theorem rev_two {α : Type} (b a : α) (r : List α) (d : Nat) (hd : r.length = d) (dflt : α) : (b :: a :: r).reverse.getD d dflt = a ∧ (b :: a :: r).reverse.getD (d + 1) dflt = b ∧ ∀ y, ((b :: a :: r).reverse.set d y).take (d + 1) = (y :: r).reverse := by
  refine ⟨?_, (rev_top b (a :: r) (d + 1) (by simp [hd]) dflt).1, fun y => ?_⟩
  · have h := (rev_top a r d hd dflt).1
    rw [List.reverse_cons, List.getD_eq_getElem?_getD, List.getElem?_append_left (by simp; omega), ← List.getD_eq_getElem?_getD]
    exact h
  · have h := (rev_top a r d hd a).2 y
    rw [List.reverse_cons, List.set_append_left _ _ (by simp; omega), h, List.take_append_of_le_length (by simp; omega), List.take_of_length_le (by simp; omega)]
end Go.Proofs.YtijiohdddfdjfaaDoor

namespace Go.Proofs.YtijiohdddfdjfaaDoor
open Go.RowKit

namespace Nm
theorem wstep_ok {s : Int} {t : At} {st st' : List (List At)} (h : wstep s t st = some st') : Lv.tkOk t = true := by
  unfold wstep at h
  by_cases hok : Lv.tkOk t = true
  · exact hok
  · rw [if_neg hok] at h; cases h
theorem wstep_zero {s y : Int} {st st' : List (List At)} (h : wstep s (0, y) st = some st') : st' = [(-1, 0)] :: st := by
  have hok := wstep_ok h
  unfold wstep at h
  rw [if_pos hok] at h
  simp at h
  exact h.symm
theorem wstep_par {s y : Int} {st st' : List (List At)} (h : wstep s (4, y) st = some st') : st' = [pl s (y, 0)] :: st := by
  have hok := wstep_ok h
  unfold wstep at h
  rw [if_pos hok] at h
  simp at h
  exact h.symm
theorem wstep_succ {s y : Int} {st st' : List (List At)} (h : wstep s (1, y) st = some st') : ∃ a r, st = a :: r ∧ st' = up 1 a :: r := by
  have hok := wstep_ok h
  unfold wstep at h
  rw [if_pos hok] at h
  match st, h with
  | a :: r, h => simp at h; exact ⟨a, r, rfl, h.symm⟩
  | [], h => simp at h
theorem wstep_two {s op y : Int} {st st' : List (List At)} (h : wstep s (op, y) st = some st') (ho : op = 2 ∨ op = 3) : ∃ a b r, st = b :: a :: r ∧ st' = (if op = 3 ∧ zeroL b = true then [(-1, 0)] else a ++ b) :: r := by
  have hok := wstep_ok h
  unfold wstep at h
  rw [if_pos hok, if_neg (by simp; omega), if_neg (by simp; omega), if_neg (by simp; omega)] at h
  match st, h with
  | b :: a :: r, h => simp only at h; injection h with h; exact ⟨a, b, r, rfl, h.symm⟩
  | [b], h => simp at h
  | [], h => simp at h
end Nm

theorem o_apart {w : World} {base base' : Nat} {A : Option Addr} {n c n' size' : Nat} {xs ys : List Value} {e' : TypeId} {u : Value} (h : OwnO w base A n c xs) (h' : w.ownsRow base' e' size' u n' ys) (hne : 68 ≠ e') : ∀ k, (Value.slice A n c).ownBlock = some k → u.ownBlock ≠ some k := by
  intro k hk hu
  obtain ⟨cs, hb⟩ := own_blk h' k hu
  rcases h.2 with ⟨rfl, _⟩ | ⟨g, o, cur, rfl, _, hblk, _⟩
  · cases hk
  · have : g = k := by simpa [Value.ownBlock] using hk
    subst this
    have e := hblk.symm.trans hb
    injection e with e
    injection e with _ e
    exact hne e
/-- a pile of rows of atoms, its top first -/
def PileO (w : World) (base g D c : Nat) (cs : List (List (Int × Int))) : Prop :=
  cs.length = D ∧ ∃ vals : List Value, w.ownsRow base 34 1 (.slice (some ⟨g, 0, none⟩) D c) D vals ∧
    ∀ (i : Nat) (a : List (Int × Int)), cs.reverse[i]? = some a → ∃ A ca, vals[i]? = some (Value.slice A a.length ca) ∧ OwnO w base A a.length ca (tokCells a)
theorem PileO.below {w w' : World} {base g D c : Nat} {cs : List (List (Int × Int))} (h : PileO w base g D c cs) (hb : Below w.heap.size w w') : PileO w' base g D c cs := by
  obtain ⟨h1, vals, h2, h3⟩ := h
  refine ⟨h1, vals, own_below' h2 hb, fun i a ha => ?_⟩
  obtain ⟨ga, ca, q1, q2⟩ := h3 i a ha
  exact ⟨ga, ca, q1, at_below' q2 hb⟩
theorem PileO.alloc {w : World} {base g D c : Nat} {cs : List (List (Int × Int))} (h : PileO w base g D c cs) (o : Obj) : PileO (w.alloc o) base g D c cs :=
  h.below ((Below.refl _ _).alloc (Nat.le_refl _) o)
theorem PileO.drew {w : World} {base g D c : Nat} {cs : List (List (Int × Int))} (h : PileO w base g D c cs) : PileO w.drew base g D c cs := h
theorem PileO.drop {w : World} {base g D c : Nat} {cs : List (List (Int × Int))} (h : PileO w base g D c cs) (k : Nat) (hk : k ≤ D) : PileO w base g (D - k) c (cs.drop k) := by
  obtain ⟨h1, vals, h2, h3⟩ := h
  refine ⟨by rw [List.length_drop, h1], vals.take (D - k), own_take h2 (by omega), fun i a ha => ?_⟩
  rw [List.reverse_drop, h1] at ha
  have hi : i < D - k := by
    have := (List.getElem?_eq_some_iff.1 ha).1
    rw [List.length_take] at this
    omega
  rw [List.getElem?_take_of_lt hi] at ha
  obtain ⟨ga, ca, q1, q2⟩ := h3 i a ha
  exact ⟨ga, ca, by rw [List.getElem?_take_of_lt hi]; exact q1, q2⟩
theorem PileO.push {w w' : World} {base g D c ca : Nat} {A : Option Addr} {cs : List (List (Int × Int))} {a : List (Int × Int)} {v' : Value} {vals : List Value} (hD : cs.length = D)
    (h2 : w.ownsRow base 34 1 (.slice (some ⟨g, 0, none⟩) D c) D vals) (h3 : ∀ (i : Nat) (a : List (Int × Int)), cs.reverse[i]? = some a → ∃ A ca, vals[i]? = some (Value.slice A a.length ca) ∧ OwnO w base A a.length ca (tokCells a))
    (ho : OwnO w base A a.length ca (tokCells a)) (hg : w.grownBy w' (Value.slice (some ⟨g, 0, none⟩) D c).ownBlock)
    (hown : w'.ownsRow base 34 1 v' (D + 1) (vals ++ [Value.slice A a.length ca])) : ∃ g' c', v' = .slice (some ⟨g', 0, none⟩) (D + 1) c' ∧ PileO w' base g' (D + 1) c' (a :: cs) := by
  obtain ⟨g', c', rfl⟩ := own_form hown (by omega)
  refine ⟨g', c', rfl, by rw [List.length_cons, hD], _, hown, fun i x hx => ?_⟩
  have hvl : vals.length = D := by have := h2.1; omega
  have hk : ∀ {gx : Option Addr} {cx : Nat} {x : List (Int × Int)}, OwnO w base gx x.length cx (tokCells x) → OwnO w' base gx x.length cx (tokCells x) := fun h => at_kept h hg (o_apart h h2 (by decide))
  rw [List.reverse_cons] at hx
  by_cases hi : i < D
  · rw [List.getElem?_append_left (by rw [List.length_reverse, hD]; exact hi)] at hx
    obtain ⟨gx, cx, q1, q2⟩ := h3 i x hx
    exact ⟨gx, cx, by rw [List.getElem?_append_left (by omega)]; exact q1, hk q2⟩
  · have hiD : i = D := by
      have := (List.getElem?_eq_some_iff.1 hx).1
      simp at this
      omega
    subst hiD
    rw [List.getElem?_append_right (by rw [List.length_reverse, hD]; exact Nat.le_refl _), List.length_reverse, hD, Nat.sub_self] at hx
    obtain rfl : a = x := by simpa using hx
    exact ⟨A, ca, by rw [List.getElem?_append_right (by omega), hvl, Nat.sub_self]; rfl, hk ho⟩
theorem PileO.top {w : World} {base g d c ca : Nat} {A : Option Addr} {s : List (List (Int × Int))} {a a' : List (Int × Int)} (h : PileO w base g (d + 1) c (a :: s)) (ho : OwnO w base A a'.length ca (tokCells a')) :
    PileO (w.setCell ⟨g, d, none⟩ (.slice A a'.length ca)) base g (d + 1) c (a' :: s) := by
  obtain ⟨h1, vals, h2, h3⟩ := h
  have hs : s.length = d := by simpa using h1
  have hvl : vals.length = d + 1 := by have := h2.1; omega
  have hk : ∀ {gx : Option Addr} {cx : Nat} {x : List (Int × Int)}, OwnO w base gx x.length cx (tokCells x) → OwnO (w.setCell ⟨g, d, none⟩ (.slice A a'.length ca)) base gx x.length cx (tokCells x) := fun h => at_kept h (put_grown w g d _) (o_apart h h2 (by decide))
  refine ⟨by simpa using hs, _, own_put h2 d _, fun i x hx => ?_⟩
  rw [List.reverse_cons] at hx
  by_cases hi : i < d
  · have hx2 : (a :: s).reverse[i]? = some x := by
      rw [List.reverse_cons, List.getElem?_append_left (by rw [List.length_reverse, hs]; exact hi)]
      rw [List.getElem?_append_left (by rw [List.length_reverse, hs]; exact hi)] at hx
      exact hx
    obtain ⟨gx, cx, q1, q2⟩ := h3 i x hx2
    exact ⟨gx, cx, by rw [List.getElem?_set_ne (by omega)]; exact q1, hk q2⟩
  · have hid : i = d := by
      have := (List.getElem?_eq_some_iff.1 hx).1
      simp at this
      omega
    subst hid
    rw [List.getElem?_append_right (by rw [List.length_reverse, hs]; exact Nat.le_refl _), List.length_reverse, hs, Nat.sub_self] at hx
    obtain rfl : a' = x := by simpa using hx
    exact ⟨A, ca, by rw [List.getElem?_set_self (by omega)], hk ho⟩
theorem PileO.at {w : World} {base g D c i : Nat} {cs : List (List (Int × Int))} {a : List (Int × Int)} (h : PileO w base g D c cs) (ha : cs.reverse[i]? = some a) :
    ∃ A ca, w.cell? ⟨g, i, none⟩ = some (.slice A a.length ca) ∧ OwnO w base A a.length ca (tokCells a) := by
  obtain ⟨h1, vals, h2, h3⟩ := h
  obtain ⟨ga, ca, q1, q2⟩ := h3 i a ha
  have hk := h2.cells (g := g) rfl i _ q1
  rw [own_adds] at hk
  exact ⟨ga, ca, hk, q2⟩
theorem PileO.cap {w : World} {base g D c : Nat} {cs : List (List (Int × Int))} (h : PileO w base g D c cs) : D ≤ c := by
  obtain ⟨_, vals, hh, _⟩ := h
  exact own_capR hh
end Go.Proofs.YtijiohdddfdjfaaDoor

namespace Go.Proofs.YtijiohdddfdjfaaDoor
open Go.RowKit

end Go.Proofs.YtijiohdddfdjfaaDoor

namespace Go.Proofs.YtijiohdddfdjfaaDoor
open Go.RowKit

/-- an append in a region that draws its order, onto a row of the call's own -/
theorem step_append_own {P : Program} (w : World) {ops : Array Oper} {o : Oper} {a : Act} {K : Act → World → Prop} {Q : Exit → Act → World → Prop} {E : Prop} (hgd : o.guard = none) (s x : Operand) (t : TypeId)
    (ho : o.op = .call { callee := .builtin .append, args := #[s, x], argTypes := #[t, t] })
    (base : Nat) (e : TypeId) (i : TypeInfo) (z : Value) (size bytes : Nat) (ht : P.underlying t = some (.slice e)) (hi : P.info? e = some i) (hz : i.zero = some z)
    (hsize : i.size = size) (hby : i.bytes = bytes) (hzs : z.cells.size = size) (hsz : 0 < size)
    (v : Value) (n : Nat) (xs : List Value) (hs : a.eval s = v) (hown : w.ownsRow base e size v n xs)
    (ad : Addr) (m c : Nat) (news : List Value) (hx : a.eval x = .slice (some ad) m c) (hl : news.length = m * size) (hnews : ∀ j u, news[j]? = some u → w.cell? (ad.add j) = some u) (h1 : ∀ u ∈ news, u.oneCell' = true)
    (h63 : n + m ≤ maxLen) (hbytes : (n + m) * bytes ≤ 140737488355328) (hbase : base ≤ w.heap.size)
    (h : ∀ v' w', w'.ownsRow base e size v' (n + m) (xs ++ news) → w.grownBy w' v.ownBlock → (v' = .slice none 0 0 ↔ v = .slice none 0 0 ∧ m = 0) → K (a.put o.dst v') w') :
    if Region.wanted o (yielded ops a.tmps) = true then Oper.wp P o a w K Q else E := by
  rw [if_pos (by simp [Region.wanted, hgd])]
  exact wp_append_own w s x t ho base e i z size bytes ht hi hz hsize hby hzs hsz v n xs hs hown ad m c news hx hl hnews h1 h63 hbytes hbase h

theorem own_litT {w : World} {g base : Nat} {a b : Int} (h : Blk w g 66 #[.int .i64 a, .int .i64 b]) (hb : base ≤ g) : OwnT w base (some ⟨g, 0, none⟩) 1 1 [(a, b)] :=
  ⟨rfl, .inr ⟨g, 1, #[.int .i64 a, .int .i64 b], rfl, hb, h, Nat.le_refl _, by simp [maxLen], rfl, rfl⟩⟩

end Go.Proofs.YtijiohdddfdjfaaDoor

namespace Go.Proofs.YtijiohdddfdjfaaDoor
open Go.RowKit

theorem own_slice {w : World} {base : Nat} {e : TypeId} {size n : Nat} {v : Value} {xs : List Value} (h : w.ownsRow base e size v n xs) : ∃ A c, v = .slice A n c := by
  rcases h.2 with ⟨h0, h1⟩ | ⟨g, c, _, hv, _⟩
  · subst h1; exact ⟨none, 0, h0⟩
  · exact ⟨_, c, hv⟩
theorem wlen_runT {s : Int} {l : List (Int × Int)} {st : List (List (Int × Int))} (h : Nm.wrun s l [] = some st) : st.length ≤ l.length := by
  have h1 := Nm.wrun_height (s := s) (l := l) []
  rw [h] at h1
  have key : ∀ (l : List (Int × Int)) (n m : Int), Lv.hts l n = some m → m ≤ n + l.length := by
    intro l
    induction l with
    | nil => intro n m h; simp only [Lv.hts] at h; injection h with h; subst h; simp
    | cons t r ih =>
      intro n m h
      simp only [Lv.hts] at h
      split at h
      · have := ih _ _ h
        have := Lv.takes_bd t.1
        rw [List.length_cons]
        omega
      · cases h
  have := key l 0 st.length (by simpa using h1.symm)
  omega
theorem newsT2 (X : World) (o : Obj) (p x : Int) : ∀ j u, (tokCells [(p, x)])[j]? = some u → ((X.alloc o).alloc (.cells #[.int .i64 p, .int .i64 x] 66)).cell? ((⟨X.heap.size + 1, 0, none⟩ : Addr).add j) = some u := by
  have h := World.news_of_block (w := (X.alloc o).alloc (.cells #[.int .i64 p, .int .i64 x] 66)) (cs := #[.int .i64 p, .int .i64 x]) (t := 66) (fr := (0, 0)) (heap_alloc_new (X.alloc o) _)
  rw [World.size_alloc] at h
  exact h

set_option maxRecDepth 100000 in
set_option maxHeartbeats 12800000 in
theorem withoutImax_any (w : World) (B : Nat) (A : Option Addr) (n c : Nat) (l : List (Int × Int)) (s : Int) (T : TypeId) (pv : Value) (h0 : 0 < B) (hB : B ≤ w.heap.size)
    (hl : TokR w B A n l) (hok : Lv.levelOk l = true) (hs : Sg.isSign s = true) (hE : ErrAt w T pv) :
    Calls Tryd.prog 79 #[.slice A n c, .int .i64 s] w fun e w' => ∃ g cp ts, e = .returned (.slice (some ⟨g, 0, none⟩) ts.length cp) ∧ OwnT w' w.heap.size (some ⟨g, 0, none⟩) ts.length cp ts ∧ Nm.TRel ts (Nm.wl s l) ∧ ts.length ≤ 24 ∧ Below w.heap.size w w' := by
  obtain ⟨i0, hi, hz0, hz1, hz2⟩ := info_parts info_tok
  obtain ⟨j0, ji, jz0, jz1, jz2⟩ := info_parts info_toks
  have hn24 : n ≤ 24 := by rw [← hl.1]; exact (ok_lenN hok).2
  have hn1 : 1 ≤ n := by rw [← hl.1]; exact (ok_lenN hok).1
  have HO := Lib.hid hok
  have HSG := Lib.hid hs
  have HEE := Lib.hid hE
  clear hok hs hE
  have HP0 : Hid (PileT w w.heap.size (.slice none 0 0) 0 [] [] (fun _ => 0) (fun _ => 0)) := ⟨rfl, World.ownsRow_nil _ _ _ _, fun i j hi => by omega, fun i hi => by omega⟩
  go_enter Tryd.func79, Tryd.ntmps79
  go_wp2
  go_loopw [5, 11] (fun v i wr => ∃ (k : Nat) (st : List (List (Int × Int))) (ts : List (List (Int × Int))) (D : Nat) (vals : List Value) (G C : Nat → Nat), k ≤ n ∧ i = .int .i64 k ∧ Hid (Nm.wrun s (l.take k) [] = some st) ∧ Hid (Nm.TS ts st) ∧ (ts.map List.length).sum ≤ k ∧ Hid (PileT wr w.heap.size v D ts.reverse vals G C) ∧ Below w.heap.size w wr) (fun _ i _ => n - (intOf i).toNat)
  case atStart => exact ⟨0, [], [], 0, [], _, _, Nat.zero_le _, rfl, Lib.hid rfl, Lib.hid trivial, by simp, HP0, Below.refl _ _⟩
  case round =>
    rename_i vst _
    obtain ⟨k, st, ts, D, vals, G, C, hk, rfl, HR, HTS, hsum, HP, hbel⟩ := hrel
    have hszr := hbel.size
    have hDl : ts.length = D := by have := HP.out.1; rw [List.length_reverse] at this; exact this
    have hDs : st.length = D := by rw [← hDl]; exact HTS.out.len.symm
    have hD24 : D ≤ 24 := by
      have h1 := wlen_runT HR.out
      rw [List.length_take] at h1
      omega
    have hfine := Nm.wfine_take HR.out (by omega)
    obtain ⟨Av, cv, hv⟩ := own_slice HP.out.2.1
    subst hv
    by_cases hlt : k < n
    · obtain ⟨b, off, rfl, hb, hc⟩ := hl.2 (by omega)
      obtain ⟨x1, x2⟩ := hc k hlt
      have hkl : k < l.length := by rw [hl.1]; exact hlt
      obtain ⟨t, ht⟩ : ∃ t, l.getD k (0, 0) = t := ⟨_, rfl⟩
      have k1 := (hbel.cell (p := ⟨b, off + k * 2, none⟩) (by show b < _; omega)).trans x1
      have k2 := (hbel.cell (p := ⟨b, off + k * 2 + 1, none⟩) (by show b < _; omega)).trans x2
      rw [ht] at k1 k2
      have hki : (k : Int) < (n : Int) := by omega
      obtain ⟨st', hst'⟩ := Nm.wrun_some (s := s) HO.out (k + 1)
      have HR' := Lib.hid hst'
      have hps : Nm.wstep s (l.getD k (0, 0)) st = some st' := by
        have h := Nm.wrun_take_succ s l k hkl []
        rw [hst', HR.out] at h
        exact h.symm
      rw [ht] at hps
      have htk := Nm.wstep_ok hps
      obtain ⟨op, y⟩ := t
      simp only at k1 k2
      have HL := Lib.hid hl
      have HBL := Lib.hid hbel
      have hb1 := hbel.alloc hszr (.cells #[.int .i64 op, .int .i64 y] 66)
      have hba : Below wr.heap.size wr (wr.alloc (.cells #[.int .i64 op, .int .i64 y] 66)) := (Below.refl _ _).alloc (Nat.le_refl _) _
      clear x1 x2 hc ht hst' hl hkl hbel
      rcases (show (op = 0 ∨ op = 4) ∨ op = 1 ∨ (op = 2 ∨ op = 3) by have := Lv.tk_cases htk; simp only at this; omega) with e | e | e
      · have hleaf : ∃ a, st' = a :: st ∧ Nm.TRel [leafT s (op, y)] a := by
          rcases e with rfl | rfl
          · refine ⟨_, Nm.wstep_zero hps, ?_⟩
            have hy : y = 0 := by simp [Lv.tkOk] at htk; omega
            subst hy
            exact Nm.trel_zero
          · refine ⟨_, Nm.wstep_par hps, ?_⟩
            have hy : 0 ≤ y ∧ y < 5 := by simp [Lv.tkOk] at htk; omega
            exact Nm.trel_leaf hy.1 hy.2
        obtain ⟨a, rfl, hrel⟩ := hleaf
        have HREL := Lib.hid hrel
        have HLF := Lib.hid (leafFor_any (wr.alloc (.cells #[.int .i64 op, .int .i64 y] 66)) op y s)
        generalize leafT s (op, y) = tt at HREL HLF
        obtain ⟨p', y'⟩ := tt
        simp only at HLF
        have HBA := Lib.hid hba
        have HB1 := Lib.hid hb1
        clear hps htk hfine hrel hba hb1
        rcases e with rfl | rfl
        all_goals
          go_wp2_with fail
          refine HLF.out.mono ?_
          rintro e w1 ⟨rfl, hbl⟩
          have hb01 := HBA.out.trans (hbl.mono (by simp))
          have hs1 := hb01.size
          have hp1 := (HP.out.below hb01).below (((Below.refl _ _).alloc (Nat.le_refl _) (.cells #[.int .i64 p', .int .i64 y'] 66)).alloc (by simp) (.cells #[.slice (some ⟨w1.heap.size, 0, none⟩) 1 1] 24))
          have hel : OwnT ((w1.alloc (.cells #[.int .i64 p', .int .i64 y'] 66)).alloc (.cells #[.slice (some ⟨w1.heap.size, 0, none⟩) 1 1] 24)) w.heap.size (some ⟨w1.heap.size, 0, none⟩) 1 1 [(p', y')] := own_litJ ((Blk.made w1 _ _).alloc _) (Nat.le_trans hszr hs1)
          have hbb := ((HBL.out.trans (hb01.mono hszr)).alloc (Nat.le_trans hszr hs1) (.cells #[.int .i64 p', .int .i64 y'] 66)).alloc (by simp; omega) (.cells #[.slice (some ⟨w1.heap.size, 0, none⟩) 1 1] 24)
          have hfar : ∀ i, i < D → G i ≠ w1.heap.size := fun i hi => by have := (HP.out.lt hi).2; omega
          clear hbl hb01
          go_wp2_with (at_builtin; refine wpList_append_own _ rfl (.tmp 23) (.tmp 28) 126 rfl w.heap.size 24 j0 (.slice none 0 0) 1 24 Tryd.underlying126 ji jz0 jz1 jz2 rfl (by decide) (.slice Av D cv) D vals rfl hp1.2.1 ⟨w1.heap.size + 1, 0, none⟩ 1 1 [.slice (some ⟨w1.heap.size, 0, none⟩) 1 1] rfl rfl (news_one _ _ _ _) (fun u hu => by simp at hu; subst hu; rfl) (by unfold maxLen; omega) (by omega) (by simp; omega) ?_
                       intro v' w3 hown' hgrow hnil
                       have HP3 := Lib.hid (PileT.push (x := [(p', y')]) hp1 hel hfar hgrow hown')
                       have HB3 : Hid (Below w.heap.size w w3) := hbb.grown hgrow (by simp; omega) (fun k h => (hp1.2.1.lt k h).1)
                       obtain ⟨A3, c3, rfl⟩ := own_slice hown'
                       clear hown' hgrow hnil hp1 hel hbb hfar)
          go_wp2
          go_roundw
          case rel => exact ⟨k + 1, _, [(p', y')] :: ts, D + 1, _, _, _, by omega, by go_num, HR', Lib.hid ⟨HREL.out, HTS.out⟩, by simp only [List.map_cons, List.sum_cons, List.length_cons, List.length_nil]; omega, Lib.hid (by rw [List.reverse_cons]; exact HP3.out), HB3.out⟩
          case measure => simp [intOf]; omega
      · subst e
        have hy : y = 0 := by simp [Lv.tkOk] at htk; omega
        subst hy
        obtain ⟨a, r, rfl, rfl⟩ := Nm.wstep_succ hps
        obtain ⟨ta, tr, rfl⟩ : ∃ ta tr, ts = ta :: tr := by
          cases ts with
          | nil => simp at hDl; simp at hDs; omega
          | cons ta tr => exact ⟨ta, tr, rfl⟩
        obtain ⟨d, rfl⟩ : ∃ d, D = d + 1 := ⟨tr.length, by rw [← hDl]; rfl⟩
        have hsd : tr.length = d := by simpa using hDl
        obtain ⟨g, rfl⟩ : ∃ g, Av = some ⟨g, 0, none⟩ := by
          obtain ⟨g, c, hh⟩ := own_form HP.out.2.1 (by omega)
          injection hh with e1
          exact ⟨g, e1⟩
        have hrt := rev_top ta tr d hsd []
        have hat := HP.out.at (i := d) (by omega)
        rw [hrt.1] at hat
        have hrow := (HP.out.2.2.2 d (by omega)).2
        rw [hrt.1] at hrow
        obtain ⟨La, hLa⟩ : ∃ La, ta.length = La := ⟨_, rfl⟩
        rw [hLa] at hat hrow
        have hsum2 : La + (tr.map List.length).sum ≤ k := by rw [← hLa]; simpa using hsum
        obtain ⟨gt, hgt⟩ : ∃ gt, G d = gt := ⟨_, rfl⟩
        obtain ⟨ct, hct⟩ : ∃ ct, C d = ct := ⟨_, rfl⟩
        rw [hgt, hct] at hat hrow
        have hgw : g < wr.heap.size := World.block_lt_of_cell? wr _ hat
        have hgt2 : gt < wr.heap.size := (hrow.lt gt rfl).2
        have hld : ∀ ob, (wr.alloc ob).cell? ⟨g, d, none⟩ = some (.slice (some ⟨gt, 0, none⟩) La ct) := fun ob => (((Below.refl wr.heap.size wr).alloc (Nat.le_refl _) ob).cell (p := ⟨g, d, none⟩) hgw).trans hat
        have hld2 : ∀ ob ob2, ((wr.alloc ob).alloc ob2).cell? ⟨g, d, none⟩ = some (.slice (some ⟨gt, 0, none⟩) La ct) := fun ob ob2 => ((((Below.refl wr.heap.size wr).alloc (Nat.le_refl _) ob).alloc (by simp) ob2).cell (p := ⟨g, d, none⟩) hgw).trans hat
        have hw1 : IntKind.i64.wrap ((d : Int) + 1 - 1) = (d : Int) := by rw [IntKind.wrap_i64]; omega
        have n1 : (0 : Int) ≤ (d : Int) := by omega
        have n4 : (d : Int) < (d : Int) + 1 := by omega
        have hlen1 : (tokCells [((1 : Int), (0 : Int))]).length = 1 * 2 := rfl
        have HAP := Lib.hid (own_apartK HP.out.2.1 hrow (by decide))
        have HVD : Hid (vals[d]? = some (.slice (some ⟨gt, 0, none⟩) La ct)) := by
          have h9 := (HP.out.2.2.2 d (by omega)).1
          rw [hrt.1, hLa, hgt, hct] at h9
          exact h9
        have HXL : Hid ((ta ++ [((1 : Int), (0 : Int))]).length = La + 1) := by unfold Hid; rw [List.length_append, hLa]; rfl
        have HGD := Lib.hid (HP.out.2.1.lt g rfl).1
        have HROW := Lib.hid hrow
        have HHAT := Lib.hid hat
        have HRT := Lib.hid hrt
        have HLA := Lib.hid hLa
        have HGT := Lib.hid hgt
        have HB1 := Lib.hid hb1
        have HRA := Lib.hid HTS.out
        clear hps htk hfine hrow hat hrt hLa hgt hct hba hb1 hDl hDs
        go_wp2_with fail
        go_region_law (first
          | (refine step_append_lies _ (by rfl) _ _ _ (by rfl) w.heap.size 66 i0 _ 2 16 Tryd.underlying24 hi hz0 hz1 hz2 rfl (by omega) (.slice (some ⟨gt, 0, none⟩) La ct) La (tokCells ta) (by rfl) ?hown ⟨wr.heap.size + 1, 0, none⟩ 1 1 (tokCells [(1, 0)]) (by rfl) hlen1 ?hnews (tokCells_one _) (by omega) (by unfold maxLen; omega) (by omega) ?hbase (wr.heap.size + 1 + 1) (by simp) ?_
             case hown => exact (World.ownsRow.alloc (World.ownsRow.alloc HROW.out _) _)
             case hnews => exact newsT2 _ _ _ _
             case hbase => simp; omega
             intro g' cap' w3 hown' hgrow hat' hlt'
             have hpw : w3.ownsRow w.heap.size 24 1 (.slice (some ⟨g, 0, none⟩) (d + 1) cv) (d + 1) vals := by
               refine World.ownsRow.kept ?_ hgrow HAP.out
               exact ((HP.out.2.1.alloc _).alloc _)
             have s3 : w3.cell? ⟨g, d, none⟩ = some (.slice (some ⟨gt, 0, none⟩) La ct) := by
               have h9 := hpw.cells (g := g) rfl d _ HVD.out
               rw [own_adds] at h9
               exact h9
             have f3 : w3.frozen? ⟨g, d, none⟩ = false := by
               obtain ⟨cs, hblk⟩ := own_blk hpw g rfl
               exact hblk.thawed d
             have ho3 : OwnT w3 w.heap.size (some ⟨g', 0, none⟩) (ta ++ [((1 : Int), (0 : Int))]).length cap' (ta ++ [(1, 0)]) := by
               rw [HXL.out]
               unfold OwnT
               rw [tokCells_append]
               exact hown'
             have hx3 : g' = gt ∨ wr.heap.size + 2 ≤ g' := by
               rcases hat' with h | h
               · left
                 have h' : gt = g' := (by simpa [Value.ownBlock] using h)
                 exact h'.symm
               · right
                 omega
             have HPN := Lib.hid (PileT.grown (x := ta ++ [(1, 0)]) (HP.out.below (((Below.refl _ _).alloc (Nat.le_refl _) _).alloc (by simp) _).drew) (i := d) (by omega) (by rw [HGT.out]; exact hgrow) ho3 (by rw [HGT.out]; simpa using hx3))
             rw [HXL.out] at HPN
             have HBN : Hid (Below w.heap.size w w3) := ((HB1.out.alloc (by simp; omega) _).drew).grown hgrow (by simp; omega) (fun k h => by have h' : gt = k := (by simpa [Value.ownBlock] using h); have := (HROW.out.lt gt rfl).1; omega)
             clear hown' hgrow hat' hlt' hpw ho3 hx3))
        all_goals
          have HBS := Lib.hid (HBN.out.setCell (p := ⟨g, d, none⟩) HGD.out (.slice (some ⟨g', 0, none⟩) (La + 1) cap'))
          clear s3 f3
          go_wp2
          go_roundw
          case rel => exact ⟨k + 1, _, (ta ++ [(1, 0)]) :: tr, d + 1, _, _, _, by omega, by go_num, HR', Lib.hid ⟨Nm.trel_succ HTS.out.1, HTS.out.2⟩, by simp only [List.map_cons, List.sum_cons, HXL.out]; omega, Lib.hid (by rw [← HRT.out.2]; exact HPN.out), HBS.out⟩
          case measure => simp [intOf]; omega
      · obtain ⟨a, b2, r, rfl, rfl⟩ := Nm.wstep_two hps e
        obtain ⟨tb, ta, tr, rfl⟩ : ∃ tb ta tr, ts = tb :: ta :: tr := by
          match ts, hDl with
          | [], hDl => simp at hDl; simp at hDs; omega
          | [x], hDl => simp at hDl; simp at hDs; omega
          | tb :: ta :: tr, _ => exact ⟨tb, ta, tr, rfl⟩
        obtain ⟨d, rfl⟩ : ∃ d, D = d + 2 := ⟨tr.length, by rw [← hDl]; rfl⟩
        have hsd : tr.length = d := by simpa using hDl
        obtain ⟨g, rfl⟩ : ∃ g, Av = some ⟨g, 0, none⟩ := by
          obtain ⟨g, c, hh⟩ := own_form HP.out.2.1 (by omega)
          injection hh with e1
          exact ⟨g, e1⟩
        obtain ⟨hr1, hr2, hr3⟩ := rev_two tb ta tr d hsd []
        have hata := HP.out.at (i := d) (by omega)
        have hatb := HP.out.at (i := d + 1) (by omega)
        rw [hr1] at hata
        rw [hr2] at hatb
        have hrowa := (HP.out.2.2.2 d (by omega)).2
        have hrowb := (HP.out.2.2.2 (d + 1) (by omega)).2
        rw [hr1] at hrowa
        rw [hr2] at hrowb
        obtain ⟨La, hLa⟩ : ∃ La, ta.length = La := ⟨_, rfl⟩
        obtain ⟨Lb, hLb⟩ : ∃ Lb, tb.length = Lb := ⟨_, rfl⟩
        obtain ⟨Lj, hLj⟩ : ∃ Lj, (joinT s op ta tb).length = Lj := ⟨_, rfl⟩
        have hrb := HTS.out.1
        have hra := HTS.out.2.1
        have hpa := hra.pos
        have hpb := hrb.pos
        have hjl := Nm.joinT_len s op ta tb
        have hsum2 : Lb + (La + (tr.map List.length).sum) ≤ k := by rw [← hLa, ← hLb]; simpa using hsum
        rw [hLa] at hata hrowa hpa
        rw [hLb] at hatb hrowb hpb
        rw [hLj, hLa, hLb] at hjl
        obtain ⟨gta, hgta⟩ : ∃ q, G d = q := ⟨_, rfl⟩
        obtain ⟨cta, hcta⟩ : ∃ q, C d = q := ⟨_, rfl⟩
        obtain ⟨gtb, hgtb⟩ : ∃ q, G (d + 1) = q := ⟨_, rfl⟩
        obtain ⟨ctb, hctb⟩ : ∃ q, C (d + 1) = q := ⟨_, rfl⟩
        rw [hgta, hcta] at hata hrowa
        rw [hgtb, hctb] at hatb hrowb
        have hgw : g < wr.heap.size := World.block_lt_of_cell? wr _ hata
        have hld : ∀ ob, (wr.alloc ob).cell? ⟨g, d, none⟩ = some (.slice (some ⟨gta, 0, none⟩) La cta) := fun ob => (((Below.refl wr.heap.size wr).alloc (Nat.le_refl _) ob).cell (p := ⟨g, d, none⟩) hgw).trans hata
        have hld2 : ∀ ob, (wr.alloc ob).cell? ⟨g, d + 1, none⟩ = some (.slice (some ⟨gtb, 0, none⟩) Lb ctb) := fun ob => (((Below.refl wr.heap.size wr).alloc (Nat.le_refl _) ob).cell (p := ⟨g, d + 1, none⟩) hgw).trans hatb
        have hw1 : IntKind.i64.wrap ((d : Int) + 2 - 1) = (d : Int) + 1 := by rw [IntKind.wrap_i64]; omega
        have hw2 : IntKind.i64.wrap ((d : Int) + 1 - 1) = (d : Int) := by rw [IntKind.wrap_i64]; omega
        have hw3 : IntKind.i64.wrap (d : Int) = (d : Int) := by rw [IntKind.wrap_i64]; omega
        have n1 : (0 : Int) ≤ (d : Int) := by omega
        have n3 : (0 : Int) ≤ (d : Int) + 1 := by omega
        have n4 : (d : Int) < (d : Int) + 2 := by omega
        have n5 : (d : Int) + 1 < (d : Int) + 2 := by omega
        have n6 : ((d : Int) + 1).toNat = d + 1 := by omega
        have HJF : Hid (∀ X : World, Below wr.heap.size wr X → Calls Tryd.prog 101 #[.int .i64 op, .slice (some ⟨gta, 0, none⟩) La cta, .slice (some ⟨gtb, 0, none⟩) Lb ctb, .int .i64 s] X (ResT X (joinT s op ta tb))) := fun X hX =>
          joinFor_any X X.heap.size op s _ La cta ta _ Lb ctb tb T pv (by have := hX.size; omega) (Nat.le_refl _) (OwnT.reads (own_below' hrowa hX)) (by omega) hpa (OwnT.reads (own_below' hrowb hX)) (by omega) hpb (HEE.out.below ((HBL.out.trans (hX.mono hszr)).mono hB) h0)
        have hfb := hfine b2 (by simp)
        have HREL := Lib.hid (Nm.ts_join (op := op) hra hrb (by omega) HSG.out hfb.2.1 (hfine.allOk (by omega) (by simp)))
        have HLJ := Lib.hid hLj
        have HGD := Lib.hid (HP.out.2.1.lt g rfl).1
        have HR3 := Lib.hid hr3
        have HATA := Lib.hid hata
        have HB1 := Lib.hid hb1
        have hcap : d + 2 ≤ cv := own_capR HP.out.2.1
        have n7 : d + 1 ≤ cv := by omega
        have n8 : (d : Int) + 1 ≤ (cv : Int) := by omega
        have HFAR : Hid (∀ j, j < d + 2 → G j < wr.heap.size) := fun j hj => (HP.out.lt hj).2
        clear hps htk hfine hfb hrowa hrowb hata hatb hr1 hr2 hr3 hLa hLb hLj hra hrb hgta hcta hgtb hctb hba hb1 hDl hDs
        rcases e with rfl | rfl
        all_goals
          go_wp2_with fail
          go_region_law (first
            | (go_simp
               go_at_call 101
               refine (HJF.out _ ((Below.refl _ _).alloc (Nat.le_refl _) _).drew).mono ?_
               rintro e w3 ⟨gj, cj, rfl, hoj, hbj⟩
               rw [HLJ.out] at hoj ⊢
               have hb03 : Below wr.heap.size wr w3 := Below.trans (((Below.refl _ _).alloc (Nat.le_refl _) _).drew) (hbj.mono (by simp))
               have hs3 := hb03.size
               have hp3 := HP.out.below hb03
               have s3 := (hb03.cell (p := ⟨g, d, none⟩) hgw).trans HATA.out
               have f3 : w3.frozen? ⟨g, d, none⟩ = false := by
                 obtain ⟨cs, hblk⟩ := own_blk hp3.2.1 g rfl
                 exact hblk.thawed d
               have hgj := (hoj.lt gj rfl).1
               have HPN := Lib.hid ((PileT.put hp3 (i := d) (x := joinT s _ ta tb) (gx := gj) (cx := cj) (by omega) (by rw [HLJ.out]; exact own_base hoj (by simp; omega)) (fun j hj _ => by have := HFAR.out j hj; simp at hgj; omega)).take (m := d + 1) (by omega))
               rw [HLJ.out] at HPN
               have HBS := Lib.hid ((HBL.out.trans (hb03.mono hszr)).setCell (p := ⟨g, d, none⟩) HGD.out (.slice (some ⟨gj, 0, none⟩) Lj cj))
               clear hoj hbj hb03 hp3 hgj))
        all_goals
          clear s3 f3 HJF
          go_wp2
          go_roundw
          case rel => exact ⟨k + 1, _, joinT s _ ta tb :: tr, d + 1, _, _, _, by omega, by go_num, HR', Lib.hid ⟨HREL.out, HTS.out.2.2⟩, by simp only [List.map_cons, List.sum_cons, HLJ.out]; omega, Lib.hid (by rw [← HR3.out]; exact HPN.out), HBS.out⟩
          case measure => simp [intOf]; omega
    · obtain rfl : k = n := by omega
      have htl : l.take k = l := List.take_of_length_le (by rw [hl.1]; exact Nat.le_refl _)
      obtain ⟨a, ha⟩ := Nm.wrun_one (s := s) HO.out
      have hst : st = [a] := by
        have h := HR.out
        rw [htl, ha] at h
        injection h with h
        exact h.symm
      subst hst
      have HLF := Lib.hid (Nm.wl_of ha)
      obtain ⟨t, rfl⟩ : ∃ t, ts = [t] := by
        match ts, HTS.out with
        | [t], _ => exact ⟨t, rfl⟩
        | _ :: _ :: _, h => exact h.2.elim
        | [], h => exact h.elim
      obtain rfl : 1 = D := hDl
      obtain ⟨g, rfl⟩ : ∃ g, Av = some ⟨g, 0, none⟩ := by
        obtain ⟨g, c, hh⟩ := own_form HP.out.2.1 (by omega)
        injection hh with e1
        exact ⟨g, e1⟩
      have hat := HP.out.at (i := 0) (by omega)
      have hrow := (HP.out.2.2.2 0 (by omega)).2
      have HROW := Lib.hid hrow
      have HTR := Lib.hid HTS.out.1
      have h24 : t.length ≤ 24 := by simp at hsum; omega
      obtain ⟨gt, hgt⟩ : ∃ gt, G 0 = gt := ⟨_, rfl⟩
      obtain ⟨ct, hct⟩ : ∃ ct, C 0 = ct := ⟨_, rfl⟩
      rw [hgt, hct] at hat HROW
      have e0 : ([t].reverse).getD 0 [] = t := rfl
      rw [e0] at hat HROW
      obtain ⟨Lt, hLt⟩ : ∃ Lt, t.length = Lt := ⟨_, rfl⟩
      rw [hLt] at hat
      have HLT := Lib.hid hLt
      clear hrow hgt hct e0 hLt ha htl hfine
      go_wp2
      go_ret
      exact ⟨gt, ct, t, by rw [HLT.out]; rfl, HROW.out, by rw [HLF.out]; exact HTR.out, h24, hbel⟩
end Go.Proofs.YtijiohdddfdjfaaDoor

namespace Go.Proofs.YtijiohdddfdjfaaDoor
open Go.RowKit

set_option maxRecDepth 100000 in
set_option maxHeartbeats 800000 in
theorem numberIsNeeded_any (w : World) (B : Nat) (b off n c : Nat) (l : List (Int × Int)) (hB : B ≤ w.heap.size) (hl : TokR w B (some ⟨b, off, none⟩) n l) (hn : (n : Int) ≤ 140737488355328) (h1 : 1 ≤ n) (hnc : n ≤ c) (hok : Nm.AllOk l) :
    Calls Tryd.prog 56 #[.slice (some ⟨b, off, none⟩) n c] w fun e w' => e = .returned (.bool (Nm.exceeds ((l.getD 0 (0, 0)).2 - 1) (l.drop 1))) ∧ Below w.heap.size w w' := by
  obtain ⟨b', off', e, hb, hc⟩ := hl.2 (by omega)
  injection e with e
  injection e with e1 e2
  subst e1; subst e2
  obtain ⟨c1, c2⟩ := hc 0 (by omega)
  have h2 := (Nm.atOk_iff _).1 (hok 0 (by have := hl.1; omega))
  obtain ⟨x, hx⟩ : ∃ x, (l.getD 0 (0, 0)).2 = x := ⟨_, rfl⟩
  rw [hx] at c2 h2 ⊢
  obtain ⟨_, _, h3, h4⟩ := h2
  rw [Nat.zero_mul, Nat.add_zero] at c2
  obtain ⟨A', hsl, hA'⟩ := run_tail b off n c h1 hnc
  have HR := Lib.hid (hA' _ _ _ hl)
  have HNE := numberExceeds_any w.drew B (x - 1) A' (n - 1) (c - 1) (l.drop 1) hB HR.out (by omega)
  have HN := Lib.hid HNE
  have hi0 : 0 < n := by omega
  clear hc c1 hl hA' hx hok HNE
  go_enter Tryd.func56, Tryd.ntmps56
  go_wp2_with fail
  refine region_tail 7 (by kernel_rfl) (by kernel_rfl) ?_
  simp only [List.take_succ_cons, List.take_zero, List.drop_succ_cons, List.drop_zero]
  repeat still_step
  refine wpStill_nil ?_
  go_wp2_with fail
  refine (HN.out).mono ?_
  rintro e w3 ⟨rfl, hb3⟩
  have HB3 := Lib.hid ((Below.refl w.heap.size w).drew.trans hb3)
  go_wp2
  go_ret
  exact ⟨by rw [List.drop_one]; rfl, HB3.out⟩

set_option maxRecDepth 100000 in
set_option maxHeartbeats 1600000 in
theorem implResidOk_any (w : World) (B : Nat) (A : Option Addr) (n c : Nat) (l : List (Int × Int)) (s : Int) (hB : B ≤ w.heap.size) (hl : TokR w B A n l) (hn : (n : Int) ≤ 140737488355328) (hnc : n ≤ c) :
    Calls Tryd.prog 22 #[.slice A n c, .int .i64 s] w fun e w' => e = .returned (.bool (Nm.residOk s l)) ∧ Below w.heap.size w w' := by
  cases hs : Sg.isSign s with
  | false =>
    have HF : Hid (Nm.residOk s l = false) := Nm.residOk_no (fun h => by rw [h.1] at hs; cases hs)
    clear hl
    go_enter Tryd.func22, Tryd.ntmps22
    go_wp2_with fail
    refine (signOk_any w s).mono ?_
    rintro e w' ⟨rfl, rfl⟩
    rw [hs]
    go_wp2
    go_ret
    exact ⟨by rw [HF.out]; rfl, Below.refl _ _⟩
  | true =>
  by_cases h0 : n = 0
  · subst h0
    have HF : Hid (Nm.residOk s l = false) := Nm.residOk_no (fun h => by have h1 := h.2.1; rw [hl.1] at h1; omega)
    clear hl
    go_enter Tryd.func22, Tryd.ntmps22
    go_wp2_with fail
    refine (signOk_any w s).mono ?_
    rintro e w' ⟨rfl, rfl⟩
    rw [hs]
    go_wp2
    go_ret
    exact ⟨by rw [HF.out]; rfl, Below.refl _ _⟩
  · have h1 : 1 ≤ n := by omega
    have d0 : ((n : Int) == 0) = false := by simp; omega
    cases hall : Nm.allOk l with
    | false =>
      have HF : Hid (Nm.residOk s l = false) := Nm.residOk_no (fun h => by rw [(Nm.allOk_iff l).2 h.2.2.1] at hall; cases hall)
      have HA := Lib.hid hall
      clear hall
      go_enter Tryd.func22, Tryd.ntmps22
      go_wp2_with fail
      refine (signOk_any w s).mono ?_
      rintro e w' ⟨rfl, rfl⟩
      rw [hs]
      go_wp2_with fail
      refine (atomsOk_any _ B A n c l hB hl hn).mono ?_
      rintro e w1 ⟨rfl, hb1⟩
      rw [HA.out]
      go_wp2
      go_ret
      exact ⟨by rw [HF.out]; rfl, hb1⟩
    | true =>
      have HA := Lib.hid hall
      have HP := Lib.hid ((Nm.allOk_iff l).1 hall)
      clear hall
      cases hinc : Nm.incr l with
      | false =>
        have HF : Hid (Nm.residOk s l = false) := Nm.residOk_no (fun h => by rw [(Nm.incr_iff l).2 h.2.2.2.1] at hinc; cases hinc)
        have HI := Lib.hid hinc
        clear hinc
        go_enter Tryd.func22, Tryd.ntmps22
        go_wp2_with fail
        refine (signOk_any w s).mono ?_
        rintro e w' ⟨rfl, rfl⟩
        rw [hs]
        go_wp2_with fail
        refine (atomsOk_any _ B A n c l hB hl hn).mono ?_
        rintro e w1 ⟨rfl, hb1⟩
        rw [HA.out]
        go_wp2_with fail
        refine (paramsIncrease_any w1 B A n c l (Nat.le_trans hB hb1.size) (hl.below (hb1.mono hB)) hn h1).mono ?_
        rintro e w2 ⟨rfl, hb2⟩
        rw [HI.out]
        have HB := Lib.hid (hb1.trans (hb2.mono hb1.size))
        go_wp2
        go_ret
        exact ⟨by rw [HF.out]; rfl, HB.out⟩
      | true =>
        have HI := Lib.hid hinc
        have HQ := Lib.hid ((Nm.incr_iff l).1 hinc)
        have HS := Lib.hid hs
        clear hinc
        obtain ⟨b, off, rfl, hb, hc⟩ := hl.2 (by omega)
        have HC := Lib.hid hc
        have HL := Lib.hid hl.1
        have HR := Lib.hid hl
        clear hc
        go_enter Tryd.func22, Tryd.ntmps22
        go_wp2_with fail
        refine (signOk_any w s).mono ?_
        rintro e w' ⟨rfl, rfl⟩
        rw [hs]
        clear hs
        go_wp2_with fail
        refine (atomsOk_any _ B _ n c l hB hl hn).mono ?_
        rintro e w1 ⟨rfl, hb1⟩
        rw [HA.out]
        go_wp2_with fail
        refine (paramsIncrease_any w1 B _ n c l (Nat.le_trans hB hb1.size) (hl.below (hb1.mono hB)) hn h1).mono ?_
        rintro e w2 ⟨rfl, hb2⟩
        rw [HI.out]
        have HBL := Lib.hid (hb1.trans (hb2.mono hb1.size))
        clear hl hb1 hb2
        go_wp2
        go_loopw [27] (fun i wr => ∃ k : Nat, k ≤ n ∧ i = .int .i64 k ∧ Hid (∀ j, j < k → (l.getD j (0, 0)).1 = -1 ∨ Sg.has s (l.getD j (0, 0)).1 = true) ∧ Below w'.heap.size w' wr) (fun i _ => n - (intOf i).toNat)
        case atStart => exact ⟨0, Nat.zero_le _, rfl, (fun j hj => absurd hj (by omega)), HBL.out⟩
        case round =>
          obtain ⟨k, hk, rfl, HX, hbel⟩ := hrel
          by_cases hlt : k < n
          · obtain ⟨c1, c2⟩ := HC.out k hlt
            obtain ⟨t, ht⟩ : ∃ t, l.getD k (0, 0) = t := ⟨_, rfl⟩
            rw [ht] at c1 c2
            obtain ⟨p, x⟩ := t
            have HT := Lib.hid ht
            have k1 := (hbel.cell (p := ⟨b, off + k * 2, none⟩) (by show b < _; omega)).trans c1
            have k2 := (hbel.cell (p := ⟨b, off + k * 2 + 1, none⟩) (by show b < _; omega)).trans c2
            have HBA := Lib.hid (hbel.alloc hbel.size (.cells #[.int .i64 p, .int .i64 x] 68))
            clear c1 c2 ht
            have HX2 : Hid (p = -1 ∨ Sg.has s p = true → ∀ j, j < k + 1 → (l.getD j (0, 0)).1 = -1 ∨ Sg.has s (l.getD j (0, 0)).1 = true) := by
              intro hp j hj
              by_cases e : j = k
              · subst e; rw [HT.out]; exact hp
              · exact HX.out j (by omega)
            by_cases ep : p = -1
            · subst ep
              go_wp2
              go_roundw
              case rel => exact ⟨k + 1, by omega, by go_num, HX2.out (.inl rfl), HBA.out⟩
              case measure => simp [intOf]; omega
            · have dp : (p != -1) = true := by simpa using ep
              have HEP := Lib.hid ep
              clear ep
              cases hh : Sg.has s p with
              | true =>
                have HX3 := Lib.hid (HX2.out (.inr hh))
                go_wp2_with fail
                refine (implSignHas_any _ s p).mono ?_
                rintro e w4 ⟨rfl, rfl⟩
                rw [hh]
                go_wp2
                go_roundw
                case rel => exact ⟨k + 1, by omega, by go_num, HX3.out, HBA.out⟩
                case measure => simp [intOf]; omega
              | false =>
                have HF : Hid (Nm.residOk s l = false) := Nm.residOk_no (fun h => by
                  have := h.2.2.2.2.1 k (by rw [HL.out]; exact hlt)
                  rw [HT.out] at this
                  rcases this with h | h
                  · exact HEP.out h
                  · rw [hh] at h; cases h)
                go_wp2_with fail
                refine (implSignHas_any _ s p).mono ?_
                rintro e w4 ⟨rfl, rfl⟩
                rw [hh]
                go_wp2
                go_ret
                exact ⟨by rw [HF.out]; rfl, HBA.out⟩
          · obtain rfl : k = n := by omega
            obtain ⟨t, ht⟩ : ∃ t, l.getD 0 (0, 0) = t := ⟨_, rfl⟩
            obtain ⟨c1, c2⟩ := HC.out 0 (by omega)
            rw [ht] at c1 c2
            obtain ⟨p, x⟩ := t
            have HT := Lib.hid ht
            rw [Nat.zero_mul, Nat.add_zero] at c1
            have k1 := (hbel.cell (p := ⟨b, off, none⟩) (by show b < _; omega)).trans c1
            clear c1 c2 ht
            have hi0 : 0 < k := by omega
            by_cases ep : p = -1
            · subst ep
              have HNN := Lib.hid (numberIsNeeded_any wr B b off k c l (Nat.le_trans hB hbel.size) (HR.out.below (hbel.mono hB)) hn h1 hnc HP.out)
              go_wp2_with fail
              refine HNN.out.mono ?_
              rintro e w3 ⟨rfl, hb3⟩
              have HB3 := Lib.hid (hbel.trans (hb3.mono hbel.size))
              have HF : Hid (Nm.residOk s l = Nm.exceeds ((l.getD 0 (0, 0)).2 - 1) (l.drop 1)) := by
                show _ = _
                rw [Bool.eq_iff_iff, Nm.residOk_iff, Nm.exceeds_iff]
                constructor
                · intro h
                  exact h.2.2.2.2.2 (by rw [HT.out])
                · intro h
                  exact ⟨HS.out, by rw [HL.out]; exact h1, HP.out, HQ.out, by rw [HL.out]; exact HX.out, fun _ => h⟩
              obtain ⟨r, hr⟩ : ∃ r, Nm.residOk s l = r := ⟨_, rfl⟩
              rw [← HF.out, hr]
              have HRR := Lib.hid hr
              clear hr
              go_wp2
              go_ret
              exact ⟨by rw [HRR.out]; rfl, HB3.out⟩
            · have HF : Hid (Nm.residOk s l = true) := (Nm.residOk_iff s l).2 ⟨HS.out, by rw [HL.out]; exact h1, HP.out, HQ.out, by rw [HL.out]; exact HX.out, fun h => absurd (by rw [HT.out] at h; exact h) ep⟩
              have dp : (p != -1) = true := by simpa using ep
              clear ep
              go_wp2
              go_ret
              exact ⟨by rw [HF.out]; rfl, hbel⟩
end Go.Proofs.YtijiohdddfdjfaaDoor

namespace Go.Proofs.YtijiohdddfdjfaaDoor
open Go.RowKit

theorem info_atoms : (Tryd.prog.info? 34).map (fun i => (i.zero, i.size, i.bytes)) = some (some (.slice none 0 0), 1, 24) := by kernel_rfl
/-- a pile of rows of atoms, its top first, each row of its own -/
def PileD (w : World) (base g D c : Nat) (cs : List (List (Int × Int))) : Prop :=
  cs.length = D ∧ ∃ vals : List Value, w.ownsRow base 34 1 (.slice (some ⟨g, 0, none⟩) D c) D vals ∧
    ∀ (i : Nat) (a : List (Int × Int)), cs.reverse[i]? = some a → ∃ ga ca, vals[i]? = some (Value.slice (some ⟨ga, 0, none⟩) a.length ca) ∧ OwnA w base (some ⟨ga, 0, none⟩) a.length ca a
theorem PileD.below {w w' : World} {base g D c : Nat} {cs : List (List (Int × Int))} (h : PileD w base g D c cs) (hb : Below w.heap.size w w') : PileD w' base g D c cs := by
  obtain ⟨h1, vals, h2, h3⟩ := h
  refine ⟨h1, vals, own_below' h2 hb, fun i a ha => ?_⟩
  obtain ⟨ga, ca, q1, q2⟩ := h3 i a ha
  exact ⟨ga, ca, q1, own_below' q2 hb⟩
theorem PileD.alloc {w : World} {base g D c : Nat} {cs : List (List (Int × Int))} (h : PileD w base g D c cs) (o : Obj) : PileD (w.alloc o) base g D c cs :=
  h.below ((Below.refl _ _).alloc (Nat.le_refl _) o)
theorem PileD.drew {w : World} {base g D c : Nat} {cs : List (List (Int × Int))} (h : PileD w base g D c cs) : PileD w.drew base g D c cs := h
/-- the pile without its top ones -/
theorem PileD.drop {w : World} {base g D c : Nat} {cs : List (List (Int × Int))} (h : PileD w base g D c cs) (k : Nat) (hk : k ≤ D) : PileD w base g (D - k) c (cs.drop k) := by
  obtain ⟨h1, vals, h2, h3⟩ := h
  refine ⟨by rw [List.length_drop, h1], vals.take (D - k), own_take h2 (by omega), fun i a ha => ?_⟩
  rw [List.reverse_drop, h1] at ha
  have hi : i < D - k := by
    have := (List.getElem?_eq_some_iff.1 ha).1
    rw [List.length_take] at this
    omega
  rw [List.getElem?_take_of_lt hi] at ha
  obtain ⟨ga, ca, q1, q2⟩ := h3 i a ha
  exact ⟨ga, ca, by rw [List.getElem?_take_of_lt hi]; exact q1, q2⟩
/-- what an append gives -/
theorem PileD.push {w w' : World} {base g D c ga ca : Nat} {cs : List (List (Int × Int))} {a : List (Int × Int)} {v' : Value} {vals : List Value} (hD : cs.length = D)
    (h2 : w.ownsRow base 34 1 (.slice (some ⟨g, 0, none⟩) D c) D vals) (h3 : ∀ (i : Nat) (a : List (Int × Int)), cs.reverse[i]? = some a → ∃ ga ca, vals[i]? = some (Value.slice (some ⟨ga, 0, none⟩) a.length ca) ∧ OwnA w base (some ⟨ga, 0, none⟩) a.length ca a)
    (ho : OwnA w base (some ⟨ga, 0, none⟩) a.length ca a) (hg : w.grownBy w' (Value.slice (some ⟨g, 0, none⟩) D c).ownBlock)
    (hown : w'.ownsRow base 34 1 v' (D + 1) (vals ++ [Value.slice (some ⟨ga, 0, none⟩) a.length ca])) : ∃ g' c', v' = .slice (some ⟨g', 0, none⟩) (D + 1) c' ∧ PileD w' base g' (D + 1) c' (a :: cs) := by
  obtain ⟨g', c', rfl⟩ := own_form hown (by omega)
  refine ⟨g', c', rfl, by rw [List.length_cons, hD], _, hown, fun i x hx => ?_⟩
  have hvl : vals.length = D := by have := h2.1; omega
  have hk : ∀ {gx cx : Nat} {x : List (Int × Int)}, OwnA w base (some ⟨gx, 0, none⟩) x.length cx x → OwnA w' base (some ⟨gx, 0, none⟩) x.length cx x := fun h => h.kept hg (own_apartK h h2 (by decide))
  rw [List.reverse_cons] at hx
  by_cases hi : i < D
  · rw [List.getElem?_append_left (by rw [List.length_reverse, hD]; exact hi)] at hx
    obtain ⟨gx, cx, q1, q2⟩ := h3 i x hx
    exact ⟨gx, cx, by rw [List.getElem?_append_left (by omega)]; exact q1, hk q2⟩
  · have hiD : i = D := by
      have := (List.getElem?_eq_some_iff.1 hx).1
      simp at this
      omega
    subst hiD
    rw [List.getElem?_append_right (by rw [List.length_reverse, hD]; exact Nat.le_refl _), List.length_reverse, hD, Nat.sub_self] at hx
    obtain rfl : a = x := by simpa using hx
    exact ⟨ga, ca, by rw [List.getElem?_append_right (by omega), hvl, Nat.sub_self]; rfl, hk ho⟩
/-- the top one is put anew -/
theorem PileD.top {w : World} {base g d c ga ca : Nat} {s : List (List (Int × Int))} {a a' : List (Int × Int)} (h : PileD w base g (d + 1) c (a :: s)) (ho : OwnA w base (some ⟨ga, 0, none⟩) a'.length ca a') :
    PileD (w.setCell ⟨g, d, none⟩ (.slice (some ⟨ga, 0, none⟩) a'.length ca)) base g (d + 1) c (a' :: s) := by
  obtain ⟨h1, vals, h2, h3⟩ := h
  have hs : s.length = d := by simpa using h1
  have hvl : vals.length = d + 1 := by have := h2.1; omega
  have hk : ∀ {gx cx : Nat} {x : List (Int × Int)}, OwnA w base (some ⟨gx, 0, none⟩) x.length cx x → OwnA (w.setCell ⟨g, d, none⟩ (.slice (some ⟨ga, 0, none⟩) a'.length ca)) base (some ⟨gx, 0, none⟩) x.length cx x := fun h => h.kept (put_grown w g d _) (own_apartK h h2 (by decide))
  refine ⟨by simpa using hs, _, own_put h2 d _, fun i x hx => ?_⟩
  rw [List.reverse_cons] at hx
  by_cases hi : i < d
  · have hx2 : (a :: s).reverse[i]? = some x := by
      rw [List.reverse_cons, List.getElem?_append_left (by rw [List.length_reverse, hs]; exact hi)]
      rw [List.getElem?_append_left (by rw [List.length_reverse, hs]; exact hi)] at hx
      exact hx
    obtain ⟨gx, cx, q1, q2⟩ := h3 i x hx2
    exact ⟨gx, cx, by rw [List.getElem?_set_ne (by omega)]; exact q1, hk q2⟩
  · have hid : i = d := by
      have := (List.getElem?_eq_some_iff.1 hx).1
      simp at this
      omega
    subst hid
    rw [List.getElem?_append_right (by rw [List.length_reverse, hs]; exact Nat.le_refl _), List.length_reverse, hs, Nat.sub_self] at hx
    obtain rfl : a' = x := by simpa using hx
    exact ⟨ga, ca, by rw [List.getElem?_set_self (by omega)], hk ho⟩
/-- what lies at a place of the pile -/
theorem PileD.at {w : World} {base g D c i : Nat} {cs : List (List (Int × Int))} {a : List (Int × Int)} (h : PileD w base g D c cs) (ha : cs.reverse[i]? = some a) :
    ∃ ga ca, w.cell? ⟨g, i, none⟩ = some (.slice (some ⟨ga, 0, none⟩) a.length ca) ∧ OwnA w base (some ⟨ga, 0, none⟩) a.length ca a := by
  obtain ⟨h1, vals, h2, h3⟩ := h
  obtain ⟨ga, ca, q1, q2⟩ := h3 i a ha
  have hk := h2.cells (g := g) rfl i _ q1
  rw [own_adds] at hk
  exact ⟨ga, ca, hk, q2⟩
theorem norm_one {p : Int} (h0 : -1 ≤ p) (h5 : p < 5) : Nm.norm [(p, 0)] = [(p, 0)] := by
  apply Nm.norm_self
  refine ⟨by simp, ?_, ?_, ?_⟩
  · exact Nm.allOk_of_mem fun a ha => by
      obtain rfl : a = (p, 0) := by simpa using ha
      exact (Nm.atOk_iff _).2 (by simp; omega)
  · intro k hk hk2
    simp at hk2
    omega
  · intro _ k hk
    simp at hk
end Go.Proofs.YtijiohdddfdjfaaDoor

namespace Go.Proofs.YtijiohdddfdjfaaDoor
open Go.RowKit

/-- atoms and whether there are any -/
def ResO (w : World) (r : Option (List (Int × Int))) (e : Ending) (w' : World) : Prop :=
  ∃ A c, e = .returned (.tuple #[.slice A (r.getD []).length c, .bool r.isSome]) ∧ OwnO w' w.heap.size A (r.getD []).length c (tokCells (r.getD [])) ∧ Below w.heap.size w w'
theorem resO_none {w w' : World} (h : Below w.heap.size w w') : ResO w none (.returned (.tuple #[.slice none 0 0, .bool false])) w' :=
  ⟨none, 0, rfl, ⟨rfl, .inl ⟨rfl, rfl, rfl⟩⟩, h⟩
theorem own_litO {w : World} {g base : Nat} {a b : Int} (h : Blk w g 68 #[.int .i64 a, .int .i64 b]) (hb : base ≤ g) : OwnA w base (some ⟨g, 0, none⟩) 1 1 [(a, b)] :=
  ⟨rfl, .inr ⟨g, 1, #[.int .i64 a, .int .i64 b], rfl, hb, h, Nat.le_refl _, by simp [maxLen], rfl, rfl⟩⟩
theorem small_of {a : List (Int × Int)} (h : Nm.AllOk a) : Small a := by
  intro j hj
  have := (h.mem (Nm.mem_getD hj)).2.2
  omega
theorem rnorm_one {p : Int} (h0 : -1 ≤ p) (h5 : p < 5) : Nm.rnorm [(p, 0)] = [(p, 0)] := by
  rcases (show p = -1 ∨ p = 0 ∨ p = 1 ∨ p = 2 ∨ p = 3 ∨ p = 4 by omega) with rfl | rfl | rfl | rfl | rfl | rfl <;> decide
theorem residR_no {s : Int} {l : List (Int × Int)} (h : ¬ (Lv.levelOk l = true ∧ Sg.isSign s = true)) : Nm.residR s l = none := if_neg h
theorem residR_yes {s : Int} {l : List (Int × Int)} (h : Lv.levelOk l = true ∧ Sg.isSign s = true) : Nm.residR s l = some (Nm.rnorm (Nm.wl s l)) := if_pos h
theorem ok_lenO {l : List (Int × Int)} (h : Lv.levelOk l = true) : 1 ≤ l.length ∧ l.length ≤ 24 := by
  simp only [Lv.levelOk, Bool.and_eq_true, decide_eq_true_eq] at h
  exact h.1
theorem wlen_run {s : Int} {l : List (Int × Int)} {st : List (List (Int × Int))} (h : Nm.wrun s l [] = some st) : st.length ≤ l.length := by
  have h1 := Nm.wrun_height (s := s) (l := l) []
  rw [h] at h1
  have key : ∀ (l : List (Int × Int)) (n m : Int), Lv.hts l n = some m → m ≤ n + l.length := by
    intro l
    induction l with
    | nil => intro n m h; simp only [Lv.hts] at h; injection h with h; subst h; simp
    | cons t r ih =>
      intro n m h
      simp only [Lv.hts] at h
      split at h
      · have := ih _ _ h
        have := Lv.takes_bd t.1
        rw [List.length_cons]
        omega
      · cases h
  have := key l 0 st.length (by simpa using h1.symm)
  omega

set_option maxRecDepth 100000 in
set_option maxHeartbeats 6400000 in
theorem specResidual_any (w : World) (B : Nat) (A : Option Addr) (n c : Nat) (l : List (Int × Int)) (s : Int) (hB : B ≤ w.heap.size) (hl : TokR w B A n l) (hn : (n : Int) ≤ 140737488355328) :
    Calls Tryd.prog 19 #[.slice A n c, .int .i64 s] w (ResO w (Nm.residR s l)) := by
  obtain ⟨i0, hi, hz0, hz1, hz2⟩ := info_parts info_atom
  obtain ⟨j0, ji, jz0, jz1, jz2⟩ := info_parts info_atoms
  cases h1 : Lv.levelOk l with
  | false =>
    have HF : Hid (Nm.residR s l = none) := residR_no (fun h => by rw [h1] at h; cases h.1)
    have HO := Lib.hid h1
    clear h1
    go_enter Tryd.func19, Tryd.ntmps19
    go_wp2_with fail
    refine (specOk_any w B A n c l hB hl hn).mono ?_
    rintro e w1 ⟨rfl, hb1⟩
    rw [HO.out]
    go_wp2
    go_ret2
    rw [HF.out]
    exact resO_none hb1
  | true =>
  cases hs : Sg.isSign s with
  | false =>
    have HF : Hid (Nm.residR s l = none) := residR_no (fun h => by rw [hs] at h; cases h.2)
    have HO := Lib.hid h1
    clear h1
    go_enter Tryd.func19, Tryd.ntmps19
    go_wp2_with fail
    refine (specOk_any w B A n c l hB hl hn).mono ?_
    rintro e w1 ⟨rfl, hb1⟩
    rw [HO.out]
    go_wp2_with fail
    refine (l03Sign_any w1 s).mono ?_
    rintro e w' ⟨rfl, rfl⟩
    rw [hs]
    go_wp2
    go_ret2
    rw [HF.out]
    exact resO_none hb1
  | true =>
    have HO := Lib.hid h1
    have HF : Hid (Nm.residR s l = some (Nm.rnorm (Nm.wl s l))) := residR_yes ⟨h1, hs⟩
    have hn24 : n ≤ 24 := by rw [← hl.1]; exact (ok_lenO h1).2
    have hn1 : 1 ≤ n := by rw [← hl.1]; exact (ok_lenO h1).1
    clear h1
    go_enter Tryd.func19, Tryd.ntmps19
    go_wp2_with fail
    refine (specOk_any w B A n c l hB hl hn).mono ?_
    rintro e w1 ⟨rfl, hb1⟩
    rw [HO.out]
    go_wp2_with fail
    refine (l03Sign_any w1 s).mono ?_
    rintro e w' ⟨rfl, rfl⟩
    rw [hs]
    have HP0 : Hid (PileO (w'.alloc (.cells #[] 34)) w.heap.size w'.heap.size 0 0 []) := ⟨rfl, [], World.ownsRow_made w' #[] 0 hb1.size (by simp [maxLen]) (by simp), fun i a ha => by simp at ha⟩
    have HB1 := Lib.hid (hb1.alloc hb1.size (.cells #[] 34))
    clear hb1 hs
    go_wp2
    go_loopw [6, 7] (fun v i wr => ∃ (k : Nat) (st : List (List (Int × Int))) (g D c4 : Nat), k ≤ n ∧ i = .int .i64 k ∧ Hid (Nm.wrun s (l.take k) [] = some st) ∧ v = .slice (some ⟨g, 0, none⟩) D c4 ∧ Hid (PileO wr w.heap.size g D c4 (st.map Nm.rnorm)) ∧ Below w.heap.size w wr) (fun _ i _ => n - (intOf i).toNat)
    case atStart => exact ⟨0, [], w'.heap.size, 0, 0, Nat.zero_le _, rfl, Lib.hid rfl, rfl, HP0, HB1.out⟩
    case round =>
      obtain ⟨k, st, g, D, c4, hk, rfl, HR, rfl, HP, hbel⟩ := hrel
      have hszr := hbel.size
      have hDl : st.length = D := by have := HP.out.1; rw [List.length_map] at this; exact this
      have hdl := wlen_run HR.out
      rw [List.length_take] at hdl
      have hD24 : D ≤ 24 := by omega
      have hfine := Nm.wfine_take HR.out (by omega)
      by_cases hlt : k < n
      · obtain ⟨b, off, rfl, hb, hc⟩ := hl.2 (by omega)
        obtain ⟨x1, x2⟩ := hc k hlt
        have hkl : k < l.length := by rw [hl.1]; exact hlt
        obtain ⟨t, ht⟩ : ∃ t, l.getD k (0, 0) = t := ⟨_, rfl⟩
        have k1 := (hbel.cell (p := ⟨b, off + k * 2, none⟩) (by show b < _; omega)).trans x1
        have k2 := (hbel.cell (p := ⟨b, off + k * 2 + 1, none⟩) (by show b < _; omega)).trans x2
        rw [ht] at k1 k2
        have hki : (k : Int) < (n : Int) := by omega
        obtain ⟨st', hst'⟩ := Nm.wrun_some (s := s) HO.out (k + 1)
        have HR' := Lib.hid hst'
        have hps : Nm.wstep s (l.getD k (0, 0)) st = some st' := by
          have h := Nm.wrun_take_succ s l k hkl []
          rw [hst', HR.out] at h
          exact h.symm
        rw [ht] at hps
        have htk := Nm.wstep_ok hps
        obtain ⟨op, y⟩ := t
        have HL := Lib.hid hl
        have HBL := Lib.hid hbel
        clear x1 x2 hc ht hst' hl hdl hkl hbel
        rcases Lv.tk_cases htk with e | e | e | e | e
        · obtain rfl : op = 0 := e
          obtain rfl := Nm.wstep_zero hps
          obtain ⟨hD, vals, h2, h3⟩ := (HP.out.alloc (.cells #[.int .i64 (-1), .int .i64 0] 68)).alloc (.cells #[.slice (some ⟨wr.heap.size, 0, none⟩) 1 1] 34)
          have hel : OwnA ((wr.alloc (.cells #[.int .i64 (-1), .int .i64 0] 68)).alloc (.cells #[.slice (some ⟨wr.heap.size, 0, none⟩) 1 1] 34)) w.heap.size (some ⟨wr.heap.size, 0, none⟩) 1 1 [(-1, 0)] := own_litO ((Blk.made wr _ _).alloc _) hszr
          have hba := (HBL.out.alloc hszr (.cells #[.int .i64 (-1), .int .i64 0] 68)).alloc (by simp; omega) (.cells #[.slice (some ⟨wr.heap.size, 0, none⟩) 1 1] 34)
          have HN1 := Lib.hid (rnorm_one (p := -1) (by omega) (by omega))
          clear hps htk hfine
          go_wp2_with (at_builtin; refine wpList_append_own _ rfl (.tmp 82) (.tmp 85) 64 rfl w.heap.size 34 j0 (.slice none 0 0) 1 24 Tryd.underlying64 ji jz0 jz1 jz2 rfl (by decide) (.slice (some ⟨g, 0, none⟩) D c4) D vals rfl h2 ⟨wr.heap.size + 1, 0, none⟩ 1 1 [.slice (some ⟨wr.heap.size, 0, none⟩) 1 1] rfl rfl (news_one _ _ _ _) (fun u hu => by simp at hu; subst hu; rfl) (by unfold maxLen; omega) (by omega) (by simp; omega) ?_
                       intro v' w3 hown' hgrow hnil
                       obtain ⟨g', c', rfl, hp3⟩ := PileO.push (a := [(-1, 0)]) hD h2 h3 (OwnO.of hel) hgrow hown'
                       have HP3 := Lib.hid hp3
                       have HB3 : Hid (Below w.heap.size w w3) := hba.grown hgrow (by simp; omega) (fun k h => (h2.lt k h).1)
                       clear hown' hgrow hnil hp3 h2 h3 hel hba)
          go_wp2
          go_roundw
          case rel => exact ⟨k + 1, [(-1, 0)] :: st, g', D + 1, c', by omega, by go_num, HR', rfl, Lib.hid (by rw [List.map_cons, HN1.out]; exact HP3.out), HB3.out⟩
          case measure => simp [intOf]; omega
        · obtain rfl : op = 1 := e
          obtain ⟨a, r, rfl, rfl⟩ := Nm.wstep_succ hps
          obtain ⟨d, rfl⟩ : ∃ d, D = d + 1 := ⟨r.length, by rw [← hDl]; rfl⟩
          have hsd : r.length = d := by simpa using hDl
          have hfa := hfine a (by simp)
          have hoka := hfine.allOk (by omega) (a := a) (by simp)
          have hokr := Nm.rnorm_allOk hoka
          have hoku : Nm.AllOk (Nm.up 1 (Nm.rnorm a)) := hokr.up (fun x hx => by have := hfa.2.2 x (Nm.rnorm_sub hx); omega)
          have HRU : Hid (Nm.resid s (Nm.up 1 (Nm.rnorm a)) = Nm.rnorm (Nm.up 1 a)) := by
            unfold Hid Nm.resid
            rw [Nm.pl_self ((hfa.2.1.rnorm).up 1), Nm.rnorm_up hoka hokr]
          have HSM := Lib.hid (small_of hokr)
          have HOKU := Lib.hid hoku
          have hl6 := Nm.rnorm_len a
          have hl1 : 1 ≤ (Nm.rnorm a).length := List.length_pos_iff.2 (Nm.rnorm_ne hfa.1 hoka)
          obtain ⟨Aa, ca, q1, q2⟩ := HP.out.at (i := d) (a := Nm.rnorm a) (by rw [List.map_cons, List.reverse_cons, List.getElem?_append_right (by simp [hsd]), List.length_reverse, List.length_map, hsd, Nat.sub_self]; rfl)
          obtain ⟨La, hLa⟩ : ∃ La, (Nm.rnorm a).length = La := ⟨_, rfl⟩
          rw [hLa] at q1 q2 hl6 hl1
          have hlu6 := Nm.rnorm_len (Nm.up 1 a)
          obtain ⟨Lu, hLu⟩ : ∃ Lu, (Nm.rnorm (Nm.up 1 a)).length = Lu := ⟨_, rfl⟩
          have HLU := Lib.hid hLu
          have HQ2 := Lib.hid q2
          clear hps htk hfine hfa hoka q2 hLa hokr hoku hLu
          go_wp2_with fail
          refine (specUp_any wr wr.heap.size _ La ca (Nm.rnorm a) 1 (Nat.le_refl _) (at_reads HQ2.out) (by omega) HSM.out (by omega) (by omega)).mono ?_
          rintro e w2 ⟨gu, cu, rfl, hou, hb2⟩
          have hs2 := hb2.size
          have HLUP := Lib.hid (l03Resid_any w2 w2.heap.size (some ⟨gu, 0, none⟩) La cu (Nm.up 1 (Nm.rnorm a)) s (Nat.le_refl _) (OwnA.reads hou) (by omega) (by omega) HOKU.out)
          have HB2 := Lib.hid hb2
          clear hou hb2
          go_wp2_with fail
          refine HLUP.out.mono ?_
          rintro e w3 ⟨Au, cv, rfl, hov, hb3⟩
          rw [HRU.out, HLU.out] at hov
          rw [HRU.out, HLU.out]
          have hb23 := HB2.out.trans (hb3.mono hs2)
          have hp3 := HP.out.below hb23
          have hgd := (hp3.2).elim (fun vals h => (h.1.lt g rfl))
          have HPT := Lib.hid (PileO.top hp3 (a' := Nm.rnorm (Nm.up 1 a)) (A := Au) (ca := cv) (by rw [HLU.out]; exact at_base hov (Nat.le_trans hszr hs2)))
          have hb03 := HBL.out.trans (hb23.mono hszr)
          have HB3 := Lib.hid (hb03.setCell (p := ⟨g, d, none⟩) hgd.1 (.slice Au Lu cv))
          have k3 := (hb23.cell (p := ⟨g, d, none⟩) (World.block_lt_of_cell? wr _ q1)).trans q1
          have f3 : w3.frozen? ⟨g, d, none⟩ = false := by
            obtain ⟨_, vals, h, _⟩ := hp3
            obtain ⟨cs, hblk⟩ := own_blk h g rfl
            exact hblk.thawed d
          rw [HLU.out] at HPT
          clear hb3 hov hp3 hgd hb03 q1 HB2 hb23 HLUP
          go_wp2
          go_roundw
          case rel => exact ⟨k + 1, Nm.up 1 a :: r, g, d + 1, c4, by omega, by go_num, HR', rfl, HPT, HB3.out⟩
          case measure => simp [intOf]; omega
        · obtain rfl : op = 2 := e
          obtain ⟨a, b2, r, rfl, rfl⟩ := Nm.wstep_two hps (by omega)
          obtain ⟨d, rfl⟩ : ∃ d, D = d + 2 := ⟨r.length, by rw [← hDl]; rfl⟩
          have hsd : r.length = d := by simpa using hDl
          have hfa := hfine a (by simp)
          have hfb := hfine b2 (by simp)
          have hoka := hfine.allOk (by omega) (a := a) (by simp)
          have hokb := hfine.allOk (by omega) (a := b2) (by simp)
          have hokab : Nm.AllOk (Nm.rnorm a ++ Nm.rnorm b2) := (Nm.rnorm_allOk hoka).append (Nm.rnorm_allOk hokb)
          have HJ : Hid (Nm.resid s (Nm.rnorm a ++ Nm.rnorm b2) = Nm.rnorm (a ++ b2)) := by
            unfold Hid Nm.resid
            rw [Nm.pl_self ((hfa.2.1.rnorm).append (hfb.2.1.rnorm)), Nm.rnorm_join hoka hokb]
          have HOKAB := Lib.hid hokab
          have HZ := Lib.hid (Nm.rnorm_zero hfb.1 hokb)
          have ha1 : 1 ≤ (Nm.rnorm a).length := List.length_pos_iff.2 (Nm.rnorm_ne hfa.1 hoka)
          have hb1' : 1 ≤ (Nm.rnorm b2).length := List.length_pos_iff.2 (Nm.rnorm_ne hfb.1 hokb)
          have ha6 := Nm.rnorm_len a
          have hb6 := Nm.rnorm_len b2
          have hm6 := Nm.rnorm_len (a ++ b2)
          obtain ⟨Aa, ca, qa1, qa2⟩ := HP.out.at (i := d) (a := Nm.rnorm a) (by rw [List.map_cons, List.map_cons, List.reverse_cons, List.reverse_cons, List.append_assoc, List.getElem?_append_right (by simp [hsd]), List.length_reverse, List.length_map, hsd, Nat.sub_self]; rfl)
          obtain ⟨Ab, cb, qb1, qb2⟩ := HP.out.at (i := d + 1) (a := Nm.rnorm b2) (by rw [List.map_cons, List.map_cons, List.reverse_cons, List.getElem?_append_right (by simp [hsd]), List.length_reverse, List.length_cons, List.length_map, hsd, Nat.sub_self]; rfl)
          obtain ⟨La, hLa⟩ : ∃ La, (Nm.rnorm a).length = La := ⟨_, rfl⟩
          obtain ⟨Lb, hLb⟩ : ∃ Lb, (Nm.rnorm b2).length = Lb := ⟨_, rfl⟩
          obtain ⟨Lm, hLm⟩ : ∃ Lm, (Nm.rnorm (a ++ b2)).length = Lm := ⟨_, rfl⟩
          rw [hLa] at qa1 qa2 ha6 ha1
          rw [hLb] at qb1 qb2 hb6 hb1'
          rw [hLm] at hm6
          have HLM := Lib.hid hLm
          have HLB := Lib.hid hLb
          have HOA := Lib.hid qa2
          have HOB := Lib.hid qb2
          obtain ⟨gb, ob, eb, hbb, hcb⟩ := (at_reads qb2).2 (by omega)
          subst eb
          obtain ⟨z1, z2⟩ := hcb 0 (by omega)
          rw [Nat.zero_mul, Nat.add_zero] at z1 z2
          obtain ⟨u, hu⟩ : ∃ u, (Nm.rnorm b2).getD 0 (0, 0) = u := ⟨_, rfl⟩
          rw [hu] at z1 z2
          obtain ⟨zp, zx⟩ := u
          simp only at z1 z2
          have HUU := Lib.hid hu
          have hcap := HP.out.cap
          have hw2 : IntKind.i64.wrap ((d : Int) + 2 - 2) = (d : Int) := by rw [IntKind.wrap_i64]; omega
          have hw1 : IntKind.i64.wrap ((d : Int) + 2 - 1) = (d : Int) + 1 := by rw [IntKind.wrap_i64]; omega
          have n1 : (0 : Int) ≤ (d : Int) := by omega
          have n3 : (0 : Int) ≤ (d : Int) + 1 := by omega
          have n4 : (d : Int) < (d : Int) + 2 := by omega
          have n5 : (d : Int) + 1 < (d : Int) + 2 := by omega
          have n6 : ((d : Int) + 1).toNat = d + 1 := by omega
          clear hps htk hfine hfa hfb hoka hokb qa2 qb2 hLa hLb hLm hDl hokab hcb hu
          have hne3 : ¬ ((2 : Int) = 3 ∧ Nm.zeroL b2 = true) := fun h => by omega
          have HNE := Lib.hid hne3
          clear hne3
          by_cases hL1 : Lb = 1
          · subst hL1
            by_cases hq1 : zp = -1
            · subst hq1
              by_cases hq2 : zx = 0
              · subst hq2
                obtain ⟨qa, rfl, hqa⟩ := (at_reads HOA.out).tokA (by omega)
                have hcla : (tokCells (Nm.rnorm a)).length = La * 2 := HOA.out.1
                have hclb : (tokCells (Nm.rnorm b2)).length = 1 * 2 := HOB.out.1
                have ho0 : OwnA (wr.alloc (.cells #[] 68)) wr.heap.size (some ⟨wr.heap.size, 0, none⟩) 0 0 [] := World.ownsRow_made wr #[] 0 (Nat.le_refl _) (by simp [maxLen]) (by simp)
                have hb0 : Below wr.heap.size wr (wr.alloc (.cells #[] 68)).drew := ((Below.refl _ _).alloc (Nat.le_refl _) _).drew
                go_wp2_with fail
                go_region
                go_wp2_with (at_builtin; first
                  | (refine wpList_append_own _ rfl (.tmp 66) (.tmp 67) 34 rfl wr.heap.size 68 i0 (.agg #[.int .i64 0, .int .i64 0]) 2 16 Tryd.underlying34 hi hz0 hz1 hz2 rfl (by decide) (.slice (some ⟨wr.heap.size, 0, none⟩) 0 0) 0 (tokCells []) rfl ho0 qa La ca (tokCells (Nm.rnorm a)) rfl hcla (fun j u hu => ((at_reads (at_below' HOA.out hb0)).tokA (by omega)).elim fun q h => by obtain ⟨e, h⟩ := h; injection e with e; subst e; exact h.2 j u hu) (tokCells_one _) (by unfold maxLen; omega) (by omega) (by simp) ?_
                     intro v1 w1' hown1 hgrow1 hnil1
                     rw [tokCells_nil, List.nil_append, Nat.zero_add] at hown1
                     obtain ⟨g1, d1, rfl⟩ := own_form hown1 (by omega)
                     have hB1 : Below wr.heap.size wr w1' := hb0.grown hgrow1 (by simp) (fun k h => by have h' : wr.heap.size = k := (by simpa [Value.ownBlock] using h); omega)
                     have hsz1 := hB1.size)
                  | (refine wpList_append_own _ rfl (.tmp 68) (.tmp 69) 34 rfl wr.heap.size 68 i0 (.agg #[.int .i64 0, .int .i64 0]) 2 16 Tryd.underlying34 hi hz0 hz1 hz2 rfl (by decide) (.slice (some ⟨g1, 0, none⟩) La d1) La (tokCells (Nm.rnorm a)) rfl hown1 ⟨gb, ob, none⟩ 1 cb (tokCells (Nm.rnorm b2)) rfl hclb (fun j u hu => ((at_reads (at_below' HOB.out hB1)).tokA (by omega)).elim fun q h => by obtain ⟨e, h⟩ := h; injection e with e; subst e; exact h.2 j u hu) (tokCells_one _) (by unfold maxLen; omega) (by omega) (by omega) ?_
                     intro v2 w2' hown2 hgrow2 hnil2
                     obtain ⟨g2, d2, rfl⟩ := own_form hown2 (by omega)
                     have hB2 : Below wr.heap.size wr w2' := hB1.grown hgrow2 hsz1 (fun k h => (hown1.lt k h).1)
                     have ho2 : OwnA w2' wr.heap.size (some ⟨g2, 0, none⟩) (La + 1) d2 (Nm.rnorm a ++ Nm.rnorm b2) := by
                       unfold OwnA
                       rw [tokCells_append]
                       exact hown2
                     have hsz2 := hB2.size
                     have HLR := Lib.hid (l03Resid_any w2' w2'.heap.size (some ⟨g2, 0, none⟩) (La + 1) d2 (Nm.rnorm a ++ Nm.rnorm b2) s (Nat.le_refl _) (OwnA.reads ho2) (by omega) (by omega) HOKAB.out)
                     have HB2 := Lib.hid hB2
                     clear hown1 hgrow1 hnil1 hB1 hown2 hgrow2 hnil2 hB2 ho2 ho0 hb0))
                refine HLR.out.mono ?_
                rintro e wq ⟨Am, cm, rfl, hom, hbq⟩
                rw [HJ.out, HLM.out] at hom
                rw [HJ.out, HLM.out]
                have HBQ := Lib.hid (HB2.out.trans (hbq.mono hsz2))
                have hsq : wr.heap.size ≤ wq.heap.size := HBQ.out.size
                have HOM := Lib.hid (at_base hom (Nat.le_trans hszr hsz2))
                clear hom hbq HLR HB2
                have hpd := ((HP.out.below HBQ.out).alloc (.cells #[.slice Am Lm cm] 34)).drop 2 (by omega)
                obtain ⟨hD4, vals4, h24, h34⟩ := hpd
                have hba := (HBL.out.trans (HBQ.out.mono hszr)).alloc (Nat.le_trans hszr hsq) (.cells #[.slice Am Lm cm] 34)
                simp only [Nat.add_sub_cancel] at h24 hD4 h34
                clear HBQ
                go_wp2_with (at_builtin; refine wpList_append_own _ rfl (.tmp 76) (.tmp 78) 64 rfl w.heap.size 34 j0 (.slice none 0 0) 1 24 Tryd.underlying64 ji jz0 jz1 jz2 rfl (by decide) (.slice (some ⟨g, 0, none⟩) d c4) d vals4 rfl h24 ⟨wq.heap.size, 0, none⟩ 1 1 [.slice Am Lm cm] rfl rfl (cell_one_new _ _ _) (fun u hu => by simp at hu; subst hu; rfl) (by unfold maxLen; omega) (by omega) (by simp; omega) ?_
                             intro v' w3 hown' hgrow hnil
                             obtain ⟨g', c', rfl, hp3⟩ := PileO.push (a := Nm.rnorm (a ++ b2)) (A := Am) (ca := cm) hD4 h24 h34 (by rw [HLM.out]; exact at_below' HOM.out ((Below.refl _ _).alloc (Nat.le_refl _) _)) hgrow (by rw [HLM.out]; exact hown')
                             have HP3 := Lib.hid hp3
                             have HB3 : Hid (Below w.heap.size w w3) := hba.grown hgrow (by simp; omega) (fun k h => (h24.lt k h).1)
                             clear hown' hgrow hnil hp3 h24 h34 hba)
                go_wp2
                go_roundw
                case rel => exact ⟨k + 1, _, g', d + 1, c', by omega, by go_num, HR', rfl, Lib.hid (by rw [List.map_cons, if_neg HNE.out]; simpa using HP3.out), HB3.out⟩
                case measure => simp [intOf]; omega
              · have dz : (zx == 0) = false := by simpa using hq2
                obtain ⟨qa, rfl, hqa⟩ := (at_reads HOA.out).tokA (by omega)
                have hcla : (tokCells (Nm.rnorm a)).length = La * 2 := HOA.out.1
                have hclb : (tokCells (Nm.rnorm b2)).length = 1 * 2 := HOB.out.1
                have ho0 : OwnA (wr.alloc (.cells #[] 68)) wr.heap.size (some ⟨wr.heap.size, 0, none⟩) 0 0 [] := World.ownsRow_made wr #[] 0 (Nat.le_refl _) (by simp [maxLen]) (by simp)
                have hb0 : Below wr.heap.size wr (wr.alloc (.cells #[] 68)).drew := ((Below.refl _ _).alloc (Nat.le_refl _) _).drew
                go_wp2_with fail
                go_region
                go_wp2_with (at_builtin; first
                  | (refine wpList_append_own _ rfl (.tmp 66) (.tmp 67) 34 rfl wr.heap.size 68 i0 (.agg #[.int .i64 0, .int .i64 0]) 2 16 Tryd.underlying34 hi hz0 hz1 hz2 rfl (by decide) (.slice (some ⟨wr.heap.size, 0, none⟩) 0 0) 0 (tokCells []) rfl ho0 qa La ca (tokCells (Nm.rnorm a)) rfl hcla (fun j u hu => ((at_reads (at_below' HOA.out hb0)).tokA (by omega)).elim fun q h => by obtain ⟨e, h⟩ := h; injection e with e; subst e; exact h.2 j u hu) (tokCells_one _) (by unfold maxLen; omega) (by omega) (by simp) ?_
                     intro v1 w1' hown1 hgrow1 hnil1
                     rw [tokCells_nil, List.nil_append, Nat.zero_add] at hown1
                     obtain ⟨g1, d1, rfl⟩ := own_form hown1 (by omega)
                     have hB1 : Below wr.heap.size wr w1' := hb0.grown hgrow1 (by simp) (fun k h => by have h' : wr.heap.size = k := (by simpa [Value.ownBlock] using h); omega)
                     have hsz1 := hB1.size)
                  | (refine wpList_append_own _ rfl (.tmp 68) (.tmp 69) 34 rfl wr.heap.size 68 i0 (.agg #[.int .i64 0, .int .i64 0]) 2 16 Tryd.underlying34 hi hz0 hz1 hz2 rfl (by decide) (.slice (some ⟨g1, 0, none⟩) La d1) La (tokCells (Nm.rnorm a)) rfl hown1 ⟨gb, ob, none⟩ 1 cb (tokCells (Nm.rnorm b2)) rfl hclb (fun j u hu => ((at_reads (at_below' HOB.out hB1)).tokA (by omega)).elim fun q h => by obtain ⟨e, h⟩ := h; injection e with e; subst e; exact h.2 j u hu) (tokCells_one _) (by unfold maxLen; omega) (by omega) (by omega) ?_
                     intro v2 w2' hown2 hgrow2 hnil2
                     obtain ⟨g2, d2, rfl⟩ := own_form hown2 (by omega)
                     have hB2 : Below wr.heap.size wr w2' := hB1.grown hgrow2 hsz1 (fun k h => (hown1.lt k h).1)
                     have ho2 : OwnA w2' wr.heap.size (some ⟨g2, 0, none⟩) (La + 1) d2 (Nm.rnorm a ++ Nm.rnorm b2) := by
                       unfold OwnA
                       rw [tokCells_append]
                       exact hown2
                     have hsz2 := hB2.size
                     have HLR := Lib.hid (l03Resid_any w2' w2'.heap.size (some ⟨g2, 0, none⟩) (La + 1) d2 (Nm.rnorm a ++ Nm.rnorm b2) s (Nat.le_refl _) (OwnA.reads ho2) (by omega) (by omega) HOKAB.out)
                     have HB2 := Lib.hid hB2
                     clear hown1 hgrow1 hnil1 hB1 hown2 hgrow2 hnil2 hB2 ho2 ho0 hb0))
                refine HLR.out.mono ?_
                rintro e wq ⟨Am, cm, rfl, hom, hbq⟩
                rw [HJ.out, HLM.out] at hom
                rw [HJ.out, HLM.out]
                have HBQ := Lib.hid (HB2.out.trans (hbq.mono hsz2))
                have hsq : wr.heap.size ≤ wq.heap.size := HBQ.out.size
                have HOM := Lib.hid (at_base hom (Nat.le_trans hszr hsz2))
                clear hom hbq HLR HB2
                have hpd := ((HP.out.below HBQ.out).alloc (.cells #[.slice Am Lm cm] 34)).drop 2 (by omega)
                obtain ⟨hD4, vals4, h24, h34⟩ := hpd
                have hba := (HBL.out.trans (HBQ.out.mono hszr)).alloc (Nat.le_trans hszr hsq) (.cells #[.slice Am Lm cm] 34)
                simp only [Nat.add_sub_cancel] at h24 hD4 h34
                clear HBQ
                go_wp2_with (at_builtin; refine wpList_append_own _ rfl (.tmp 76) (.tmp 78) 64 rfl w.heap.size 34 j0 (.slice none 0 0) 1 24 Tryd.underlying64 ji jz0 jz1 jz2 rfl (by decide) (.slice (some ⟨g, 0, none⟩) d c4) d vals4 rfl h24 ⟨wq.heap.size, 0, none⟩ 1 1 [.slice Am Lm cm] rfl rfl (cell_one_new _ _ _) (fun u hu => by simp at hu; subst hu; rfl) (by unfold maxLen; omega) (by omega) (by simp; omega) ?_
                             intro v' w3 hown' hgrow hnil
                             obtain ⟨g', c', rfl, hp3⟩ := PileO.push (a := Nm.rnorm (a ++ b2)) (A := Am) (ca := cm) hD4 h24 h34 (by rw [HLM.out]; exact at_below' HOM.out ((Below.refl _ _).alloc (Nat.le_refl _) _)) hgrow (by rw [HLM.out]; exact hown')
                             have HP3 := Lib.hid hp3
                             have HB3 : Hid (Below w.heap.size w w3) := hba.grown hgrow (by simp; omega) (fun k h => (h24.lt k h).1)
                             clear hown' hgrow hnil hp3 h24 h34 hba)
                go_wp2
                go_roundw
                case rel => exact ⟨k + 1, _, g', d + 1, c', by omega, by go_num, HR', rfl, Lib.hid (by rw [List.map_cons, if_neg HNE.out]; simpa using HP3.out), HB3.out⟩
                case measure => simp [intOf]; omega
            · have dz : (zp == -1) = false := by simpa using hq1
              obtain ⟨qa, rfl, hqa⟩ := (at_reads HOA.out).tokA (by omega)
              have hcla : (tokCells (Nm.rnorm a)).length = La * 2 := HOA.out.1
              have hclb : (tokCells (Nm.rnorm b2)).length = 1 * 2 := HOB.out.1
              have ho0 : OwnA (wr.alloc (.cells #[] 68)) wr.heap.size (some ⟨wr.heap.size, 0, none⟩) 0 0 [] := World.ownsRow_made wr #[] 0 (Nat.le_refl _) (by simp [maxLen]) (by simp)
              have hb0 : Below wr.heap.size wr (wr.alloc (.cells #[] 68)).drew := ((Below.refl _ _).alloc (Nat.le_refl _) _).drew
              go_wp2_with fail
              go_region
              go_wp2_with (at_builtin; first
                | (refine wpList_append_own _ rfl (.tmp 66) (.tmp 67) 34 rfl wr.heap.size 68 i0 (.agg #[.int .i64 0, .int .i64 0]) 2 16 Tryd.underlying34 hi hz0 hz1 hz2 rfl (by decide) (.slice (some ⟨wr.heap.size, 0, none⟩) 0 0) 0 (tokCells []) rfl ho0 qa La ca (tokCells (Nm.rnorm a)) rfl hcla (fun j u hu => ((at_reads (at_below' HOA.out hb0)).tokA (by omega)).elim fun q h => by obtain ⟨e, h⟩ := h; injection e with e; subst e; exact h.2 j u hu) (tokCells_one _) (by unfold maxLen; omega) (by omega) (by simp) ?_
                   intro v1 w1' hown1 hgrow1 hnil1
                   rw [tokCells_nil, List.nil_append, Nat.zero_add] at hown1
                   obtain ⟨g1, d1, rfl⟩ := own_form hown1 (by omega)
                   have hB1 : Below wr.heap.size wr w1' := hb0.grown hgrow1 (by simp) (fun k h => by have h' : wr.heap.size = k := (by simpa [Value.ownBlock] using h); omega)
                   have hsz1 := hB1.size)
                | (refine wpList_append_own _ rfl (.tmp 68) (.tmp 69) 34 rfl wr.heap.size 68 i0 (.agg #[.int .i64 0, .int .i64 0]) 2 16 Tryd.underlying34 hi hz0 hz1 hz2 rfl (by decide) (.slice (some ⟨g1, 0, none⟩) La d1) La (tokCells (Nm.rnorm a)) rfl hown1 ⟨gb, ob, none⟩ 1 cb (tokCells (Nm.rnorm b2)) rfl hclb (fun j u hu => ((at_reads (at_below' HOB.out hB1)).tokA (by omega)).elim fun q h => by obtain ⟨e, h⟩ := h; injection e with e; subst e; exact h.2 j u hu) (tokCells_one _) (by unfold maxLen; omega) (by omega) (by omega) ?_
                   intro v2 w2' hown2 hgrow2 hnil2
                   obtain ⟨g2, d2, rfl⟩ := own_form hown2 (by omega)
                   have hB2 : Below wr.heap.size wr w2' := hB1.grown hgrow2 hsz1 (fun k h => (hown1.lt k h).1)
                   have ho2 : OwnA w2' wr.heap.size (some ⟨g2, 0, none⟩) (La + 1) d2 (Nm.rnorm a ++ Nm.rnorm b2) := by
                     unfold OwnA
                     rw [tokCells_append]
                     exact hown2
                   have hsz2 := hB2.size
                   have HLR := Lib.hid (l03Resid_any w2' w2'.heap.size (some ⟨g2, 0, none⟩) (La + 1) d2 (Nm.rnorm a ++ Nm.rnorm b2) s (Nat.le_refl _) (OwnA.reads ho2) (by omega) (by omega) HOKAB.out)
                   have HB2 := Lib.hid hB2
                   clear hown1 hgrow1 hnil1 hB1 hown2 hgrow2 hnil2 hB2 ho2 ho0 hb0))
              refine HLR.out.mono ?_
              rintro e wq ⟨Am, cm, rfl, hom, hbq⟩
              rw [HJ.out, HLM.out] at hom
              rw [HJ.out, HLM.out]
              have HBQ := Lib.hid (HB2.out.trans (hbq.mono hsz2))
              have hsq : wr.heap.size ≤ wq.heap.size := HBQ.out.size
              have HOM := Lib.hid (at_base hom (Nat.le_trans hszr hsz2))
              clear hom hbq HLR HB2
              have hpd := ((HP.out.below HBQ.out).alloc (.cells #[.slice Am Lm cm] 34)).drop 2 (by omega)
              obtain ⟨hD4, vals4, h24, h34⟩ := hpd
              have hba := (HBL.out.trans (HBQ.out.mono hszr)).alloc (Nat.le_trans hszr hsq) (.cells #[.slice Am Lm cm] 34)
              simp only [Nat.add_sub_cancel] at h24 hD4 h34
              clear HBQ
              go_wp2_with (at_builtin; refine wpList_append_own _ rfl (.tmp 76) (.tmp 78) 64 rfl w.heap.size 34 j0 (.slice none 0 0) 1 24 Tryd.underlying64 ji jz0 jz1 jz2 rfl (by decide) (.slice (some ⟨g, 0, none⟩) d c4) d vals4 rfl h24 ⟨wq.heap.size, 0, none⟩ 1 1 [.slice Am Lm cm] rfl rfl (cell_one_new _ _ _) (fun u hu => by simp at hu; subst hu; rfl) (by unfold maxLen; omega) (by omega) (by simp; omega) ?_
                           intro v' w3 hown' hgrow hnil
                           obtain ⟨g', c', rfl, hp3⟩ := PileO.push (a := Nm.rnorm (a ++ b2)) (A := Am) (ca := cm) hD4 h24 h34 (by rw [HLM.out]; exact at_below' HOM.out ((Below.refl _ _).alloc (Nat.le_refl _) _)) hgrow (by rw [HLM.out]; exact hown')
                           have HP3 := Lib.hid hp3
                           have HB3 : Hid (Below w.heap.size w w3) := hba.grown hgrow (by simp; omega) (fun k h => (h24.lt k h).1)
                           clear hown' hgrow hnil hp3 h24 h34 hba)
              go_wp2
              go_roundw
              case rel => exact ⟨k + 1, _, g', d + 1, c', by omega, by go_num, HR', rfl, Lib.hid (by rw [List.map_cons, if_neg HNE.out]; simpa using HP3.out), HB3.out⟩
              case measure => simp [intOf]; omega
          · have dL : ((Lb : Int) == 1) = false := by simp; omega
            obtain ⟨qa, rfl, hqa⟩ := (at_reads HOA.out).tokA (by omega)
            have hcla : (tokCells (Nm.rnorm a)).length = La * 2 := HOA.out.1
            have hclb : (tokCells (Nm.rnorm b2)).length = Lb * 2 := HOB.out.1
            have ho0 : OwnA (wr.alloc (.cells #[] 68)) wr.heap.size (some ⟨wr.heap.size, 0, none⟩) 0 0 [] := World.ownsRow_made wr #[] 0 (Nat.le_refl _) (by simp [maxLen]) (by simp)
            have hb0 : Below wr.heap.size wr (wr.alloc (.cells #[] 68)).drew := ((Below.refl _ _).alloc (Nat.le_refl _) _).drew
            go_wp2_with fail
            go_region
            go_wp2_with (at_builtin; first
              | (refine wpList_append_own _ rfl (.tmp 66) (.tmp 67) 34 rfl wr.heap.size 68 i0 (.agg #[.int .i64 0, .int .i64 0]) 2 16 Tryd.underlying34 hi hz0 hz1 hz2 rfl (by decide) (.slice (some ⟨wr.heap.size, 0, none⟩) 0 0) 0 (tokCells []) rfl ho0 qa La ca (tokCells (Nm.rnorm a)) rfl hcla (fun j u hu => ((at_reads (at_below' HOA.out hb0)).tokA (by omega)).elim fun q h => by obtain ⟨e, h⟩ := h; injection e with e; subst e; exact h.2 j u hu) (tokCells_one _) (by unfold maxLen; omega) (by omega) (by simp) ?_
                 intro v1 w1' hown1 hgrow1 hnil1
                 rw [tokCells_nil, List.nil_append, Nat.zero_add] at hown1
                 obtain ⟨g1, d1, rfl⟩ := own_form hown1 (by omega)
                 have hB1 : Below wr.heap.size wr w1' := hb0.grown hgrow1 (by simp) (fun k h => by have h' : wr.heap.size = k := (by simpa [Value.ownBlock] using h); omega)
                 have hsz1 := hB1.size)
              | (refine wpList_append_own _ rfl (.tmp 68) (.tmp 69) 34 rfl wr.heap.size 68 i0 (.agg #[.int .i64 0, .int .i64 0]) 2 16 Tryd.underlying34 hi hz0 hz1 hz2 rfl (by decide) (.slice (some ⟨g1, 0, none⟩) La d1) La (tokCells (Nm.rnorm a)) rfl hown1 ⟨gb, ob, none⟩ Lb cb (tokCells (Nm.rnorm b2)) rfl hclb (fun j u hu => ((at_reads (at_below' HOB.out hB1)).tokA (by omega)).elim fun q h => by obtain ⟨e, h⟩ := h; injection e with e; subst e; exact h.2 j u hu) (tokCells_one _) (by unfold maxLen; omega) (by omega) (by omega) ?_
                 intro v2 w2' hown2 hgrow2 hnil2
                 obtain ⟨g2, d2, rfl⟩ := own_form hown2 (by omega)
                 have hB2 : Below wr.heap.size wr w2' := hB1.grown hgrow2 hsz1 (fun k h => (hown1.lt k h).1)
                 have ho2 : OwnA w2' wr.heap.size (some ⟨g2, 0, none⟩) (La + Lb) d2 (Nm.rnorm a ++ Nm.rnorm b2) := by
                   unfold OwnA
                   rw [tokCells_append]
                   exact hown2
                 have hsz2 := hB2.size
                 have HLR := Lib.hid (l03Resid_any w2' w2'.heap.size (some ⟨g2, 0, none⟩) (La + Lb) d2 (Nm.rnorm a ++ Nm.rnorm b2) s (Nat.le_refl _) (OwnA.reads ho2) (by omega) (by omega) HOKAB.out)
                 have HB2 := Lib.hid hB2
                 clear hown1 hgrow1 hnil1 hB1 hown2 hgrow2 hnil2 hB2 ho2 ho0 hb0))
            refine HLR.out.mono ?_
            rintro e wq ⟨Am, cm, rfl, hom, hbq⟩
            rw [HJ.out, HLM.out] at hom
            rw [HJ.out, HLM.out]
            have HBQ := Lib.hid (HB2.out.trans (hbq.mono hsz2))
            have hsq : wr.heap.size ≤ wq.heap.size := HBQ.out.size
            have HOM := Lib.hid (at_base hom (Nat.le_trans hszr hsz2))
            clear hom hbq HLR HB2
            have hpd := ((HP.out.below HBQ.out).alloc (.cells #[.slice Am Lm cm] 34)).drop 2 (by omega)
            obtain ⟨hD4, vals4, h24, h34⟩ := hpd
            have hba := (HBL.out.trans (HBQ.out.mono hszr)).alloc (Nat.le_trans hszr hsq) (.cells #[.slice Am Lm cm] 34)
            simp only [Nat.add_sub_cancel] at h24 hD4 h34
            clear HBQ
            go_wp2_with (at_builtin; refine wpList_append_own _ rfl (.tmp 76) (.tmp 78) 64 rfl w.heap.size 34 j0 (.slice none 0 0) 1 24 Tryd.underlying64 ji jz0 jz1 jz2 rfl (by decide) (.slice (some ⟨g, 0, none⟩) d c4) d vals4 rfl h24 ⟨wq.heap.size, 0, none⟩ 1 1 [.slice Am Lm cm] rfl rfl (cell_one_new _ _ _) (fun u hu => by simp at hu; subst hu; rfl) (by unfold maxLen; omega) (by omega) (by simp; omega) ?_
                         intro v' w3 hown' hgrow hnil
                         obtain ⟨g', c', rfl, hp3⟩ := PileO.push (a := Nm.rnorm (a ++ b2)) (A := Am) (ca := cm) hD4 h24 h34 (by rw [HLM.out]; exact at_below' HOM.out ((Below.refl _ _).alloc (Nat.le_refl _) _)) hgrow (by rw [HLM.out]; exact hown')
                         have HP3 := Lib.hid hp3
                         have HB3 : Hid (Below w.heap.size w w3) := hba.grown hgrow (by simp; omega) (fun k h => (h24.lt k h).1)
                         clear hown' hgrow hnil hp3 h24 h34 hba)
            go_wp2
            go_roundw
            case rel => exact ⟨k + 1, _, g', d + 1, c', by omega, by go_num, HR', rfl, Lib.hid (by rw [List.map_cons, if_neg HNE.out]; simpa using HP3.out), HB3.out⟩
            case measure => simp [intOf]; omega
        · obtain rfl : op = 3 := e
          obtain ⟨a, b2, r, rfl, rfl⟩ := Nm.wstep_two hps (by omega)
          obtain ⟨d, rfl⟩ : ∃ d, D = d + 2 := ⟨r.length, by rw [← hDl]; rfl⟩
          have hsd : r.length = d := by simpa using hDl
          have hfa := hfine a (by simp)
          have hfb := hfine b2 (by simp)
          have hoka := hfine.allOk (by omega) (a := a) (by simp)
          have hokb := hfine.allOk (by omega) (a := b2) (by simp)
          have hokab : Nm.AllOk (Nm.rnorm a ++ Nm.rnorm b2) := (Nm.rnorm_allOk hoka).append (Nm.rnorm_allOk hokb)
          have HJ : Hid (Nm.resid s (Nm.rnorm a ++ Nm.rnorm b2) = Nm.rnorm (a ++ b2)) := by
            unfold Hid Nm.resid
            rw [Nm.pl_self ((hfa.2.1.rnorm).append (hfb.2.1.rnorm)), Nm.rnorm_join hoka hokb]
          have HOKAB := Lib.hid hokab
          have HZ := Lib.hid (Nm.rnorm_zero hfb.1 hokb)
          have ha1 : 1 ≤ (Nm.rnorm a).length := List.length_pos_iff.2 (Nm.rnorm_ne hfa.1 hoka)
          have hb1' : 1 ≤ (Nm.rnorm b2).length := List.length_pos_iff.2 (Nm.rnorm_ne hfb.1 hokb)
          have ha6 := Nm.rnorm_len a
          have hb6 := Nm.rnorm_len b2
          have hm6 := Nm.rnorm_len (a ++ b2)
          obtain ⟨Aa, ca, qa1, qa2⟩ := HP.out.at (i := d) (a := Nm.rnorm a) (by rw [List.map_cons, List.map_cons, List.reverse_cons, List.reverse_cons, List.append_assoc, List.getElem?_append_right (by simp [hsd]), List.length_reverse, List.length_map, hsd, Nat.sub_self]; rfl)
          obtain ⟨Ab, cb, qb1, qb2⟩ := HP.out.at (i := d + 1) (a := Nm.rnorm b2) (by rw [List.map_cons, List.map_cons, List.reverse_cons, List.getElem?_append_right (by simp [hsd]), List.length_reverse, List.length_cons, List.length_map, hsd, Nat.sub_self]; rfl)
          obtain ⟨La, hLa⟩ : ∃ La, (Nm.rnorm a).length = La := ⟨_, rfl⟩
          obtain ⟨Lb, hLb⟩ : ∃ Lb, (Nm.rnorm b2).length = Lb := ⟨_, rfl⟩
          obtain ⟨Lm, hLm⟩ : ∃ Lm, (Nm.rnorm (a ++ b2)).length = Lm := ⟨_, rfl⟩
          rw [hLa] at qa1 qa2 ha6 ha1
          rw [hLb] at qb1 qb2 hb6 hb1'
          rw [hLm] at hm6
          have HLM := Lib.hid hLm
          have HLB := Lib.hid hLb
          have HOA := Lib.hid qa2
          have HOB := Lib.hid qb2
          obtain ⟨gb, ob, eb, hbb, hcb⟩ := (at_reads qb2).2 (by omega)
          subst eb
          obtain ⟨z1, z2⟩ := hcb 0 (by omega)
          rw [Nat.zero_mul, Nat.add_zero] at z1 z2
          obtain ⟨u, hu⟩ : ∃ u, (Nm.rnorm b2).getD 0 (0, 0) = u := ⟨_, rfl⟩
          rw [hu] at z1 z2
          obtain ⟨zp, zx⟩ := u
          simp only at z1 z2
          have HUU := Lib.hid hu
          have hcap := HP.out.cap
          have hw2 : IntKind.i64.wrap ((d : Int) + 2 - 2) = (d : Int) := by rw [IntKind.wrap_i64]; omega
          have hw1 : IntKind.i64.wrap ((d : Int) + 2 - 1) = (d : Int) + 1 := by rw [IntKind.wrap_i64]; omega
          have n1 : (0 : Int) ≤ (d : Int) := by omega
          have n3 : (0 : Int) ≤ (d : Int) + 1 := by omega
          have n4 : (d : Int) < (d : Int) + 2 := by omega
          have n5 : (d : Int) + 1 < (d : Int) + 2 := by omega
          have n6 : ((d : Int) + 1).toNat = d + 1 := by omega
          clear hps htk hfine hfa hfb hoka hokb qa2 qb2 hLa hLb hLm hDl hokab hcb hu
          by_cases hL1 : Lb = 1
          · subst hL1
            have hbl : Nm.rnorm b2 = [(zp, zx)] := by
              have h1 := HLB.out
              have h2 := HUU.out
              match hq : Nm.rnorm b2, h1, h2 with
              | [q], _, h2 => rw [show q = (zp, zx) from h2]
            have HBL2 := Lib.hid hbl
            clear hbl
            by_cases hq1 : zp = -1
            · subst hq1
              by_cases hq2 : zx = 0
              · subst hq2
                have HEQ : Hid ((3 : Int) = 3 ∧ Nm.zeroL b2 = true) := ⟨rfl, HZ.out.1 HBL2.out⟩
                have HBQ : Hid (Below wr.heap.size wr wr) := Below.refl _ _
                have hsq : wr.heap.size ≤ wr.heap.size := Nat.le_refl _
                have HR1 := Lib.hid (rnorm_one (p := -1) (by omega) (by omega))
                have HRB : Hid (Nm.rnorm [(-1, 0)] = Nm.rnorm b2) := by unfold Hid; rw [HR1.out, HBL2.out]
                go_wp2_with fail
                go_region
                have hpd := ((HP.out.below HBQ.out).alloc (.cells #[.slice (some ⟨gb, ob, none⟩) 1 cb] 34)).drew.drop 2 (by omega)
                obtain ⟨hD4, vals4, h24, h34⟩ := hpd
                have hba := ((HBL.out.trans (HBQ.out.mono hszr)).alloc (Nat.le_trans hszr hsq) (.cells #[.slice (some ⟨gb, ob, none⟩) 1 cb] 34)).drew
                simp only [Nat.add_sub_cancel] at h24 hD4 h34
                clear HBQ
                go_wp2_with (at_builtin; refine wpList_append_own _ rfl (.tmp 76) (.tmp 78) 64 rfl w.heap.size 34 j0 (.slice none 0 0) 1 24 Tryd.underlying64 ji jz0 jz1 jz2 rfl (by decide) (.slice (some ⟨g, 0, none⟩) d c4) d vals4 rfl h24 ⟨wr.heap.size, 0, none⟩ 1 1 [.slice (some ⟨gb, ob, none⟩) 1 cb] rfl rfl (fun j u hu => cell_one_new wr (.slice (some ⟨gb, ob, none⟩) 1 cb) 34 j u hu) (fun u hu => by simp at hu; subst hu; rfl) (by unfold maxLen; omega) (by omega) (by simp; omega) ?_
                             intro v' w3 hown' hgrow hnil
                             obtain ⟨g', c', rfl, hp3⟩ := PileO.push (a := Nm.rnorm b2) (A := (some ⟨gb, ob, none⟩)) (ca := cb) hD4 h24 h34 (by rw [HLB.out]; exact at_below' HOB.out ((Below.refl _ _).alloc (Nat.le_refl _) _).drew) hgrow (by rw [HLB.out]; exact hown')
                             have HP3 := Lib.hid hp3
                             have HB3 : Hid (Below w.heap.size w w3) := hba.grown hgrow (by simp; omega) (fun k h => (h24.lt k h).1)
                             clear hown' hgrow hnil hp3 h24 h34 hba)
                go_wp2
                go_roundw
                case rel => exact ⟨k + 1, _, g', d + 1, c', by omega, by go_num, HR', rfl, Lib.hid (by rw [List.map_cons, if_pos HEQ.out, HRB.out]; simpa using HP3.out), HB3.out⟩
                case measure => simp [intOf]; omega
              · have dz : (zx == 0) = false := by simpa using hq2
                have hnz : Nm.rnorm b2 ≠ [(-1, 0)] := by
                  rw [HBL2.out]
                  intro h
                  simp at h
                  exact hq2 h
                have HNE : Hid (¬ ((3 : Int) = 3 ∧ Nm.zeroL b2 = true)) := fun h => hnz (HZ.out.2 h.2)
                clear hnz
                obtain ⟨qa, rfl, hqa⟩ := (at_reads HOA.out).tokA (by omega)
                have hcla : (tokCells (Nm.rnorm a)).length = La * 2 := HOA.out.1
                have hclb : (tokCells (Nm.rnorm b2)).length = 1 * 2 := HOB.out.1
                have ho0 : OwnA (wr.alloc (.cells #[] 68)) wr.heap.size (some ⟨wr.heap.size, 0, none⟩) 0 0 [] := World.ownsRow_made wr #[] 0 (Nat.le_refl _) (by simp [maxLen]) (by simp)
                have hb0 : Below wr.heap.size wr (wr.alloc (.cells #[] 68)).drew := ((Below.refl _ _).alloc (Nat.le_refl _) _).drew
                go_wp2_with fail
                go_region
                go_wp2_with (at_builtin; first
                  | (refine wpList_append_own _ rfl (.tmp 66) (.tmp 67) 34 rfl wr.heap.size 68 i0 (.agg #[.int .i64 0, .int .i64 0]) 2 16 Tryd.underlying34 hi hz0 hz1 hz2 rfl (by decide) (.slice (some ⟨wr.heap.size, 0, none⟩) 0 0) 0 (tokCells []) rfl ho0 qa La ca (tokCells (Nm.rnorm a)) rfl hcla (fun j u hu => ((at_reads (at_below' HOA.out hb0)).tokA (by omega)).elim fun q h => by obtain ⟨e, h⟩ := h; injection e with e; subst e; exact h.2 j u hu) (tokCells_one _) (by unfold maxLen; omega) (by omega) (by simp) ?_
                     intro v1 w1' hown1 hgrow1 hnil1
                     rw [tokCells_nil, List.nil_append, Nat.zero_add] at hown1
                     obtain ⟨g1, d1, rfl⟩ := own_form hown1 (by omega)
                     have hB1 : Below wr.heap.size wr w1' := hb0.grown hgrow1 (by simp) (fun k h => by have h' : wr.heap.size = k := (by simpa [Value.ownBlock] using h); omega)
                     have hsz1 := hB1.size)
                  | (refine wpList_append_own _ rfl (.tmp 68) (.tmp 69) 34 rfl wr.heap.size 68 i0 (.agg #[.int .i64 0, .int .i64 0]) 2 16 Tryd.underlying34 hi hz0 hz1 hz2 rfl (by decide) (.slice (some ⟨g1, 0, none⟩) La d1) La (tokCells (Nm.rnorm a)) rfl hown1 ⟨gb, ob, none⟩ 1 cb (tokCells (Nm.rnorm b2)) rfl hclb (fun j u hu => ((at_reads (at_below' HOB.out hB1)).tokA (by omega)).elim fun q h => by obtain ⟨e, h⟩ := h; injection e with e; subst e; exact h.2 j u hu) (tokCells_one _) (by unfold maxLen; omega) (by omega) (by omega) ?_
                     intro v2 w2' hown2 hgrow2 hnil2
                     obtain ⟨g2, d2, rfl⟩ := own_form hown2 (by omega)
                     have hB2 : Below wr.heap.size wr w2' := hB1.grown hgrow2 hsz1 (fun k h => (hown1.lt k h).1)
                     have ho2 : OwnA w2' wr.heap.size (some ⟨g2, 0, none⟩) (La + 1) d2 (Nm.rnorm a ++ Nm.rnorm b2) := by
                       unfold OwnA
                       rw [tokCells_append]
                       exact hown2
                     have hsz2 := hB2.size
                     have HLR := Lib.hid (l03Resid_any w2' w2'.heap.size (some ⟨g2, 0, none⟩) (La + 1) d2 (Nm.rnorm a ++ Nm.rnorm b2) s (Nat.le_refl _) (OwnA.reads ho2) (by omega) (by omega) HOKAB.out)
                     have HB2 := Lib.hid hB2
                     clear hown1 hgrow1 hnil1 hB1 hown2 hgrow2 hnil2 hB2 ho2 ho0 hb0))
                refine HLR.out.mono ?_
                rintro e wq ⟨Am, cm, rfl, hom, hbq⟩
                rw [HJ.out, HLM.out] at hom
                rw [HJ.out, HLM.out]
                have HBQ := Lib.hid (HB2.out.trans (hbq.mono hsz2))
                have hsq : wr.heap.size ≤ wq.heap.size := HBQ.out.size
                have HOM := Lib.hid (at_base hom (Nat.le_trans hszr hsz2))
                clear hom hbq HLR HB2
                have hpd := ((HP.out.below HBQ.out).alloc (.cells #[.slice Am Lm cm] 34)).drop 2 (by omega)
                obtain ⟨hD4, vals4, h24, h34⟩ := hpd
                have hba := (HBL.out.trans (HBQ.out.mono hszr)).alloc (Nat.le_trans hszr hsq) (.cells #[.slice Am Lm cm] 34)
                simp only [Nat.add_sub_cancel] at h24 hD4 h34
                clear HBQ
                go_wp2_with (at_builtin; refine wpList_append_own _ rfl (.tmp 76) (.tmp 78) 64 rfl w.heap.size 34 j0 (.slice none 0 0) 1 24 Tryd.underlying64 ji jz0 jz1 jz2 rfl (by decide) (.slice (some ⟨g, 0, none⟩) d c4) d vals4 rfl h24 ⟨wq.heap.size, 0, none⟩ 1 1 [.slice Am Lm cm] rfl rfl (cell_one_new _ _ _) (fun u hu => by simp at hu; subst hu; rfl) (by unfold maxLen; omega) (by omega) (by simp; omega) ?_
                             intro v' w3 hown' hgrow hnil
                             obtain ⟨g', c', rfl, hp3⟩ := PileO.push (a := Nm.rnorm (a ++ b2)) (A := Am) (ca := cm) hD4 h24 h34 (by rw [HLM.out]; exact at_below' HOM.out ((Below.refl _ _).alloc (Nat.le_refl _) _)) hgrow (by rw [HLM.out]; exact hown')
                             have HP3 := Lib.hid hp3
                             have HB3 : Hid (Below w.heap.size w w3) := hba.grown hgrow (by simp; omega) (fun k h => (h24.lt k h).1)
                             clear hown' hgrow hnil hp3 h24 h34 hba)
                go_wp2
                go_roundw
                case rel => exact ⟨k + 1, _, g', d + 1, c', by omega, by go_num, HR', rfl, Lib.hid (by rw [List.map_cons, if_neg HNE.out]; simpa using HP3.out), HB3.out⟩
                case measure => simp [intOf]; omega
            · have dz : (zp == -1) = false := by simpa using hq1
              have hnz : Nm.rnorm b2 ≠ [(-1, 0)] := by
                rw [HBL2.out]
                intro h
                simp at h
                exact hq1 h.1
              have HNE : Hid (¬ ((3 : Int) = 3 ∧ Nm.zeroL b2 = true)) := fun h => hnz (HZ.out.2 h.2)
              clear hnz
              obtain ⟨qa, rfl, hqa⟩ := (at_reads HOA.out).tokA (by omega)
              have hcla : (tokCells (Nm.rnorm a)).length = La * 2 := HOA.out.1
              have hclb : (tokCells (Nm.rnorm b2)).length = 1 * 2 := HOB.out.1
              have ho0 : OwnA (wr.alloc (.cells #[] 68)) wr.heap.size (some ⟨wr.heap.size, 0, none⟩) 0 0 [] := World.ownsRow_made wr #[] 0 (Nat.le_refl _) (by simp [maxLen]) (by simp)
              have hb0 : Below wr.heap.size wr (wr.alloc (.cells #[] 68)).drew := ((Below.refl _ _).alloc (Nat.le_refl _) _).drew
              go_wp2_with fail
              go_region
              go_wp2_with (at_builtin; first
                | (refine wpList_append_own _ rfl (.tmp 66) (.tmp 67) 34 rfl wr.heap.size 68 i0 (.agg #[.int .i64 0, .int .i64 0]) 2 16 Tryd.underlying34 hi hz0 hz1 hz2 rfl (by decide) (.slice (some ⟨wr.heap.size, 0, none⟩) 0 0) 0 (tokCells []) rfl ho0 qa La ca (tokCells (Nm.rnorm a)) rfl hcla (fun j u hu => ((at_reads (at_below' HOA.out hb0)).tokA (by omega)).elim fun q h => by obtain ⟨e, h⟩ := h; injection e with e; subst e; exact h.2 j u hu) (tokCells_one _) (by unfold maxLen; omega) (by omega) (by simp) ?_
                   intro v1 w1' hown1 hgrow1 hnil1
                   rw [tokCells_nil, List.nil_append, Nat.zero_add] at hown1
                   obtain ⟨g1, d1, rfl⟩ := own_form hown1 (by omega)
                   have hB1 : Below wr.heap.size wr w1' := hb0.grown hgrow1 (by simp) (fun k h => by have h' : wr.heap.size = k := (by simpa [Value.ownBlock] using h); omega)
                   have hsz1 := hB1.size)
                | (refine wpList_append_own _ rfl (.tmp 68) (.tmp 69) 34 rfl wr.heap.size 68 i0 (.agg #[.int .i64 0, .int .i64 0]) 2 16 Tryd.underlying34 hi hz0 hz1 hz2 rfl (by decide) (.slice (some ⟨g1, 0, none⟩) La d1) La (tokCells (Nm.rnorm a)) rfl hown1 ⟨gb, ob, none⟩ 1 cb (tokCells (Nm.rnorm b2)) rfl hclb (fun j u hu => ((at_reads (at_below' HOB.out hB1)).tokA (by omega)).elim fun q h => by obtain ⟨e, h⟩ := h; injection e with e; subst e; exact h.2 j u hu) (tokCells_one _) (by unfold maxLen; omega) (by omega) (by omega) ?_
                   intro v2 w2' hown2 hgrow2 hnil2
                   obtain ⟨g2, d2, rfl⟩ := own_form hown2 (by omega)
                   have hB2 : Below wr.heap.size wr w2' := hB1.grown hgrow2 hsz1 (fun k h => (hown1.lt k h).1)
                   have ho2 : OwnA w2' wr.heap.size (some ⟨g2, 0, none⟩) (La + 1) d2 (Nm.rnorm a ++ Nm.rnorm b2) := by
                     unfold OwnA
                     rw [tokCells_append]
                     exact hown2
                   have hsz2 := hB2.size
                   have HLR := Lib.hid (l03Resid_any w2' w2'.heap.size (some ⟨g2, 0, none⟩) (La + 1) d2 (Nm.rnorm a ++ Nm.rnorm b2) s (Nat.le_refl _) (OwnA.reads ho2) (by omega) (by omega) HOKAB.out)
                   have HB2 := Lib.hid hB2
                   clear hown1 hgrow1 hnil1 hB1 hown2 hgrow2 hnil2 hB2 ho2 ho0 hb0))
              refine HLR.out.mono ?_
              rintro e wq ⟨Am, cm, rfl, hom, hbq⟩
              rw [HJ.out, HLM.out] at hom
              rw [HJ.out, HLM.out]
              have HBQ := Lib.hid (HB2.out.trans (hbq.mono hsz2))
              have hsq : wr.heap.size ≤ wq.heap.size := HBQ.out.size
              have HOM := Lib.hid (at_base hom (Nat.le_trans hszr hsz2))
              clear hom hbq HLR HB2
              have hpd := ((HP.out.below HBQ.out).alloc (.cells #[.slice Am Lm cm] 34)).drop 2 (by omega)
              obtain ⟨hD4, vals4, h24, h34⟩ := hpd
              have hba := (HBL.out.trans (HBQ.out.mono hszr)).alloc (Nat.le_trans hszr hsq) (.cells #[.slice Am Lm cm] 34)
              simp only [Nat.add_sub_cancel] at h24 hD4 h34
              clear HBQ
              go_wp2_with (at_builtin; refine wpList_append_own _ rfl (.tmp 76) (.tmp 78) 64 rfl w.heap.size 34 j0 (.slice none 0 0) 1 24 Tryd.underlying64 ji jz0 jz1 jz2 rfl (by decide) (.slice (some ⟨g, 0, none⟩) d c4) d vals4 rfl h24 ⟨wq.heap.size, 0, none⟩ 1 1 [.slice Am Lm cm] rfl rfl (cell_one_new _ _ _) (fun u hu => by simp at hu; subst hu; rfl) (by unfold maxLen; omega) (by omega) (by simp; omega) ?_
                           intro v' w3 hown' hgrow hnil
                           obtain ⟨g', c', rfl, hp3⟩ := PileO.push (a := Nm.rnorm (a ++ b2)) (A := Am) (ca := cm) hD4 h24 h34 (by rw [HLM.out]; exact at_below' HOM.out ((Below.refl _ _).alloc (Nat.le_refl _) _)) hgrow (by rw [HLM.out]; exact hown')
                           have HP3 := Lib.hid hp3
                           have HB3 : Hid (Below w.heap.size w w3) := hba.grown hgrow (by simp; omega) (fun k h => (h24.lt k h).1)
                           clear hown' hgrow hnil hp3 h24 h34 hba)
              go_wp2
              go_roundw
              case rel => exact ⟨k + 1, _, g', d + 1, c', by omega, by go_num, HR', rfl, Lib.hid (by rw [List.map_cons, if_neg HNE.out]; simpa using HP3.out), HB3.out⟩
              case measure => simp [intOf]; omega
          · have dL : ((Lb : Int) == 1) = false := by simp; omega
            have hnz : Nm.rnorm b2 ≠ [(-1, 0)] := by
              intro h
              have h2 := HLB.out
              rw [h] at h2
              simp at h2
              omega
            have HNE : Hid (¬ ((3 : Int) = 3 ∧ Nm.zeroL b2 = true)) := fun h => hnz (HZ.out.2 h.2)
            clear hnz
            obtain ⟨qa, rfl, hqa⟩ := (at_reads HOA.out).tokA (by omega)
            have hcla : (tokCells (Nm.rnorm a)).length = La * 2 := HOA.out.1
            have hclb : (tokCells (Nm.rnorm b2)).length = Lb * 2 := HOB.out.1
            have ho0 : OwnA (wr.alloc (.cells #[] 68)) wr.heap.size (some ⟨wr.heap.size, 0, none⟩) 0 0 [] := World.ownsRow_made wr #[] 0 (Nat.le_refl _) (by simp [maxLen]) (by simp)
            have hb0 : Below wr.heap.size wr (wr.alloc (.cells #[] 68)).drew := ((Below.refl _ _).alloc (Nat.le_refl _) _).drew
            go_wp2_with fail
            go_region
            go_wp2_with (at_builtin; first
              | (refine wpList_append_own _ rfl (.tmp 66) (.tmp 67) 34 rfl wr.heap.size 68 i0 (.agg #[.int .i64 0, .int .i64 0]) 2 16 Tryd.underlying34 hi hz0 hz1 hz2 rfl (by decide) (.slice (some ⟨wr.heap.size, 0, none⟩) 0 0) 0 (tokCells []) rfl ho0 qa La ca (tokCells (Nm.rnorm a)) rfl hcla (fun j u hu => ((at_reads (at_below' HOA.out hb0)).tokA (by omega)).elim fun q h => by obtain ⟨e, h⟩ := h; injection e with e; subst e; exact h.2 j u hu) (tokCells_one _) (by unfold maxLen; omega) (by omega) (by simp) ?_
                 intro v1 w1' hown1 hgrow1 hnil1
                 rw [tokCells_nil, List.nil_append, Nat.zero_add] at hown1
                 obtain ⟨g1, d1, rfl⟩ := own_form hown1 (by omega)
                 have hB1 : Below wr.heap.size wr w1' := hb0.grown hgrow1 (by simp) (fun k h => by have h' : wr.heap.size = k := (by simpa [Value.ownBlock] using h); omega)
                 have hsz1 := hB1.size)
              | (refine wpList_append_own _ rfl (.tmp 68) (.tmp 69) 34 rfl wr.heap.size 68 i0 (.agg #[.int .i64 0, .int .i64 0]) 2 16 Tryd.underlying34 hi hz0 hz1 hz2 rfl (by decide) (.slice (some ⟨g1, 0, none⟩) La d1) La (tokCells (Nm.rnorm a)) rfl hown1 ⟨gb, ob, none⟩ Lb cb (tokCells (Nm.rnorm b2)) rfl hclb (fun j u hu => ((at_reads (at_below' HOB.out hB1)).tokA (by omega)).elim fun q h => by obtain ⟨e, h⟩ := h; injection e with e; subst e; exact h.2 j u hu) (tokCells_one _) (by unfold maxLen; omega) (by omega) (by omega) ?_
                 intro v2 w2' hown2 hgrow2 hnil2
                 obtain ⟨g2, d2, rfl⟩ := own_form hown2 (by omega)
                 have hB2 : Below wr.heap.size wr w2' := hB1.grown hgrow2 hsz1 (fun k h => (hown1.lt k h).1)
                 have ho2 : OwnA w2' wr.heap.size (some ⟨g2, 0, none⟩) (La + Lb) d2 (Nm.rnorm a ++ Nm.rnorm b2) := by
                   unfold OwnA
                   rw [tokCells_append]
                   exact hown2
                 have hsz2 := hB2.size
                 have HLR := Lib.hid (l03Resid_any w2' w2'.heap.size (some ⟨g2, 0, none⟩) (La + Lb) d2 (Nm.rnorm a ++ Nm.rnorm b2) s (Nat.le_refl _) (OwnA.reads ho2) (by omega) (by omega) HOKAB.out)
                 have HB2 := Lib.hid hB2
                 clear hown1 hgrow1 hnil1 hB1 hown2 hgrow2 hnil2 hB2 ho2 ho0 hb0))
            refine HLR.out.mono ?_
            rintro e wq ⟨Am, cm, rfl, hom, hbq⟩
            rw [HJ.out, HLM.out] at hom
            rw [HJ.out, HLM.out]
            have HBQ := Lib.hid (HB2.out.trans (hbq.mono hsz2))
            have hsq : wr.heap.size ≤ wq.heap.size := HBQ.out.size
            have HOM := Lib.hid (at_base hom (Nat.le_trans hszr hsz2))
            clear hom hbq HLR HB2
            have hpd := ((HP.out.below HBQ.out).alloc (.cells #[.slice Am Lm cm] 34)).drop 2 (by omega)
            obtain ⟨hD4, vals4, h24, h34⟩ := hpd
            have hba := (HBL.out.trans (HBQ.out.mono hszr)).alloc (Nat.le_trans hszr hsq) (.cells #[.slice Am Lm cm] 34)
            simp only [Nat.add_sub_cancel] at h24 hD4 h34
            clear HBQ
            go_wp2_with (at_builtin; refine wpList_append_own _ rfl (.tmp 76) (.tmp 78) 64 rfl w.heap.size 34 j0 (.slice none 0 0) 1 24 Tryd.underlying64 ji jz0 jz1 jz2 rfl (by decide) (.slice (some ⟨g, 0, none⟩) d c4) d vals4 rfl h24 ⟨wq.heap.size, 0, none⟩ 1 1 [.slice Am Lm cm] rfl rfl (cell_one_new _ _ _) (fun u hu => by simp at hu; subst hu; rfl) (by unfold maxLen; omega) (by omega) (by simp; omega) ?_
                         intro v' w3 hown' hgrow hnil
                         obtain ⟨g', c', rfl, hp3⟩ := PileO.push (a := Nm.rnorm (a ++ b2)) (A := Am) (ca := cm) hD4 h24 h34 (by rw [HLM.out]; exact at_below' HOM.out ((Below.refl _ _).alloc (Nat.le_refl _) _)) hgrow (by rw [HLM.out]; exact hown')
                         have HP3 := Lib.hid hp3
                         have HB3 : Hid (Below w.heap.size w w3) := hba.grown hgrow (by simp; omega) (fun k h => (h24.lt k h).1)
                         clear hown' hgrow hnil hp3 h24 h34 hba)
            go_wp2
            go_roundw
            case rel => exact ⟨k + 1, _, g', d + 1, c', by omega, by go_num, HR', rfl, Lib.hid (by rw [List.map_cons, if_neg HNE.out]; simpa using HP3.out), HB3.out⟩
            case measure => simp [intOf]; omega
        · obtain rfl : op = 4 := e
          obtain rfl := Nm.wstep_par hps
          have hy : 0 ≤ y ∧ y < 5 := by simp [Lv.tkOk] at htk; omega
          have hoky : Nm.AllOk [(y, 0)] := Nm.allOk_of_mem fun a ha => by
            obtain rfl : a = (y, 0) := by simpa using ha
            exact (Nm.atOk_iff _).2 (by simp; omega)
          have HRS : Hid (Nm.resid s [(y, 0)] = Nm.rnorm [Nm.pl s (y, 0)]) := rfl
          have hl6 := Nm.rnorm_len [Nm.pl s (y, 0)]
          obtain ⟨Lp, hLp⟩ : ∃ Lp, (Nm.rnorm [Nm.pl s (y, 0)]).length = Lp := ⟨_, rfl⟩
          rw [hLp] at hl6
          have HLP := Lib.hid hLp
          have hb0 : Below wr.heap.size wr (wr.alloc (.cells #[.int .i64 y, .int .i64 0] 68)) := (Below.refl _ _).alloc (Nat.le_refl _) _
          have hel : OwnA (wr.alloc (.cells #[.int .i64 y, .int .i64 0] 68)) wr.heap.size (some ⟨wr.heap.size, 0, none⟩) 1 1 [(y, 0)] := own_litO (Blk.made wr _ _) (Nat.le_refl _)
          have HLR := Lib.hid (l03Resid_any (wr.alloc (.cells #[.int .i64 y, .int .i64 0] 68)) _ (some ⟨wr.heap.size, 0, none⟩) 1 1 [(y, 0)] s (Nat.le_refl _) (OwnA.reads hel) (by omega) (by omega) hoky)
          have HB0 := Lib.hid hb0
          clear hps htk hfine hy hoky hel hb0 hLp
          go_wp2_with fail
          refine HLR.out.mono ?_
          rintro e wq ⟨Am, cm, rfl, hom, hbq⟩
          rw [HRS.out, HLP.out] at hom
          rw [HRS.out, HLP.out]
          have hbq2 := HB0.out.trans (hbq.mono (by simp))
          have hsq : wr.heap.size ≤ wq.heap.size := hbq2.size
          have HOM := Lib.hid (at_base hom (show w.heap.size ≤ _ by simp; omega))
          obtain ⟨hD, vals, h2, h3⟩ := (HP.out.below hbq2).alloc (.cells #[.slice Am Lp cm] 34)
          have hba := (HBL.out.trans (hbq2.mono hszr)).alloc (Nat.le_trans hszr hsq) (.cells #[.slice Am Lp cm] 34)
          clear hom hbq hbq2 HLR
          go_wp2_with (at_builtin; refine wpList_append_own _ rfl (.tmp 89) (.tmp 99) 64 rfl w.heap.size 34 j0 (.slice none 0 0) 1 24 Tryd.underlying64 ji jz0 jz1 jz2 rfl (by decide) (.slice (some ⟨g, 0, none⟩) D c4) D vals rfl h2 ⟨wq.heap.size, 0, none⟩ 1 1 [.slice Am Lp cm] rfl rfl (cell_one_new _ _ _) (fun u hu => by simp at hu; subst hu; rfl) (by unfold maxLen; omega) (by omega) (by simp; omega) ?_
                       intro v' w3 hown' hgrow hnil
                       obtain ⟨g', c', rfl, hp3⟩ := PileO.push (a := Nm.rnorm [Nm.pl s (y, 0)]) (A := Am) (ca := cm) hD h2 h3 (by rw [HLP.out]; exact at_below' HOM.out ((Below.refl _ _).alloc (Nat.le_refl _) _)) hgrow (by rw [HLP.out]; exact hown')
                       have HP3 := Lib.hid hp3
                       have HB3 : Hid (Below w.heap.size w w3) := hba.grown hgrow (by simp; omega) (fun k h => (h2.lt k h).1)
                       clear hown' hgrow hnil hp3 h2 h3 hba)
          go_wp2
          go_roundw
          case rel => exact ⟨k + 1, _, g', D + 1, c', by omega, by go_num, HR', rfl, HP3, HB3.out⟩
          case measure => simp [intOf]; omega
      · obtain rfl : k = n := by omega
        have htl : l.take k = l := List.take_of_length_le (by rw [hl.1]; exact Nat.le_refl _)
        obtain ⟨a, ha⟩ := Nm.wrun_one (s := s) HO.out
        have hst : st = [a] := by
          have h := HR.out
          rw [htl, ha] at h
          injection h with h
          exact h.symm
        subst hst
        have HLF := Lib.hid (Nm.wl_of ha)
        have hfa := hfine a (by simp)
        have hl1 : 1 ≤ (Nm.rnorm a).length := List.length_pos_iff.2 (Nm.rnorm_ne hfa.1 (hfine.allOk (by omega) (by simp)))
        have hl6 := Nm.rnorm_len a
        obtain rfl : 1 = D := hDl
        obtain ⟨Aa, ca, q1, q2⟩ := HP.out.at (i := 0) (a := Nm.rnorm a) rfl
        obtain ⟨La, hLa⟩ : ∃ La, (Nm.rnorm a).length = La := ⟨_, rfl⟩
        rw [hLa] at q1 q2 hl1 hl6
        have HLA := Lib.hid hLa
        have hb0 : Below wr.heap.size wr (wr.alloc (.cells #[] 68)) := (Below.refl _ _).alloc (Nat.le_refl _) _
        have ho0 : OwnA (wr.alloc (.cells #[] 68)) w.heap.size (some ⟨wr.heap.size, 0, none⟩) 0 0 [] := World.ownsRow_made wr #[] 0 hszr (by simp [maxLen]) (by simp)
        obtain ⟨qa, rfl, hqa⟩ := (at_reads (at_below' q2 hb0)).tokA (by omega)
        have hcl : (tokCells (Nm.rnorm a)).length = La * 2 := q2.1
        have q3 : (wr.alloc (.cells #[] 68)).cell? ⟨g, 0, none⟩ = some (.slice (some qa) La ca) := (hb0.cell (p := ⟨g, 0, none⟩) (World.block_lt_of_cell? wr _ q1)).trans q1
        clear hLa ha htl hfine hfa q2 q1
        go_wp2_with (at_builtin; refine wpList_append_own _ rfl (.tmp 115) (.tmp 118) 34 rfl w.heap.size 68 i0 (.agg #[.int .i64 0, .int .i64 0]) 2 16 Tryd.underlying34 hi hz0 hz1 hz2 rfl (by decide) (.slice (some ⟨wr.heap.size, 0, none⟩) 0 0) 0 (tokCells []) rfl ho0 qa La ca (tokCells (Nm.rnorm a)) rfl hcl hqa.2 (tokCells_one _) (by unfold maxLen; omega) (by omega) (by simp; omega) ?_
                     intro v1 w1' hown1 hgrow1 hnil1
                     rw [tokCells_nil, List.nil_append, Nat.zero_add] at hown1
                     obtain ⟨g1, d1, rfl⟩ := own_form hown1 (by omega)
                     have HB1 : Hid (Below w.heap.size w w1') := (hbel.alloc hszr _).grown hgrow1 (by simp; omega) (fun k h => by have h' : wr.heap.size = k := (by simpa [Value.ownBlock] using h); omega)
                     have HOW1 := Lib.hid hown1
                     clear hown1 hgrow1 hnil1)
        go_wp2
        go_ret2
        rw [HF.out, HLF.out]
        exact ⟨_, _, by simp only [Option.getD_some, HLA.out]; rfl, by simp only [Option.getD_some, HLA.out]; exact OwnO.of HOW1.out, HB1.out⟩
end Go.Proofs.YtijiohdddfdjfaaDoor

namespace Go.Proofs.YtijiohdddfdjfaaDoor
open Go.RowKit

theorem wl_fine {s : Int} {l : List (Int × Int)} (h : Lv.levelOk l = true) : Nm.wl s l ≠ [] ∧ Nm.Pst s (Nm.wl s l) ∧ Nm.AllOk (Nm.wl s l) := by
  obtain ⟨a, ha⟩ := Nm.wrun_one (s := s) h
  have hl := (ok_lenO h).2
  have hf := Nm.wfine_run (k := 0) (fun a ha => by simp at ha) ha
  have hfa := hf a (by simp)
  rw [Nm.wl_of ha]
  exact ⟨hfa.1, hfa.2.1, hf.allOk (by omega) (by simp)⟩

set_option maxRecDepth 100000 in
set_option maxHeartbeats 3200000 in
theorem residualOf_any (w : World) (B : Nat) (A : Option Addr) (n c : Nat) (l : List (Int × Int)) (s : Int) (T : TypeId) (pv : Value) (h0 : 0 < B) (hB : B ≤ w.heap.size)
    (hl : TokR w B A n l) (hok : Lv.levelOk l = true) (hs : Sg.isSign s = true) (hE : ErrAt w T pv) :
    Calls Tryd.prog 48 #[.slice A n c, .int .i64 s] w (ResAO w (Nm.rnorm (Nm.wl s l))) := by
  obtain ⟨hne, hpst, hall⟩ := wl_fine (s := s) hok
  go_enter Tryd.func48, Tryd.ntmps48
  go_wp2_with fail
  refine (withoutImax_any w B A n c l s T pv h0 hB hl hok hs hE).mono ?_
  rintro e w1 ⟨g1, c1, ts, rfl, ho1, hrel, hl24, hb1⟩
  have hs1 := hb1.size
  have hfr : Nm.freeR ts = some (Nm.norm (Nm.wl s l)) := by
    rw [freeR_yes ⟨hrel.ok hl24, hrel.2⟩, leafs_of hrel.1]
  obtain ⟨Lt, hLt⟩ : ∃ Lt, ts.length = Lt := ⟨_, rfl⟩
  rw [hLt] at ho1 hl24 ⊢
  have HNF := Lib.hid (implNormFree_any w1 w1.heap.size (some ⟨g1, 0, none⟩) Lt c1 ts T pv (by omega) (Nat.le_refl _) (OwnT.reads ho1) (by omega) (hE.below (hb1.mono hB) h0))
  rw [hfr] at HNF
  have HB1 := Lib.hid hb1
  have hlen := Nm.norm_len (Nm.wl s l)
  have hNok := (Nm.norm_ok hne hall)
  have hpt := Nm.norm_parts (Nm.wl s l)
  obtain ⟨L, hL⟩ : ∃ L, Nm.wl s l = L := ⟨_, rfl⟩
  rw [hL] at HNF hlen hNok hpt
  have HWL := Lib.hid hL
  obtain ⟨N, hN⟩ : ∃ N, Nm.norm L = N := ⟨_, rfl⟩
  obtain ⟨M, hM⟩ : ∃ M, N.length = M := ⟨_, rfl⟩
  rw [hN] at HNF hlen hNok hpt
  have hM1 : 1 ≤ M := by rw [← hM]; exact hNok.1
  rw [hM] at hlen
  have HNO := Lib.hid hNok.2.1
  have HNN := Lib.hid hN
  have HMM := Lib.hid hM
  clear hne hall hfr hLt ho1 hrel hb1 hNok hpst hN hM hL
  go_wp2_with fail
  refine HNF.out.mono ?_
  rintro e w2 ⟨A2, c2, rfl, ho2, hb2⟩
  simp only [Option.getD_some, Option.isSome_some, HMM.out] at ho2 ⊢
  have hb02 := HB1.out.trans (hb2.mono hs1)
  obtain ⟨g2, c2', hv⟩ := own_form ho2 (by omega)
  injection hv with e1 _ e3
  subst e1; subst e3
  have hr2 := OwnA.reads ho2
  obtain ⟨b, off, e, hb, hc⟩ := hr2.2 (by omega)
  injection e with e
  injection e with e1 e2
  subst e1; subst e2
  obtain ⟨z1, z2⟩ := hc 0 (by omega)
  rw [Nat.zero_mul, Nat.add_zero] at z1 z2
  have hcap := own_capR ho2
  have HO2 := Lib.hid (own_base (base' := w.heap.size) ho2 hs1)
  have HB2 := Lib.hid hb02
  have hi0 : 0 < M := by omega
  have HNI := Lib.hid (numberIsNeeded_any w2 w2.heap.size g2 0 M c2 N (Nat.le_refl _) hr2 (by omega) hM1 hcap HNO.out)
  clear hc hr2 ho2 hb2 hb02 HNF
  rcases hpt with ⟨hlt3, hnp⟩ | ⟨hlt3, hnp, hrn⟩
  · have hrn := Nm.rnorm_of_norm hlt3
    rw [HNN.out] at hrn
    have h00 : N.getD 0 (0, 0) = (-1, Nm.best (-1) L) := by rw [hnp]; rfl
    have hdrop : N.drop 1 = Nm.pars L 5 := by rw [hnp]; rfl
    rw [h00] at z1 z2 HNI
    simp only at z1 z2 HNI
    rw [hdrop] at HNI
    cases hx : Nm.exceeds (Nm.best (-1) L - 1) (Nm.pars L 5) with
    | true =>
      rw [hx, if_pos rfl] at hrn
      rw [hx] at HNI
      have HRN := Lib.hid hrn
      clear hrn h00 hdrop hx hlt3 hnp z2
      go_wp2_with fail
      refine HNI.out.mono ?_
      rintro e w3 ⟨rfl, hb3⟩
      have HB3 := Lib.hid (HB2.out.trans (hb3.mono HB2.out.size))
      have HO3 := Lib.hid (own_below' HO2.out hb3)
      clear hb3 HNI
      go_wp2
      go_ret
      rw [HWL.out, HRN.out]
      exact ⟨_, _, by rw [HMM.out]; rfl, by rw [HMM.out]; exact OwnO.of HO3.out, HB3.out⟩
    | false =>
      rw [hx, if_neg (by decide)] at hrn
      rw [hx] at HNI
      have hln : (Nm.pars L 5).length = M - 1 := by rw [← hdrop, List.length_drop, HMM.out]
      have hpn : 1 ≤ M - 1 := by
        rw [← hln]
        refine List.length_pos_iff.2 (fun e => ?_)
        have : Nm.exceeds (Nm.best (-1) L - 1) (Nm.pars L 5) = true := by
          rw [Nm.exceeds_iff, Nm.exceeds_mem, e]; intro a ha; simp at ha
        rw [hx] at this
        cases this
      obtain ⟨jj, rfl⟩ : ∃ jj, M = jj + 1 := ⟨M - 1, by omega⟩
      have HRN : Hid (Nm.rnorm L = N.drop 1) := by unfold Hid; rw [hrn, hdrop]
      have HTL : Hid ((N.drop 1).length = jj) := by unfold Hid; rw [List.length_drop, HMM.out]; rfl
      have hsl := run_tail2 g2 (jj + 1) c2 (by omega) hcap
      simp only [Nat.add_sub_cancel] at hsl
      clear hrn h00 hdrop hx hlt3 hnp z2 hln
      go_wp2_with fail
      refine HNI.out.mono ?_
      rintro e w3 ⟨rfl, hb3⟩
      have HB3 := Lib.hid (HB2.out.trans (hb3.mono HB2.out.size))
      have HO3 := Lib.hid (OwnO.tail (own_below' HO2.out hb3))
      clear hb3 HNI
      go_wp2
      go_ret
      rw [HWL.out, HRN.out]
      exact ⟨_, _, by rw [HTL.out]; rfl, by rw [HTL.out]; exact HO3.out, HB3.out⟩
  · have HRN : Hid (Nm.rnorm L = N) := by unfold Hid; rw [hrn, ← hnp]
    have hp0 : 0 ≤ (N.getD 0 (0, 0)).1 := by
      have hmem := Nm.mem_getD (l := N) (k := 0) (by rw [HMM.out]; omega)
      rw [hnp] at hmem ⊢
      exact (Nm.pars_mem.1 hmem).1
    generalize N.getD 0 (0, 0) = t at z1 z2 hp0
    obtain ⟨p, x⟩ := t
    simp only at z1 z2 hp0
    have dp : (p == -1) = false := by simp; omega
    clear hrn hnp hlt3 HNI
    go_wp2
    go_ret
    rw [HWL.out, HRN.out]
    exact ⟨_, _, by rw [HMM.out]; rfl, by rw [HMM.out]; exact OwnO.of HO2.out, HB2.out⟩

set_option maxRecDepth 100000 in
set_option maxHeartbeats 1600000 in
theorem implResidual_any (w : World) (B : Nat) (A : Option Addr) (n c : Nat) (l : List (Int × Int)) (s : Int) (T : TypeId) (pv : Value) (h0 : 0 < B) (hB : B ≤ w.heap.size)
    (hl : TokR w B A n l) (hn : (n : Int) ≤ 140737488355328) (hE : ErrAt w T pv) :
    Calls Tryd.prog 18 #[.slice A n c, .int .i64 s] w (ResO w (Nm.residR s l)) := by
  cases h1 : Lv.levelOk l with
  | false =>
    have HF : Hid (Nm.residR s l = none) := residR_no (fun h => by rw [h1] at h; cases h.1)
    have HO := Lib.hid h1
    clear h1
    go_enter Tryd.func18, Tryd.ntmps18
    go_wp2_with fail
    refine (levelOk_any w B A n c l T pv h0 hB hl hn hE).mono ?_
    rintro e w1 ⟨rfl, hb1⟩
    rw [HO.out]
    go_wp2
    go_ret2
    rw [HF.out]
    exact resO_none hb1
  | true =>
    cases hs : Sg.isSign s with
    | false =>
      have HF : Hid (Nm.residR s l = none) := residR_no (fun h => by rw [hs] at h; cases h.2)
      have HO := Lib.hid h1
      clear h1
      go_enter Tryd.func18, Tryd.ntmps18
      go_wp2_with fail
      refine (levelOk_any w B A n c l T pv h0 hB hl hn hE).mono ?_
      rintro e w1 ⟨rfl, hb1⟩
      rw [HO.out]
      go_wp2_with fail
      refine (signOk_any w1 s).mono ?_
      rintro e w' ⟨rfl, rfl⟩
      rw [hs]
      go_wp2
      go_ret2
      rw [HF.out]
      exact resO_none hb1
    | true =>
      have HF : Hid (Nm.residR s l = some (Nm.rnorm (Nm.wl s l))) := residR_yes ⟨h1, hs⟩
      have HO := Lib.hid h1
      clear h1
      go_enter Tryd.func18, Tryd.ntmps18
      go_wp2_with fail
      refine (levelOk_any w B A n c l T pv h0 hB hl hn hE).mono ?_
      rintro e w1 ⟨rfl, hb1⟩
      rw [HO.out]
      go_wp2_with fail
      refine (signOk_any w1 s).mono ?_
      rintro e w' ⟨rfl, rfl⟩
      rw [hs]
      have HB1 := Lib.hid hb1
      have HRO := Lib.hid (residualOf_any w' B A n c l s T pv h0 (Nat.le_trans hB hb1.size) (hl.below (hb1.mono hB)) HO.out hs (hE.below (hb1.mono hB) h0))
      clear hb1 hs
      generalize Nm.rnorm (Nm.wl s l) = R at HF HRO
      go_wp2_with fail
      refine HRO.out.mono ?_
      rintro e w2 ⟨A2, c2, rfl, ho2, hb2⟩
      have HO2 := Lib.hid (at_base ho2 HB1.out.size)
      have HB2 := Lib.hid (HB1.out.trans (hb2.mono HB1.out.size))
      clear ho2 hb2 HRO
      obtain ⟨M, hM⟩ : ∃ M, R.length = M := ⟨_, rfl⟩
      rw [hM] at HO2 ⊢
      have HMM := Lib.hid hM
      clear hM
      go_wp2
      go_ret2
      rw [HF.out]
      exact ⟨_, _, by simp only [Option.getD_some, HMM.out]; rfl, by simp only [Option.getD_some, HMM.out]; exact HO2.out, HB2.out⟩
end Go.Proofs.YtijiohdddfdjfaaDoor

namespace Go.Proofs.YtijiohdddfdjfaaDoor
open Go.RowKit

/-- two stacks of one height, nothing below zero, with zeros at the same places -/
def ZeS : List Int → List Int → Prop
  | [], [] => True
  | a :: s, b :: t => (0 ≤ a ∧ 0 ≤ b ∧ (a = 0 ↔ b = 0)) ∧ ZeS s t
  | _, _ => False

theorem step_zero {e1 e2 : List Int} {t : Int × Int} {s s' u : List Int} (he : ∀ i, 0 ≤ e1.getD i 0 ∧ 0 ≤ e2.getD i 0 ∧ (e1.getD i 0 = 0 ↔ e2.getD i 0 = 0)) (hs : ZeS s u) (h : Lv.step e1 t s = some s') : ∃ u', Lv.step e2 t u = some u' ∧ ZeS s' u' := by
  unfold Lv.step at h ⊢
  by_cases hok : Lv.tkOk t = true
  · rw [if_pos hok] at h ⊢
    by_cases h0 : t.1 = 0
    · rw [if_pos h0] at h ⊢
      injection h with h
      subst h
      exact ⟨_, rfl, by omega, hs⟩
    · rw [if_neg h0] at h ⊢
      by_cases h4 : t.1 = 4
      · rw [if_pos h4] at h ⊢
        injection h with h
        subst h
        exact ⟨_, rfl, he _, hs⟩
      · rw [if_neg h4] at h ⊢
        by_cases h1 : t.1 = 1
        · rw [if_pos h1] at h ⊢
          match s, u, hs, h with
          | a :: s, b :: u, hs, h =>
            simp only at h ⊢
            injection h with h
            subst h
            exact ⟨_, rfl, by have := hs.1; omega, hs.2⟩
        · rw [if_neg h1] at h ⊢
          match s, u, hs, h with
          | b :: a :: s, d :: c :: u, hs, h =>
            simp only at h ⊢
            injection h with h
            subst h
            obtain ⟨q1, q2, q3⟩ := hs
            refine ⟨_, rfl, ?_, q3⟩
            by_cases h3 : t.1 = 3
            · by_cases hb : b = 0
              · rw [if_pos ⟨h3, hb⟩, if_pos ⟨h3, q1.2.2.1 hb⟩]
                omega
              · rw [if_neg (fun hh => hb hh.2), if_neg (fun hh => hb (q1.2.2.2 hh.2))]
                omega
            · rw [if_neg (fun hh => h3 hh.1), if_neg (fun hh => h3 hh.1)]
              omega
          | [b], [d], hs, h => simp at h
          | [], [], hs, h => simp at h
  · rw [if_neg hok] at h; cases h
theorem run_zero {e1 e2 : List Int} (he : ∀ i, 0 ≤ e1.getD i 0 ∧ 0 ≤ e2.getD i 0 ∧ (e1.getD i 0 = 0 ↔ e2.getD i 0 = 0)) : ∀ (l : List (Int × Int)) (s u s' : List Int), ZeS s u → Lv.run e1 l s = some s' → ∃ u', Lv.run e2 l u = some u' ∧ ZeS s' u' := by
  intro l
  induction l with
  | nil =>
    intro s u s' hs h
    simp only [Lv.run] at h ⊢
    injection h with h
    subst h
    exact ⟨u, rfl, hs⟩
  | cons t r ih =>
    intro s u s' hs h
    simp only [Lv.run] at h ⊢
    cases hq : Lv.step e1 t s with
    | none => rw [hq] at h; cases h
    | some s1 =>
      rw [hq, Option.bind_some] at h
      obtain ⟨u1, hu, hl⟩ := step_zero he hs hq
      rw [hu, Option.bind_some]
      exact ih s1 u1 s' hl h

namespace Sg
theorem bits_has {env : List Int} (h5 : env.length = 5) (k : Nat) (hk : k < 5) : has (bits env) k = decide (0 < env.getD k 0) := by
  match env, h5 with
  | [a, b, c, d, e], _ =>
    have key : ∀ x0 x1 x2 x3 x4 : Bool, ∀ k : Fin 5, has (((if x0 then 1 else 0) + 2 * ((if x1 then 1 else 0) + 2 * ((if x2 then 1 else 0) + 2 * ((if x3 then 1 else 0) + 2 * ((if x4 then 1 else 0) + 2 * 0))))) : Int) (k : Nat) = [x0, x1, x2, x3, x4].getD k false := by decide +kernel
    have := key (decide (a > 0)) (decide (b > 0)) (decide (c > 0)) (decide (d > 0)) (decide (e > 0)) ⟨k, hk⟩
    simp only [decide_eq_true_eq] at this
    simp only [bits]
    rw [this]
    rcases (show k = 0 ∨ k = 1 ∨ k = 2 ∨ k = 3 ∨ k = 4 by omega) with rfl | rfl | rfl | rfl | rfl <;> rfl
theorem bits_sign {env : List Int} (h5 : env.length = 5) : isSign (bits env) = true := by
  have h1 := bits_nonneg env
  have h2 := bits_lt env
  rw [h5] at h2
  simp [isSign]; omega
theorem least_zero {env : List Int} (h : envOk env = true) (i : Nat) : 0 ≤ (least (bits env)).getD i 0 ∧ 0 ≤ env.getD i 0 ∧ ((least (bits env)).getD i 0 = 0 ↔ env.getD i 0 = 0) := by
  have hm := envOk_mem h
  by_cases hi : i < 5
  · have hv : 0 ≤ env.getD i 0 := by
      rw [List.getD_eq_getElem?_getD, List.getElem?_eq_getElem (by omega)]
      exact (hm.2 _ (List.getElem_mem _)).1
    rw [least_get _ i hi]
    unfold bit
    rw [bits_has hm.1 i hi]
    by_cases hp : 0 < env.getD i 0
    · rw [decide_eq_true hp, if_pos rfl]; omega
    · rw [decide_eq_false hp, if_neg (by decide)]; omega
  · have e1 : (least (bits env)).getD i 0 = 0 := by
      rw [List.getD_eq_getElem?_getD, List.getElem?_eq_none (by rw [least_len]; omega)]; rfl
    have e2 : env.getD i 0 = 0 := by
      rw [List.getD_eq_getElem?_getD, List.getElem?_eq_none (by rw [hm.1]; omega)]; rfl
    rw [e1, e2]; omega
end Sg

theorem lsg_eval {env : List Int} {l : List (Int × Int)} (h : envOk env = true) (hok : Lv.levelOk l = true) : ∃ v, evalR env l = some v ∧ lsgR l (Sg.bits env) = min 1 v := by
  have hm := envOk_mem h
  obtain ⟨u, hu⟩ := Lv.run_of_ok (env := Sg.least (Sg.bits env)) hok
  obtain ⟨s', hs, hz⟩ := run_zero (Sg.least_zero h) l [] [] [u] trivial hu
  match s', hs, hz with
  | [v], hs, hz =>
    refine ⟨v, by simp [evalR, h, Lv.eval, hok, hs], ?_⟩
    rw [lsgR_some (Sg.bits_sign hm.1) (v := u) (by simp [evalR, Sg.least_ok, Lv.eval, hok, hu])]
    have := hz.1
    omega
theorem lsg_not {env : List Int} {l : List (Int × Int)} (hok : Lv.levelOk l = false) : evalR env l = none ∧ lsgR l (Sg.bits env) = -1 :=
  ⟨evalR_not_ok hok, lsgR_none (evalR_not_ok hok)⟩
end Go.Proofs.YtijiohdddfdjfaaDoor

namespace Go.Proofs.YtijiohdddfdjfaaDoor.Nm
open Go.Proofs.YtijiohdddfdjfaaDoor.Lv

/-- the residual of atoms for a sign is one -/
theorem rnorm_rok {s : Int} {a : List At} (hs : Sg.isSign s = true) (h0 : a ≠ []) (hp : Pst s a) (h : AllOk a) : ROk s (rnorm a) := by
  refine ⟨hs, List.length_pos_iff.2 (rnorm_ne h0 h), rnorm_allOk h, incr_of_sorted (rnorm_sorted a), fun k hk => hp.rnorm _ (mem_getD hk), fun e => ?_⟩
  have hs := rnorm_sorted a
  rw [exceeds_mem]
  match hr : rnorm a, hs, e with
  | [], _, _ => intro x hx; simp at hx
  | q :: r, hs, e =>
    intro x hx
    simp only [List.drop_one, List.tail_cons] at hx
    have e' : q.1 = -1 := e
    have hq : q ∈ rnorm a := by rw [hr]; simp
    have hx' : x ∈ rnorm a := by rw [hr]; simp [hx]
    have hlt : q.1 < x.1 := (List.pairwise_cons.1 hs).1 x hx
    obtain ⟨_, _, q3, q4⟩ := mem_rnorm.1 hq
    obtain ⟨_, x2, x3, x4⟩ := mem_rnorm.1 hx'
    rw [e'] at q3 q4
    simp [keepR] at q3
    have hm := most_le a 5 x.1 (by omega) (by simpa using x2)
    have hc := keepR_cases x3
    have hn := best_nonneg h hc
    show x.2 < q.2 - 1
    have hmo : mo a = most a 5 + 1 := by unfold mo; rw [if_neg (by omega)]
    omega

/-- an env of a sign -/
def EnvOf (s : Int) (env : List Int) : Prop := Pos env ∧ (∀ p : Int, Sg.has s p = true → 1 ≤ env.getD p.toNat 0) ∧ (∀ p : Int, 0 ≤ p → p < 5 → Sg.has s p = false → env.getD p.toNat 0 = 0)
theorem has_bd {s p : Int} (h : Sg.has s p = true) : 0 ≤ p ∧ p < 5 := by unfold Sg.has at h; simp at h; omega
theorem value_rnorm {s : Int} {env : List Int} (he : EnvOf s env) {l : List At} (hp : Pst s l) (h : AllOk l) : value env (rnorm l) = value env l := by
  apply Int.le_antisymm
  · exact value_le (value_ge _ _) fun a ha => value_mem (rnorm_sub ha)
  · refine value_le (value_ge _ _) fun a ha => ?_
    obtain ⟨p, x⟩ := a
    have hb := h.mem ha
    have hbm := best_mem ha
    simp only at hb
    by_cases ep : p = -1
    · subst ep
      by_cases hm : mo l < best (-1) l
      · have h1 : ((-1 : Int), best (-1) l) ∈ rnorm l := mem_rnorm.2 ⟨by simp, by simp, by simp [keepR, hm], rfl⟩
        have h2 := value_mem (env := env) h1
        simp [val] at h2 ⊢
        omega
      · have hne : most l 5 ≠ -1 := by intro e; unfold mo at hm; rw [if_pos e] at hm; omega
        have hmo : mo l = most l 5 + 1 := by unfold mo; rw [if_neg hne]
        obtain ⟨q, q1, q2, q3⟩ := most_at l 5 hne
        have g := most_ge l 5
        have h1 : (q, best q l) ∈ rnorm l := mem_rnorm.2 ⟨by simp; omega, by simp; omega, by simp [keepR, show q ≠ -1 by omega]; omega, rfl⟩
        have h2 := value_mem (env := env) h1
        have hq := hp _ (rnorm_sub h1)
        simp only at hq
        have h4 : 1 ≤ env.getD q.toNat 0 := by
          rcases hq with e | e
          · omega
          · exact he.2.1 q e
        simp only [val, if_true] at h2 ⊢
        simp only [show ¬ q = -1 by omega, if_false] at h2
        omega
    · have h1 : (p, best p l) ∈ rnorm l := mem_rnorm.2 ⟨by simp; omega, by simp; omega, by simp [keepR, ep]; omega, rfl⟩
      have h2 := value_mem (env := env) h1
      simp only [val, ep, if_false] at h2 ⊢
      omega
theorem value_zero' {s : Int} {env : List Int} (he : EnvOf s env) {a : List At} (hp : Pst s a) (hok : AllOk a) : value env a = 0 ↔ zeroL a = true := by
  rw [zeroL_iff]
  constructor
  · intro h x hx
    have hv := value_mem (env := env) hx
    have hm := hok.mem hx
    rw [h] at hv
    obtain ⟨p, y⟩ := x
    unfold val at hv
    simp only at hv hm
    rcases hp _ hx with e | e
    · simp only at e
      subst e
      rw [if_pos rfl] at hv
      have : y = 0 := by omega
      rw [this]
    · simp only at e
      have hl := he.2.1 p e
      have hb := has_bd e
      rw [if_neg (by omega)] at hv
      omega
  · intro h
    have h1 := value_ge env a
    have h2 := value_le (env := env) (l := a) (v := 0) (by omega) (fun x hx => by rw [h x hx]; simp [val])
    omega
theorem wstep_val {s : Int} {env : List Int} (he : EnvOf s env) {t : Tk} {k : Nat} {st st' : List (List At)} (hk : k ≤ 999) (hf : WFine s k st) (h : wstep s t st = some st') : Lv.step env t (st.map (value env)) = some (st'.map (value env)) := by
  have hok : tkOk t = true := by
    unfold wstep at h
    split at h
    · assumption
    · cases h
  unfold wstep at h
  unfold Lv.step
  rw [if_pos hok] at h ⊢
  split at h
  · rename_i e
    cases h
    rw [if_pos e]
    simp [value, val]
  · rename_i e
    rw [if_neg e]
    split at h
    · rename_i e4
      cases h
      rw [if_pos e4]
      have h2 : 0 ≤ t.2 ∧ t.2 < 5 := by simp [tkOk] at hok; omega
      have hg := he.1.get t.2.toNat
      simp only [List.map_cons, Option.some.injEq, List.cons.injEq, and_true]
      unfold pl
      cases hh : Sg.has s t.2 with
      | true =>
        simp only [Bool.true_eq_false, and_false, if_false, value, val, show ¬ t.2 = -1 by omega]
        omega
      | false =>
        simp only [h2.1, and_self, if_true, value, val, he.2.2 t.2 h2.1 h2.2 hh]
        rfl
    · rename_i e4
      rw [if_neg e4]
      split at h
      · rename_i e1
        rw [if_pos e1]
        split at h
        · cases h
          rename_i a r
          have ha := hf a (by simp)
          simp only [List.map_cons]
          rw [value_up he.1 ha.1 (hf.allOk (by omega) (by simp)) (by omega)]
        · cases h
      · rename_i e1
        rw [if_neg e1]
        split at h
        · cases h
          rename_i b a r
          have hb := hf b (by simp)
          have hz := value_zero' he hb.2.1 (hf.allOk (by omega) (by simp))
          simp only [List.map_cons, Option.some.injEq, List.cons.injEq, and_true]
          by_cases hc : t.1 = 3 ∧ zeroL b = true
          · rw [if_pos hc, if_pos ⟨hc.1, hz.2 hc.2⟩]
            simp [value, val]
          · rw [if_neg hc, if_neg (fun hh => hc ⟨hh.1, hz.1 hh.2⟩), value_append]
        · cases h
theorem wrun_val {s : Int} {env : List Int} (he : EnvOf s env) {l : List Tk} {st : List (List At)} (hl : l.length ≤ 24) (h : wrun s l [] = some st) : Lv.run env l [] = some (st.map (value env)) := by
  have H : ∀ (l : List Tk) (k : Nat) (u st : List (List At)), k + l.length ≤ 999 → WFine s k u → wrun s l u = some st → Lv.run env l (u.map (value env)) = some (st.map (value env)) := by
    intro l
    induction l with
    | nil => intro k u st _ _ h; cases h; rfl
    | cons t r ih =>
      intro k u st hk hf h
      simp only [wrun] at h
      simp only [List.length_cons] at hk
      cases hs : wstep s t u with
      | none => rw [hs] at h; cases h
      | some u' =>
        rw [hs] at h
        simp only [Lv.run]
        rw [wstep_val he (k := k) (by omega) hf hs, Option.bind_some]
        exact ih (k + 1) u' st (by omega) (wfine_step hf hs) h
  exact H l 0 [] st (by omega) (by intro a ha; simp at ha) h
/-- the residual has the values of the level -/
theorem eval_resid {s : Int} {env : List Int} (he : EnvOf s env) {l : List Tk} (h : levelOk l = true) : Lv.eval env l = some (value env (rnorm (wl s l))) := by
  obtain ⟨a, ha⟩ := wrun_one (s := s) h
  have h' := h
  simp only [levelOk, Bool.and_eq_true, decide_eq_true_eq] at h'
  have hr := wrun_val he (by omega) ha
  have hf := wfine_run (k := 0) (fun a ha => by simp at ha) ha
  have hfa := hf a (by simp)
  have e := Lv.eval_of_run (env := env) (l := l) (v := value env a) (by omega) (by omega) (by simpa using hr)
  rw [e, wl_of ha, value_rnorm he hfa.2.1 (hf.allOk (by omega) (by simp))]
/-- the sign of an env of a sign -/
theorem sgR_of {s : Int} {env : List Int} (hs : Sg.isSign s = true) (hok : envOk env = true) (he : EnvOf s env) : Sg.sgR env = s := by
  have hm := envOk_mem hok
  unfold Sg.sgR
  rw [if_pos hok]
  have hb := fun k hk => Sg.bits_has hm.1 k hk
  have hv : ∀ k : Nat, k < 5 → decide (0 < env.getD k 0) = Sg.has s k := by
    intro k hk
    cases hh : Sg.has s k with
    | true => have := he.2.1 k hh; simp only [Int.toNat_natCast] at this; exact decide_eq_true (by omega)
    | false => have := he.2.2 k (by omega) (by omega) hh; simp only [Int.toNat_natCast] at this; exact decide_eq_false (by omega)
  have h1 := Sg.bits_sign hm.1
  have key : ∀ x y : Fin 32, (∀ k : Fin 5, Sg.has ((x : Nat) : Int) ((k : Nat) : Int) = Sg.has ((y : Nat) : Int) ((k : Nat) : Int)) → x = y := by decide +kernel
  have hbx : 0 ≤ Sg.bits env ∧ Sg.bits env ≤ 31 := by simpa [Sg.isSign] using h1
  have hsx : 0 ≤ s ∧ s ≤ 31 := by simpa [Sg.isSign] using hs
  have hk := key ⟨(Sg.bits env).toNat, by omega⟩ ⟨s.toNat, by omega⟩ (fun k => by
    have e1 : (((Sg.bits env).toNat : Nat) : Int) = Sg.bits env := by omega
    have e2 : ((s.toNat : Nat) : Int) = s := by omega
    simp only [e1, e2]
    rw [hb k k.2, hv k k.2])
  have := congrArg Fin.val hk
  simp only at this
  omega
end Go.Proofs.YtijiohdddfdjfaaDoor.Nm

namespace Go.Proofs.YtijiohdddfdjfaaDoor
open Go.RowKit

theorem l03Sign_any (w : World) (s : Int) :
    Calls Tryd.prog 50 #[.int .i64 s] w fun e w' => e = .returned (.bool (Sg.isSign s)) ∧ w' = w := by
  by_cases h1 : 0 ≤ s
  · by_cases h2 : s ≤ 31
    · go_enter Tryd.func50, Tryd.ntmps50
      go_wp2
      go_ret
      exact ⟨by simp [Sg.isSign, h1, h2], rfl⟩
    · go_enter Tryd.func50, Tryd.ntmps50
      go_wp2
      go_ret
      exact ⟨by simp [Sg.isSign, h1, h2], rfl⟩
  · go_enter Tryd.func50, Tryd.ntmps50
    go_wp2
    go_ret
    exact ⟨by simp [Sg.isSign]; omega, rfl⟩

/-- what the model asks of one atom of a residual -/
def RAt (s : Int) (l : List (Int × Int)) (k : Nat) : Prop := Nm.atOk (l.getD k (0, 0)) = true ∧ ((l.getD k (0, 0)).1 = -1 ∨ Sg.has s (l.getD k (0, 0)).1 = true) ∧ (0 < k → (l.getD (k - 1) (0, 0)).1 < (l.getD k (0, 0)).1 ∧ ((l.getD 0 (0, 0)).1 = -1 → (l.getD k (0, 0)).2 + 2 ≤ (l.getD 0 (0, 0)).2))
/-- what the model has seen of the first k atoms -/
def SeenR (s : Int) (l : List (Int × Int)) (k : Nat) : Prop := ∀ j, j < k → RAt s l j
theorem seenR_step {s : Int} {l : List (Int × Int)} {k : Nat} (h : SeenR s l k) (h1 : RAt s l k) : SeenR s l (k + 1) := by
  intro j hj
  by_cases e : j = k
  · subst e; exact h1
  · exact h j (by omega)
theorem seenR_all {s : Int} {l : List (Int × Int)} (hs : Sg.isSign s = true) (h0 : 1 ≤ l.length) (h : SeenR s l l.length) : Nm.ROk s l := by
  refine ⟨hs, h0, fun k hk => (h k hk).1, fun k h0 hk => ((h k hk).2.2 h0).1, fun k hk => (h k hk).2.1, fun e k hk => ?_⟩
  rw [List.length_drop] at hk
  rw [Nm.getD_drop1]
  have := ((h (k + 1) (by omega)).2.2 (by omega)).2 e
  omega
theorem seenR_of {s : Int} {l : List (Int × Int)} (h : Nm.ROk s l) {k : Nat} (hk : k < l.length) : RAt s l k := by
  refine ⟨h.2.2.1 k hk, h.2.2.2.2.1 k hk, fun h0 => ⟨h.2.2.2.1 k h0 hk, fun e => ?_⟩⟩
  have := h.2.2.2.2.2 e (k - 1) (by rw [List.length_drop]; omega)
  rw [Nm.getD_drop1, show k - 1 + 1 = k by omega] at this
  omega

end Go.Proofs.YtijiohdddfdjfaaDoor

namespace Go.Proofs.YtijiohdddfdjfaaDoor
open Go.RowKit

/-- what NormEval answers -/
noncomputable def nevR (l : List (Int × Int)) (env : List Int) : Option Int := if Nm.normOk l = true ∧ envOk env = true then some (Nm.value env l) else none
theorem nevR_bd {l : List (Int × Int)} {env : List Int} (hl : Nm.AllOk l) (he : envOk env = true) : Nm.value env l ≤ 2000 := by
  refine Nm.value_le (by omega) fun a ha => ?_
  have h1 := hl.mem ha
  have h2 := envOk_mem he
  unfold Nm.val
  split
  · omega
  · rw [List.getD_eq_getElem?_getD]
    cases hg : env[a.1.toNat]? with
    | none => simp; omega
    | some y => have := h2.2 y (List.mem_of_getElem? hg); simp; omega

theorem max_if (v x : Int) : (if v < x then x else v) = max v x := by split <;> omega
theorem env_at {env : List Int} (he : envOk env = true) (k : Nat) : 0 ≤ env.getD k 0 ∧ env.getD k 0 ≤ 1000 := by
  rw [List.getD_eq_getElem?_getD]
  cases hg : env[k]? with
  | none => simp
  | some y => exact (envOk_mem he).2 y (List.mem_of_getElem? hg)

set_option maxRecDepth 100000 in
set_option maxHeartbeats 1600000 in
theorem greatestValue_any (w : World) (B : Nat) (A : Option Addr) (n c : Nat) (l : List (Int × Int)) (A2 : Option Addr) (n2 c2 : Nat) (env : List Int) (hB : B ≤ w.heap.size) (hl : TokR w B A n l) (hn : (n : Int) ≤ 140737488355328)
    (hE : IntR w B A2 n2 env) (hok : Nm.AllOk l) (he : envOk env = true) :
    Calls Tryd.prog 53 #[.slice A n c, .slice A2 n2 c2] w fun e w' => e = .returned (.int .i64 (Nm.value env l)) ∧ Below w.heap.size w w' := by
  have hm := envOk_mem he
  obtain rfl : n2 = 5 := by rw [← hE.1]; exact hm.1
  obtain ⟨b2, off2, rfl, hb2, hc2⟩ := hE.2 (by omega)
  have HC2 := Lib.hid hc2
  have HE := Lib.hid he
  have HOK := Lib.hid hok
  clear hc2 hE hm he hok
  go_enter Tryd.func53, Tryd.ntmps53
  go_wp2
  go_loopw [5, 10] (fun v i wr => ∃ k : Nat, k ≤ n ∧ i = .int .i64 k ∧ v = .int .i64 (Nm.value env (l.take k)) ∧ Below w.heap.size w wr) (fun _ i _ => n - (intOf i).toNat)
  case atStart => exact ⟨0, Nat.zero_le _, rfl, rfl, Below.refl _ _⟩
  case round =>
    obtain ⟨k, hk, rfl, rfl, hbel⟩ := hrel
    by_cases hlt : k < n
    · have HV := Lib.hid (Nm.value_take env l k (by rw [hl.1]; exact hlt))
      have hat := (Nm.atOk_iff _).1 (HOK.out k (by rw [hl.1]; exact hlt))
      have hv0 := Nm.value_ge env (l.take k)
      obtain ⟨b, off, rfl, hb, hc⟩ := hl.2 (by omega)
      obtain ⟨e1, e2⟩ := hc k hlt
      generalize Nm.value env (l.take k) = v at HV hv0 ⊢
      generalize l.getD k (0, 0) = t at e1 e2 HV hat
      obtain ⟨p, x⟩ := t
      simp only at hat
      obtain ⟨g1, g2, g3, g4⟩ := hat
      have k1 := (hbel.cell (p := ⟨b, off + k * 2, none⟩) (by show b < _; omega)).trans e1
      have k2 := (hbel.cell (p := ⟨b, off + k * 2 + 1, none⟩) (by show b < _; omega)).trans e2
      have HBA := Lib.hid (hbel.alloc hbel.size (.cells #[.int .i64 p, .int .i64 x] 68))
      have HL := Lib.hid hl
      clear e1 e2 hc hl
      by_cases ep : p = -1
      · subst ep
        have HV2 : Hid (Nm.value env (l.take (k + 1)) = max v x) := by show _ = _; rw [HV.out]; simp [Nm.val]
        go_wp2
        go_roundw
        case rel => exact ⟨k + 1, by omega, by go_num, by rw [HV2.out, max_if], HBA.out⟩
        case measure => simp [intOf]; omega
      · have dp : (p == -1) = false := by simpa using ep
        have hp0 : 0 ≤ p := by omega
        obtain ⟨pn, rfl⟩ := Int.eq_ofNat_of_zero_le hp0
        have hy := env_at HE.out pn
        have e3 := HC2.out pn (by omega)
        have HV2 : Hid (Nm.value env (l.take (k + 1)) = max v (env.getD pn 0 + x)) := by show _ = _; rw [HV.out]; simp [Nm.val, ep]
        generalize env.getD pn 0 = y at hy e3 HV2
        obtain ⟨y1, y2⟩ := hy
        have k3 : (wr.alloc (.cells #[.int .i64 (pn : Int), .int .i64 x] 68)).cell? ⟨b2, off2 + pn, none⟩ = some (.int .i64 y) := (HBA.out.cell (p := ⟨b2, off2 + pn, none⟩) (by show b2 < _; omega)).trans e3
        have hpi : (pn : Int) < 5 := by omega
        have hw1 : IntKind.i64.wrap (y + x) = y + x := by rw [IntKind.wrap_i64]; omega
        have HBD := Lib.hid HBA.out.drew
        clear e3 ep
        go_wp2_with fail
        refine region_tail 9 (by kernel_rfl) (by kernel_rfl) ?_
        simp only [List.take_succ_cons, List.take_zero, List.drop_succ_cons, List.drop_zero]
        repeat still_step
        refine wpStill_nil ?_
        go_wp2
        go_roundw
        case rel => exact ⟨k + 1, by omega, by go_num, by rw [HV2.out, max_if], HBD.out⟩
        case measure => simp [intOf]; omega
    · have HF : Hid (Nm.value env (l.take k) = Nm.value env l) := by show _ = _; rw [List.take_of_length_le (by have := hl.1; omega)]
      clear hl
      go_wp2
      go_ret
      exact ⟨ret_int HF.out, hbel⟩

/-- what NormEval gives back -/
noncomputable def nevV (l : List (Int × Int)) (env : List Int) : Value := .tuple #[.int .i64 ((nevR l env).getD 0), .bool (nevR l env).isSome]
theorem nevR_no {l : List (Int × Int)} {env : List Int} (h : ¬ (Nm.normOk l = true ∧ envOk env = true)) : nevR l env = none := if_neg h
theorem nevR_yes {l : List (Int × Int)} {env : List Int} (h : Nm.normOk l = true ∧ envOk env = true) : nevR l env = some (Nm.value env l) := if_pos h

end Go.Proofs.YtijiohdddfdjfaaDoor

namespace Go.Proofs.YtijiohdddfdjfaaDoor
open Go.RowKit

/-- what ResidEval answers -/
noncomputable def revR (l : List (Int × Int)) (env : List Int) : Option Int := if Nm.residOk (Sg.sgR env) l = true then some (Nm.value env l) else none
/-- what ResidEval gives back -/
noncomputable def revV (l : List (Int × Int)) (env : List Int) : Value := .tuple #[.int .i64 ((revR l env).getD 0), .bool (revR l env).isSome]
theorem revR_no {l : List (Int × Int)} {env : List Int} (h : Nm.residOk (Sg.sgR env) l = false) : revR l env = none := if_neg (by rw [h]; decide)
theorem revR_yes {l : List (Int × Int)} {env : List Int} (h : Nm.residOk (Sg.sgR env) l = true) : revR l env = some (Nm.value env l) := if_pos h
theorem env_of_sign {l : List (Int × Int)} {env : List Int} (h : Nm.residOk (Sg.sgR env) l = true) : envOk env = true := by
  have h1 := ((Nm.residOk_iff _ _).1 h).1
  cases he : envOk env with
  | true => rfl
  | false =>
    unfold Sg.sgR at h1
    rw [he, if_neg (by decide)] at h1
    simp [Sg.isSign] at h1

set_option maxHeartbeats 800000 in
theorem implResidEval_any (w : World) (B : Nat) (A : Option Addr) (n c : Nat) (l : List (Int × Int)) (A2 : Option Addr) (n2 c2 : Nat) (env : List Int) (hB : B ≤ w.heap.size) (hl : TokR w B A n l) (hn : (n : Int) ≤ 140737488355328) (hc : n ≤ c)
    (hE : IntR w B A2 n2 env) (hn2 : (n2 : Int) ≤ 140737488355328) :
    Calls Tryd.prog 21 #[.slice A n c, .slice A2 n2 c2] w fun e w' => e = .returned (revV l env) ∧ Below w.heap.size w w' := by
  cases h1 : Nm.residOk (Sg.sgR env) l with
  | false =>
    have HF := Lib.hid (revR_no h1)
    have HO := Lib.hid h1
    clear h1
    go_enter Tryd.func21, Tryd.ntmps21
    go_wp2_with fail
    refine (implSignOf_any w B A2 n2 c2 env hE hn2).mono ?_
    rintro e w' ⟨rfl, rfl⟩
    go_wp2_with fail
    refine (implResidOk_any _ B A n c l (Sg.sgR env) hB hl hn hc).mono ?_
    rintro e w1 ⟨rfl, hb1⟩
    rw [HO.out]
    go_wp2
    go_ret2
    exact ⟨by rw [revV, HF.out]; rfl, hb1⟩
  | true =>
    have HF := Lib.hid (revR_yes h1)
    have HO := Lib.hid h1
    have HE2 := Lib.hid (env_of_sign h1)
    have HOK := Lib.hid ((Nm.residOk_iff _ l).1 h1).2.2.1
    clear h1
    go_enter Tryd.func21, Tryd.ntmps21
    go_wp2_with fail
    refine (implSignOf_any w B A2 n2 c2 env hE hn2).mono ?_
    rintro e w' ⟨rfl, rfl⟩
    go_wp2_with fail
    refine (implResidOk_any _ B A n c l (Sg.sgR env) hB hl hn hc).mono ?_
    rintro e w1 ⟨rfl, hb1⟩
    rw [HO.out]
    go_wp2_with fail
    refine (greatestValue_any w1 B A n c l A2 n2 c2 env (Nat.le_trans hB hb1.size) (hl.below (hb1.mono hB)) hn (hE.below (hb1.mono hB)) HOK.out HE2.out).mono ?_
    rintro e w3 ⟨rfl, hb3⟩
    have HB := Lib.hid (hb1.trans (hb3.mono hb1.size))
    clear hb1 hb3
    go_wp2
    go_ret2
    exact ⟨by rw [revV, HF.out]; rfl, HB.out⟩

end Go.Proofs.YtijiohdddfdjfaaDoor

namespace Go.Proofs.YtijiohdddfdjfaaDoor
open Go.RowKit

set_option maxRecDepth 100000 in
set_option maxHeartbeats 2000000 in
theorem sameAtoms_any (w : World) (B : Nat) (A1 A2 : Option Addr) (n1 n2 c1 c2 : Nat) (l m : List (Int × Int)) (hB : B ≤ w.heap.size) (hl : TokR w B A1 n1 l) (hm : TokR w B A2 n2 m)
    (hn1 : (n1 : Int) ≤ 1048576) (hn2 : (n2 : Int) ≤ 1048576) :
    Calls Tryd.prog 20 #[.slice A1 n1 c1, .slice A2 n2 c2] w fun e w' => e = .returned (.bool (decide (l = m))) ∧ Below w.heap.size w w' := by
  by_cases hne : n1 = n2
  · subst hne
    have en : ((n1 : Int) != (n1 : Int)) = false := by simp
    go_enter Tryd.func20, Tryd.ntmps20
    go_wp2
    go_loopw [5] (fun i wr => ∃ k : Nat, k ≤ n1 ∧ i = .int .i64 k ∧ Agree (0, 0) k l m ∧ Below w.heap.size w wr) (fun i _ => n1 - (intOf i).toNat)
    case atStart => exact ⟨0, Nat.zero_le _, rfl, (fun j hj => absurd hj (by omega)), Below.refl _ _⟩
    case round =>
      obtain ⟨k, hk, rfl, hag, hbel⟩ := hrel
      have HG := Lib.hid hag
      clear hag
      by_cases hlt : k < n1
      · obtain ⟨b, off, rfl, hb, hc⟩ := hl.2 (by omega)
        obtain ⟨x1, x2⟩ := hc k hlt
        obtain ⟨b', off', rfl, hb', hc'⟩ := hm.2 (by omega)
        obtain ⟨y1, y2⟩ := hc' k hlt
        have HL := Lib.hid hl
        have HM := Lib.hid hm
        obtain ⟨t, ht⟩ : ∃ t, l.getD k (0, 0) = t := ⟨_, rfl⟩
        obtain ⟨u, hu⟩ : ∃ u, m.getD k (0, 0) = u := ⟨_, rfl⟩
        rw [ht] at x1 x2
        rw [hu] at y1 y2
        obtain ⟨p, q⟩ := t
        obtain ⟨r, s⟩ := u
        have HT := Lib.hid ht
        have HU := Lib.hid hu
        have k1 := (hbel.cell (p := ⟨b, off + k * 2, none⟩) (by show b < _; omega)).trans x1
        have k2 := (hbel.cell (p := ⟨b, off + k * 2 + 1, none⟩) (by show b < _; omega)).trans x2
        have k3 := (hbel.cell (p := ⟨b', off' + k * 2, none⟩) (by show b' < _; omega)).trans y1
        have k4 := (hbel.cell (p := ⟨b', off' + k * 2 + 1, none⟩) (by show b' < _; omega)).trans y2
        have HB := Lib.hid hbel.drew
        clear x1 x2 y1 y2 hc hc' ht hu hl hm hbel
        have HF : Hid ((p, q) ≠ (r, s) → decide (l = m) = false) := by
          show _ → _
          intro heq
          rw [decide_eq_false_iff_not]
          intro h
          apply heq
          rw [← HT.out, ← HU.out, h]
        by_cases e1 : p = r
        · subst e1
          by_cases e2 : q = s
          · subst e2
            have HA : Hid (Agree (0, 0) (k + 1) l m) := agree_step HG.out (by rw [HT.out, HU.out])
            go_wp2_with fail
            go_region
            go_wp2
            go_roundw
            case rel => exact ⟨k + 1, by omega, by go_num, HA.out, HB.out⟩
            case measure => simp [intOf]; omega
          · have HF2 := Lib.hid (HF.out (by simp [e2]))
            have d2 : (q == s) = false := by simpa using e2
            clear e2
            go_wp2_with fail
            go_region
            go_wp2
            go_ret
            exact ⟨by rw [HF2.out]; rfl, HB.out⟩
        · have HF2 := Lib.hid (HF.out (by simp [e1]))
          have d1 : (p == r) = false := by simpa using e1
          clear e1
          go_wp2_with fail
          go_region
          go_wp2
          go_ret
          exact ⟨by rw [HF2.out]; rfl, HB.out⟩
      · obtain rfl : k = n1 := by omega
        have HF : Hid (decide (l = m) = true) := by
          show _ = _
          rw [decide_eq_true_eq]
          exact agree_all hl.1 hm.1 HG.out
        clear hl hm
        go_wp2
        go_ret
        exact ⟨by rw [HF.out]; rfl, hbel⟩
  · have HF : Hid (decide (l = m) = false) := by
      show _ = _
      rw [decide_eq_false_iff_not]
      intro h
      apply hne
      rw [← hl.1, ← hm.1, h]
    have en : ((n1 : Int) != (n2 : Int)) = true := by simp; omega
    clear hl hm hne
    go_enter Tryd.func20, Tryd.ntmps20
    go_wp2
    go_ret
    exact ⟨by rw [HF.out]; rfl, Below.refl _ _⟩
end Go.Proofs.YtijiohdddfdjfaaDoor

namespace Go.Proofs.YtijiohdddfdjfaaDoor
open Go.RowKit

/-- two stacks of one height, the first nowhere higher, nothing below zero -/
def LeS : List Int → List Int → Prop
  | [], [] => True
  | a :: s, b :: t => 0 ≤ a ∧ a ≤ b ∧ LeS s t
  | _, _ => False

theorem step_mono {e1 e2 : List Int} {t : Int × Int} {s s' u : List Int} (he : ∀ i, 0 ≤ e1.getD i 0 ∧ e1.getD i 0 ≤ e2.getD i 0) (hs : LeS s u) (h : Lv.step e1 t s = some s') : ∃ u', Lv.step e2 t u = some u' ∧ LeS s' u' := by
  unfold Lv.step at h ⊢
  by_cases hok : Lv.tkOk t = true
  · rw [if_pos hok] at h ⊢
    by_cases h0 : t.1 = 0
    · rw [if_pos h0] at h ⊢
      injection h with h
      subst h
      exact ⟨_, rfl, by omega, by omega, hs⟩
    · rw [if_neg h0] at h ⊢
      by_cases h4 : t.1 = 4
      · rw [if_pos h4] at h ⊢
        injection h with h
        subst h
        exact ⟨_, rfl, (he _).1, (he _).2, hs⟩
      · rw [if_neg h4] at h ⊢
        by_cases h1 : t.1 = 1
        · rw [if_pos h1] at h ⊢
          match s, u, hs, h with
          | a :: s, b :: u, hs, h =>
            simp only at h ⊢
            injection h with h
            subst h
            exact ⟨_, rfl, by have := hs.1; omega, by have := hs.2.1; omega, hs.2.2⟩
        · rw [if_neg h1] at h ⊢
          match s, u, hs, h with
          | b :: a :: s, d :: c :: u, hs, h =>
            simp only at h ⊢
            injection h with h
            subst h
            obtain ⟨q1, q2, q3, q4, q5⟩ := hs
            refine ⟨_, rfl, ?_, ?_, q5⟩
            · split <;> omega
            · by_cases h3 : t.1 = 3
              · by_cases hb : b = 0
                · rw [if_pos ⟨h3, hb⟩]
                  split <;> omega
                · rw [if_neg (fun hh => hb hh.2), if_neg (fun hh => by omega)]
                  omega
              · rw [if_neg (fun hh => h3 hh.1), if_neg (fun hh => h3 hh.1)]
                omega
          | [b], [d], hs, h => simp at h
          | [], [], hs, h => simp at h
  · rw [if_neg hok] at h; cases h
theorem run_mono {e1 e2 : List Int} (he : ∀ i, 0 ≤ e1.getD i 0 ∧ e1.getD i 0 ≤ e2.getD i 0) : ∀ (l : List (Int × Int)) (s u s' : List Int), LeS s u → Lv.run e1 l s = some s' → ∃ u', Lv.run e2 l u = some u' ∧ LeS s' u' := by
  intro l
  induction l with
  | nil =>
    intro s u s' hs h
    simp only [Lv.run] at h ⊢
    injection h with h
    subst h
    exact ⟨u, rfl, hs⟩
  | cons t r ih =>
    intro s u s' hs h
    simp only [Lv.run] at h ⊢
    cases hq : Lv.step e1 t s with
    | none => rw [hq] at h; cases h
    | some s1 =>
      rw [hq, Option.bind_some] at h
      obtain ⟨u1, hu, hl⟩ := step_mono he hs hq
      rw [hu, Option.bind_some]
      exact ih s1 u1 s' hl h
theorem eval_mono {e1 e2 : List Int} {l : List (Int × Int)} (hok : Lv.levelOk l = true) (he : ∀ i, 0 ≤ e1.getD i 0 ∧ e1.getD i 0 ≤ e2.getD i 0) : ∃ v u, Lv.eval e1 l = some v ∧ Lv.eval e2 l = some u ∧ v ≤ u := by
  obtain ⟨v, hv⟩ := Lv.run_of_ok (env := e1) hok
  obtain ⟨u', hu, hl⟩ := run_mono he l [] [] [v] trivial hv
  match u', hu, hl with
  | [u], hu, hl => exact ⟨v, u, by unfold Lv.eval; rw [if_pos hok, hv], by unfold Lv.eval; rw [if_pos hok, hu], hl.2.1⟩

theorem env_all {env : List Int} {m : Int} (h5 : env.length = 5) (h : ∀ j, j < 5 → 0 ≤ env.getD j 0 ∧ env.getD j 0 ≤ m) : ∀ x ∈ env, 0 ≤ x ∧ x ≤ m := by
  intro x hx
  obtain ⟨i, hi, rfl⟩ := List.mem_iff_getElem.1 hx
  have := h i (by omega)
  rwa [List.getD_eq_getElem?_getD, List.getElem?_eq_getElem hi] at this

end Go.Proofs.YtijiohdddfdjfaaDoor

namespace Go.Proofs.YtijiohdddfdjfaaDoor
open Go.RowKit

theorem at_not {a b : World} {base g : Nat} {A : Option Addr} {n c : Nat} {xs : List Value} (h : OwnO a base A n c xs) (hk : Kp g a b) (hne : ∀ k, (Value.slice A n c).ownBlock = some k → k ≠ g) : OwnO b base A n c xs :=
  at_kept h hk fun k hk' e => hne k hk' (by injection e with e; exact e.symm)
theorem at_cap {w : World} {base : Nat} {A : Option Addr} {n c : Nat} {xs : List Value} (h : OwnO w base A n c xs) : n ≤ c := by
  rcases h.2 with ⟨_, h0, _⟩ | ⟨_, _, _, _, _, _, h1, _⟩
  · omega
  · exact h1

/-- the env that the law lays: 0 where the sign says so, one more elsewhere -/
def laidTo (s : Int) (env : List Int) (k : Nat) (j : Nat) : Int := if j < k then (if Sg.has s j = true then env.getD j 0 + 1 else 0) else env.getD j 0

theorem envOf_laid {s : Int} {env env' : List Int} (h5 : env'.length = 5) (he : ∀ i, 0 ≤ env.getD i 0 ∧ env.getD i 0 ≤ 4) (h : ∀ j, env'.getD j 0 = laidTo s env 5 j) : Nm.EnvOf s env' ∧ envOk env' = true := by
  have hj : ∀ j, j < 5 → 0 ≤ env'.getD j 0 ∧ env'.getD j 0 ≤ 5 := by
    intro j hj
    have := he j
    rw [h j]
    unfold laidTo
    rw [if_pos hj]
    split <;> omega
  have hall := env_all h5 hj
  refine ⟨⟨fun x hx => (hall x hx).1, fun p hp => ?_, fun p h0 h5' hp => ?_⟩, envOk_of h5 hall (by omega)⟩
  · have hb := Nm.has_bd hp
    have := he p.toNat
    rw [h, laidTo, if_pos (by omega), show ((p.toNat : Nat) : Int) = p by omega, if_pos hp]
    omega
  · rw [h, laidTo, if_pos (by omega), show ((p.toNat : Nat) : Int) = p by omega, if_neg (by rw [hp]; decide)]

set_option maxRecDepth 100000 in
set_option maxHeartbeats 8000000 in
theorem fnResidual_any (w : World) (B : Nat) (A : Option Addr) (n c : Nat) (T : TypeId) (pv : Value) (h0 : 0 < B) (hB : B ≤ w.heap.size)
    (hb : BytR w B A n) (hE : ErrAt w T pv) :
    Calls Tryd.prog 4 #[.slice A n c] w fun e w' => e = .returned (.bool true) ∧ Below w.heap.size w w' := by
  by_cases hbig : 1048576 < (n : Int)
  · go_enter Tryd.func4, Tryd.ntmps4
    go_wp2_with fail
    refine (big_any w A n c).mono ?_
    rintro e w' ⟨rfl, rfl⟩
    rw [decide_eq_true (by omega)]
    go_wp2
    go_ret
    exact ⟨rfl, Below.refl _ _⟩
  · have hn : n ≤ 1048576 := by omega
    go_enter Tryd.func4, Tryd.ntmps4
    go_wp2_with fail
    refine (big_any w A n c).mono ?_
    rintro e w' ⟨rfl, rfl⟩
    rw [decide_eq_false (by omega)]
    go_wp2_with fail
    refine (drawResidual_any w B A n c hB hb hn).mono ?_
    rintro e w5 ⟨g, cap, l, s, rfl, hl1, hl25, ol5, hB5⟩
    have s5 := hB5.size
    obtain ⟨L, hL⟩ : ∃ L, l.length = L := ⟨_, rfl⟩
    rw [hL] at hl1 hl25 ol5 ⊢
    have HB5 := Lib.hid hB5
    have HL5 := Lib.hid ol5
    have il5 := own_in ol5
    clear ol5 hB5
    go_wp2_with fail
    refine (implResidual_any w5 w5.heap.size (some ⟨g, 0, none⟩) L cap l s T pv (by omega) (Nat.le_refl _) (OwnT.reads HL5.out) (by omega) (hE.below (HB5.out.mono hB) h0)).mono ?_
    rintro e w6 ⟨A6, c6, rfl, ho6, hb6⟩
    have HB6 := Lib.hid (HB5.out.trans (hb6.mono s5))
    have HL6 := Lib.hid (own_below' HL5.out hb6)
    have s6 := HB6.out.size
    have s56 := hb6.size
    have hlen : ((Nm.residR s l).getD []).length ≤ 6 := by
      unfold Nm.residR
      split
      · exact Nm.rnorm_len _
      · simp
    obtain ⟨m, hm⟩ : ∃ m, ((Nm.residR s l).getD []).length = m := ⟨_, rfl⟩
    obtain ⟨ok, hok⟩ : ∃ ok, (Nm.residR s l).isSome = ok := ⟨_, rfl⟩
    rw [hm, hok]
    rw [hm] at ho6 hlen
    have HM := Lib.hid hm
    have HOK := Lib.hid hok
    have HO6 := Lib.hid ho6
    clear hb6 hm hok ho6
    go_wp2_with fail
    refine (specResidual_any w6 w6.heap.size (some ⟨g, 0, none⟩) L cap l s (Nat.le_refl _) (OwnT.reads HL6.out) (by omega)).mono ?_
    rintro e w7 ⟨A7, c7, rfl, ho7, hb7⟩
    rw [HM.out, HOK.out]
    rw [HM.out] at ho7
    have HB7 := Lib.hid (HB6.out.trans (hb7.mono s6))
    have HL7 := Lib.hid (own_below' HL6.out hb7)
    have s7 := HB7.out.size
    have s67 := hb7.size
    have HO67 := Lib.hid (at_below' HO6.out hb7)
    have HO7 := Lib.hid ho7
    clear hb7 ho7
    cases ok with
    | false =>
      go_wp2_with fail
      refine (sameAtoms_any w7 w7.heap.size A6 A7 m m c6 c7 _ _ (Nat.le_refl _) (at_reads HO67.out) (at_reads HO7.out) (by omega) (by omega)).mono ?_
      rintro e w8 ⟨rfl, hb8⟩
      rw [decide_eq_true rfl]
      have HB8 := Lib.hid (HB7.out.trans (hb8.mono s7))
      have HO68 := Lib.hid (at_below' HO67.out hb8)
      have HO8 := Lib.hid (at_below' HO7.out hb8)
      have s8 := HB8.out.size
      clear hb8
      go_wp2_with fail
      refine (sameAtoms_any w8 w8.heap.size A6 A7 m m c6 c7 _ _ (Nat.le_refl _) (at_reads HO68.out) (at_reads HO8.out) (by omega) (by omega)).mono ?_
      rintro e w9 ⟨rfl, hb9⟩
      rw [decide_eq_true rfl]
      have HB9 := Lib.hid (HB8.out.trans (hb9.mono s8))
      clear hb9
      go_wp2
      go_ret
      exact ⟨rfl, HB9.out⟩
    | true =>
      have hres : Lv.levelOk l = true ∧ Sg.isSign s = true := by
        by_cases h : Lv.levelOk l = true ∧ Sg.isSign s = true
        · exact h
        · have := HOK.out
          rw [residR_no h] at this
          cases this
      have HR := Lib.hid (residR_yes hres)
      have HS := Lib.hid hres
      have HRR : Hid ((Nm.residR s l).getD [] = Nm.rnorm (Nm.wl s l)) := by rw [Hid, HR.out]; rfl
      go_wp2_with fail
      refine (sameAtoms_any w7 w7.heap.size A6 A7 m m c6 c7 _ _ (Nat.le_refl _) (at_reads HO67.out) (at_reads HO7.out) (by omega) (by omega)).mono ?_
      rintro e w8 ⟨rfl, hb8⟩
      rw [decide_eq_true rfl]
      have HB8 := Lib.hid (HB7.out.trans (hb8.mono s7))
      have HL8 := Lib.hid (own_below' HL7.out hb8)
      have HO8 := Lib.hid (at_below' HO67.out hb8)
      have i68 := at_in HO67.out
      have s8 := HB8.out.size
      have s78 := hb8.size
      have be8 := hb.below (HB8.out.mono hB)
      clear hb8 HO67 HO7 HL5 HL6 HL7 HO6 HB5 HB6 HB7 hb hres
      go_wp2_with fail
      refine (envs_any w8 B A n c 3 4 (by omega) be8 hn (by omega) (by omega)).mono ?_
      rintro e w9 ⟨g1, cap1, env, rfl, h15, h1e, o19, hb9⟩
      have HB9 := Lib.hid (HB8.out.trans (hb9.mono s8))
      have HL9 := Lib.hid (own_below' HL8.out hb9)
      have HO9 := Lib.hid (at_below' HO8.out hb9)
      have s9 := HB9.out.size
      have s89 := hb9.size
      have hg1 := (o19.lt g1 rfl).1
      have H19 := Lib.hid o19
      have H1E := Lib.hid (fun i => getD_mem h1e (by omega) i)
      clear hb9 HL8 HO8 HB8 be8 o19 h1e
      go_wp2
      go_loopw [10] (fun i wr => ∃ (k : Nat) (env' : List Int), k ≤ 5 ∧ i = .int .i64 k ∧ env'.length = 5 ∧ Hid (∀ j, env'.getD j 0 = laidTo s env k j) ∧ OwnI wr w8.heap.size (some ⟨g1, 0, none⟩) 5 cap1 env' ∧ Kp g1 w9 wr) (fun i _ => 5 - (intOf i).toNat)
      case atStart => exact ⟨0, env, Nat.zero_le _, rfl, h15, (fun j => by unfold laidTo; rw [if_neg (by omega)]), H19.out, Kp.refl _ _⟩
      case round =>
        obtain ⟨k, env', hk, rfl, h5, hag, hown, hkp⟩ := hrel
        by_cases hlt : k < 5
        · have hlt' : (k : Int) < 5 := by omega
          obtain ⟨x3, f3⟩ := ownI_spot hown hlt
          have hgk := hag.out k
          unfold laidTo at hgk
          rw [if_neg (by omega)] at hgk
          have r1 := H1E.out k
          obtain ⟨y, hy⟩ : ∃ y, env.getD k 0 = y := ⟨_, rfl⟩
          rw [hgk, hy] at x3
          rw [hy] at r1
          obtain ⟨r11, r12⟩ := r1
          have HAG : ∀ v : Int, v = (if Sg.has s k = true then y + 1 else 0) → Hid (∀ j, (env'.set k v).getD j 0 = laidTo s env (k + 1) j) := by
            intro v hv j
            by_cases hjk : j = k
            · subst hjk
              rw [List.getD_eq_getElem?_getD, List.getElem?_set_self (by omega), laidTo, if_pos (by omega), hy, ← hv]
              rfl
            · rw [List.getD_eq_getElem?_getD, List.getElem?_set_ne (fun e => hjk e.symm), ← List.getD_eq_getElem?_getD, hag.out j]
              unfold laidTo
              by_cases hj : j < k
              · rw [if_pos hj, if_pos (show j < k + 1 by omega)]
              · rw [if_neg hj, if_neg (show ¬ j < k + 1 by omega)]
          have hlen' : ∀ v : Int, (env'.set k v).length = 5 := fun v => by simp [h5]
          have HO := fun v : Int => Lib.hid (ownI_put (i := k) hown v)
          have HK := fun v : Int => Lib.hid (hkp.trans (Kp.put wr g1 k (.int .i64 v)))
          clear hown hkp hy hag hgk
          go_wp2_with fail
          refine (implSignHas_any wr s k).mono ?_
          rintro e w' ⟨rfl, rfl⟩
          cases hh : Sg.has s k with
          | false =>
            have HAG0 := HAG 0 (by rw [hh, if_neg (by decide)])
            have HO0 := HO 0
            have HK0 := HK 0
            clear HAG HO HK hh
            go_wp2
            go_roundw
            case rel => exact ⟨k + 1, env'.set k 0, by omega, by go_num, hlen' 0, HAG0.out, HO0.out, HK0.out⟩
            case measure => simp [intOf]; omega
          | true =>
            have HAG0 := HAG (y + 1) (by rw [hh, if_pos rfl])
            have HO0 := HO (y + 1)
            have HK0 := HK (y + 1)
            clear HAG HO HK hh
            go_wp2
            go_roundw
            case rel => exact ⟨k + 1, env'.set k (y + 1), by omega, by go_num, hlen' _, HAG0.out, HO0.out, HK0.out⟩
            case measure => simp [intOf]; omega
        · obtain rfl : k = 5 := by omega
          have HLr := Lib.hid (own_not HL9.out hkp (fun q hq => by have := il5 q hq; omega))
          have HOr := Lib.hid (at_not HO9.out hkp (fun q hq => by have := i68 q hq; omega))
          have HBr := Lib.hid (Kp.below HB9.out hkp (by omega) s9)
          have HEr := Lib.hid (hE.below (HBr.out.mono hB) h0)
          have HVr := Lib.hid hown
          have sr := HBr.out.size
          obtain ⟨hof, hok5⟩ := envOf_laid h5 H1E.out hag.out
          obtain ⟨hwl0, hwl1, hwl2⟩ := wl_fine (s := s) HS.out.1
          have hev := Nm.eval_resid hof HS.out.1
          have hrk : Nm.residOk s (Nm.rnorm (Nm.wl s l)) = true := (Nm.residOk_iff _ _).2 (Nm.rnorm_rok HS.out.2 hwl0 hwl1 hwl2)
          have hsg := Nm.sgR_of HS.out.2 hok5 hof
          rw [← HRR.out] at hev hrk
          obtain ⟨R, hR⟩ : ∃ R, (Nm.residR s l).getD [] = R := ⟨_, rfl⟩
          rw [hR] at hev hrk HOr
          obtain ⟨V, hV⟩ : ∃ V, Nm.value env' R = V := ⟨_, rfl⟩
          have HEV : Hid (evalR env' l = some V) := by rw [Hid, ← hV]; unfold evalR; rw [if_pos hok5]; exact hev
          have HRV : Hid (revR R env' = some V) := by rw [Hid, ← hV]; exact revR_yes (by rw [hsg]; exact hrk)
          have HRK := Lib.hid hrk
          have hmc : m ≤ c6 := at_cap HOr.out
          have hm6 : ¬ ((6 : Int) < m) := by omega
          clear hag hkp hown hof hok5 hev hrk hsg hV hR HL9 HO9 HB9 H19 HRR HR HS hwl0 hwl1 hwl2
          go_wp2_with fail
          refine (levelEval_any wr wr.heap.size _ _ L cap 5 cap1 env' l T pv (by omega) (Nat.le_refl _) (OwnT.reads HLr.out) (by omega) (OwnI.reads HVr.out) (by omega) HEr.out).mono ?_
          rintro e wa ⟨rfl, hba⟩
          rw [HEV.out]
          unfold evalV
          have HBa := Lib.hid (HBr.out.trans (hba.mono sr))
          have HOa := Lib.hid (at_below' HOr.out hba)
          have HVa := Lib.hid (own_below' HVr.out hba)
          have sa := HBa.out.size
          clear hba HLr HOr HVr HBr
          go_wp2_with fail
          refine (implResidEval_any wa wa.heap.size A6 m c6 R _ 5 cap1 env' (Nat.le_refl _) (at_reads HOa.out) (by omega) hmc (OwnI.reads HVa.out) (by omega)).mono ?_
          rintro e wb ⟨rfl, hbb⟩
          unfold revV
          rw [HRV.out]
          have HBb := Lib.hid (HBa.out.trans (hbb.mono sa))
          have HOb := Lib.hid (at_below' HOa.out hbb)
          have sb := HBb.out.size
          clear hbb HOa HVa HBa
          simp only [Option.getD_some, Option.isSome_some]
          go_wp2_with fail
          refine (implResidOk_any wb wb.heap.size A6 m c6 R s (Nat.le_refl _) (at_reads HOb.out) (by omega) hmc).mono ?_
          rintro e wc ⟨rfl, hbc⟩
          rw [HRK.out]
          have HBc := Lib.hid (HBb.out.trans (hbc.mono sb))
          clear hbc HOb HBb
          go_wp2
          go_ret
          exact ⟨ret_bool (by simp), HBc.out⟩
end Go.Proofs.YtijiohdddfdjfaaDoor
