/- A pile of rows of tokens, each in a block of its own. -/
import Derived.Test.YtijiohdddfdjfaaDoorTMath
import Derived.Test.YtijiohdddfdjfaaDoorSRes
namespace Go.Proofs.YtijiohdddfdjfaaDoor
open Go.RowKit

theorem info_toks : (Tryd.prog.info? 24).map (fun i => (i.zero, i.size, i.bytes)) = some (some (.slice none 0 0), 1, 24) := by kernel_rfl
/-- a pile of rows of tokens, its bottom first -/
def PileT (w : World) (base : Nat) (v : Value) (D : Nat) (bs : List (List (Int × Int))) (vals : List Value) (G C : Nat → Nat) : Prop :=
  bs.length = D ∧ w.ownsRow base 24 1 v D vals ∧ (∀ i j, i < D → j < D → i ≠ j → G i ≠ G j) ∧
    ∀ i, i < D → vals[i]? = some (Value.slice (some ⟨G i, 0, none⟩) (bs.getD i []).length (C i)) ∧ OwnT w base (some ⟨G i, 0, none⟩) (bs.getD i []).length (C i) (bs.getD i [])
section
variable {w w' : World} {base D g c : Nat} {v : Value} {bs : List (List (Int × Int))} {vals : List Value} {G C : Nat → Nat}
theorem PileT.below (h : PileT w base v D bs vals G C) (hb : Below w.heap.size w w') : PileT w' base v D bs vals G C :=
  ⟨h.1, own_below' h.2.1 hb, h.2.2.1, fun i hi => ⟨(h.2.2.2 i hi).1, own_below' (h.2.2.2 i hi).2 hb⟩⟩
theorem PileT.lt (h : PileT w base v D bs vals G C) {i : Nat} (hi : i < D) : base ≤ G i ∧ G i < w.heap.size := (h.2.2.2 i hi).2.lt (G i) rfl
theorem PileT.take (h : PileT w base (.slice (some ⟨g, 0, none⟩) D c) D bs vals G C) {m : Nat} (hm : m ≤ D) : PileT w base (.slice (some ⟨g, 0, none⟩) m c) m (bs.take m) (vals.take m) G C := by
  refine ⟨by rw [List.length_take, h.1]; omega, own_take h.2.1 hm, fun i j hi hj => h.2.2.1 i j (by omega) (by omega), fun i hi => ?_⟩
  have h1 := h.2.2.2 i (by omega)
  have e : (bs.take m).getD i [] = bs.getD i [] := by rw [List.getD_eq_getElem?_getD, List.getElem?_take_of_lt hi, ← List.getD_eq_getElem?_getD]
  rw [e]
  exact ⟨by rw [List.getElem?_take_of_lt hi]; exact h1.1, h1.2⟩
theorem PileT.push {x : List (Int × Int)} {gx cx : Nat} {v' : Value} (h : PileT w base v D bs vals G C) (ho : OwnT w base (some ⟨gx, 0, none⟩) x.length cx x) (hne : ∀ i, i < D → G i ≠ gx)
    (hg : w.grownBy w' v.ownBlock) (hown : w'.ownsRow base 24 1 v' (D + 1) (vals ++ [Value.slice (some ⟨gx, 0, none⟩) x.length cx])) :
    PileT w' base v' (D + 1) (bs ++ [x]) (vals ++ [Value.slice (some ⟨gx, 0, none⟩) x.length cx]) (fun i => if i = D then gx else G i) (fun i => if i = D then cx else C i) := by
  have hvl : vals.length = D := by have := h.2.1.1; omega
  have hk : ∀ {gy cy : Nat} {y : List (Int × Int)}, OwnT w base (some ⟨gy, 0, none⟩) y.length cy y → OwnT w' base (some ⟨gy, 0, none⟩) y.length cy y := fun q => q.kept hg (own_apartK q h.2.1 (by decide))
  refine ⟨by rw [List.length_append, h.1]; rfl, hown, fun i j hi hj hij => ?_, fun i hi => ?_⟩
  · simp only []
    by_cases e1 : i = D <;> by_cases e2 : j = D
    · omega
    · rw [if_pos e1, if_neg e2]; exact fun e => hne j (by omega) e.symm
    · rw [if_neg e1, if_pos e2]; exact hne i (by omega)
    · rw [if_neg e1, if_neg e2]; exact h.2.2.1 i j (by omega) (by omega) hij
  · simp only []
    by_cases e : i = D
    · subst e
      rw [if_pos rfl, if_pos rfl]
      have e2 : (bs ++ [x]).getD i [] = x := by rw [List.getD_eq_getElem?_getD, List.getElem?_append_right (by rw [h.1]; exact Nat.le_refl _), h.1, Nat.sub_self]; rfl
      rw [e2]
      exact ⟨by rw [List.getElem?_append_right (by omega), hvl, Nat.sub_self]; rfl, hk ho⟩
    · rw [if_neg e, if_neg e]
      have h1 := h.2.2.2 i (by omega)
      have e2 : (bs ++ [x]).getD i [] = bs.getD i [] := by rw [List.getD_eq_getElem?_getD, List.getElem?_append_left (by rw [h.1]; omega), ← List.getD_eq_getElem?_getD]
      rw [e2]
      exact ⟨by rw [List.getElem?_append_left (by omega)]; exact h1.1, hk h1.2⟩
/-- one row is put anew -/
theorem PileT.put {x : List (Int × Int)} {gx cx i : Nat} (h : PileT w base (.slice (some ⟨g, 0, none⟩) D c) D bs vals G C) (hi : i < D) (ho : OwnT w base (some ⟨gx, 0, none⟩) x.length cx x) (hne : ∀ j, j < D → j ≠ i → G j ≠ gx) :
    PileT (w.setCell ⟨g, i, none⟩ (.slice (some ⟨gx, 0, none⟩) x.length cx)) base (.slice (some ⟨g, 0, none⟩) D c) D (bs.set i x) (vals.set i (.slice (some ⟨gx, 0, none⟩) x.length cx)) (fun j => if j = i then gx else G j) (fun j => if j = i then cx else C j) := by
  have hvl : vals.length = D := by have := h.2.1.1; omega
  have hk : ∀ {gy cy : Nat} {y : List (Int × Int)}, OwnT w base (some ⟨gy, 0, none⟩) y.length cy y → OwnT (w.setCell ⟨g, i, none⟩ (.slice (some ⟨gx, 0, none⟩) x.length cx)) base (some ⟨gy, 0, none⟩) y.length cy y := fun q => q.kept (put_grown w g i _) (own_apartK q h.2.1 (by decide))
  refine ⟨by rw [List.length_set, h.1], own_put h.2.1 i _, fun a b ha hb hab => ?_, fun j hj => ?_⟩
  · simp only []
    by_cases e1 : a = i <;> by_cases e2 : b = i
    · omega
    · rw [if_pos e1, if_neg e2]; exact fun e => hne b hb e2 e.symm
    · rw [if_neg e1, if_pos e2]; exact hne a ha e1
    · rw [if_neg e1, if_neg e2]; exact h.2.2.1 a b ha hb hab
  · simp only []
    by_cases e : j = i
    · subst e
      rw [if_pos rfl, if_pos rfl]
      have e2 : (bs.set j x).getD j [] = x := by rw [List.getD_eq_getElem?_getD, List.getElem?_set_self (by rw [h.1]; exact hj)]; rfl
      rw [e2]
      exact ⟨by rw [List.getElem?_set_self (by omega)], hk ho⟩
    · rw [if_neg e, if_neg e]
      have h1 := h.2.2.2 j hj
      have e2 : (bs.set i x).getD j [] = bs.getD j [] := by rw [List.getD_eq_getElem?_getD, List.getElem?_set_ne (fun q => e q.symm), ← List.getD_eq_getElem?_getD]
      rw [e2]
      exact ⟨by rw [List.getElem?_set_ne (fun q => e q.symm)]; exact h1.1, hk h1.2⟩
/-- one row has been written on -/
theorem PileT.grown {x : List (Int × Int)} {gx cx i : Nat} (h : PileT w base (.slice (some ⟨g, 0, none⟩) D c) D bs vals G C) (hi : i < D) (hg : w.grownBy w' (some (G i))) (ho : OwnT w' base (some ⟨gx, 0, none⟩) x.length cx x) (hx : gx = G i ∨ w.heap.size ≤ gx) :
    PileT (w'.setCell ⟨g, i, none⟩ (.slice (some ⟨gx, 0, none⟩) x.length cx)) base (.slice (some ⟨g, 0, none⟩) D c) D (bs.set i x) (vals.set i (.slice (some ⟨gx, 0, none⟩) x.length cx)) (fun j => if j = i then gx else G j) (fun j => if j = i then cx else C j) := by
  have hvl : vals.length = D := by have := h.2.1.1; omega
  have hp : w'.ownsRow base 24 1 (.slice (some ⟨g, 0, none⟩) D c) D vals := h.2.1.kept hg (own_apartK h.2.1 (h.2.2.2 i hi).2 (by decide))
  have hk : ∀ {gy cy : Nat} {y : List (Int × Int)}, OwnT w' base (some ⟨gy, 0, none⟩) y.length cy y → OwnT (w'.setCell ⟨g, i, none⟩ (.slice (some ⟨gx, 0, none⟩) x.length cx)) base (some ⟨gy, 0, none⟩) y.length cy y := fun q => q.kept (put_grown w' g i _) (own_apartK q hp (by decide))
  have hne : ∀ j, j < D → j ≠ i → G j ≠ gx := by
    intro j hj hji e
    rcases hx with hx | hx
    · exact h.2.2.1 j i hj hi hji (e.trans hx)
    · have := (h.lt hj).2; omega
  refine ⟨by rw [List.length_set, h.1], own_put hp i _, fun a b ha hb hab => ?_, fun j hj => ?_⟩
  · simp only []
    by_cases e1 : a = i <;> by_cases e2 : b = i
    · omega
    · rw [if_pos e1, if_neg e2]; exact fun e => hne b hb e2 e.symm
    · rw [if_neg e1, if_pos e2]; exact hne a ha e1
    · rw [if_neg e1, if_neg e2]; exact h.2.2.1 a b ha hb hab
  · simp only []
    by_cases e : j = i
    · subst e
      rw [if_pos rfl, if_pos rfl]
      have e2 : (bs.set j x).getD j [] = x := by rw [List.getD_eq_getElem?_getD, List.getElem?_set_self (by rw [h.1]; exact hj)]; rfl
      rw [e2]
      exact ⟨by rw [List.getElem?_set_self (by omega)], hk ho⟩
    · rw [if_neg e, if_neg e]
      have h1 := h.2.2.2 j hj
      have e2 : (bs.set i x).getD j [] = bs.getD j [] := by rw [List.getD_eq_getElem?_getD, List.getElem?_set_ne (fun q => e q.symm), ← List.getD_eq_getElem?_getD]
      rw [e2]
      refine ⟨by rw [List.getElem?_set_ne (fun q => e q.symm)]; exact h1.1, hk (h1.2.kept hg (.inr ?_))⟩
      intro q
      have : G j = G i := by simpa [Value.ownBlock] using q
      exact h.2.2.1 j i hj hi e this
theorem PileT.at {i : Nat} (h : PileT w base (.slice (some ⟨g, 0, none⟩) D c) D bs vals G C) (hi : i < D) : w.cell? ⟨g, i, none⟩ = some (.slice (some ⟨G i, 0, none⟩) (bs.getD i []).length (C i)) := by
  have hk := h.2.1.cells (g := g) rfl i _ (h.2.2.2 i hi).1
  rw [own_adds] at hk
  exact hk
end
theorem rev_top {α : Type} (x : α) (r : List α) (d : Nat) (hd : r.length = d) (dflt : α) : (x :: r).reverse.getD d dflt = x ∧ ∀ y, (x :: r).reverse.set d y = (y :: r).reverse := by
  subst hd
  refine ⟨?_, fun y => ?_⟩
  · rw [List.reverse_cons, List.getD_eq_getElem?_getD, List.getElem?_append_right (by simp), List.length_reverse, Nat.sub_self]; rfl
  · rw [List.reverse_cons, List.reverse_cons, List.set_append_right _ _ (by simp), List.length_reverse, Nat.sub_self]; rfl
theorem rev_two {α : Type} (b a : α) (r : List α) (d : Nat) (hd : r.length = d) (dflt : α) : (b :: a :: r).reverse.getD d dflt = a ∧ (b :: a :: r).reverse.getD (d + 1) dflt = b ∧ ∀ y, ((b :: a :: r).reverse.set d y).take (d + 1) = (y :: r).reverse := by
  refine ⟨?_, (rev_top b (a :: r) (d + 1) (by simp [hd]) dflt).1, fun y => ?_⟩
  · have h := (rev_top a r d hd dflt).1
    rw [List.reverse_cons, List.getD_eq_getElem?_getD, List.getElem?_append_left (by simp; omega), ← List.getD_eq_getElem?_getD]
    exact h
  · have h := (rev_top a r d hd a).2 y
    rw [List.reverse_cons, List.set_append_left _ _ (by simp; omega), h, List.take_append_of_le_length (by simp; omega), List.take_of_length_le (by simp; omega)]
end Go.Proofs.YtijiohdddfdjfaaDoor
