/- A pile of rows of tokens, each in a block of its own. -/
/- A pile of rows of atoms that may begin inside their blocks; the steps of the pile for a sign. -/
/- slices.Repeat of one token, up to a thousand times. -/
/- The program's tokens of an atom. -/
import Derived.Test.YtghoofgfimeedaaDoorOwnO
import Derived.Test.YtghoofgfimeedaaDoorSRes
import Derived.Test.YtghoofgfimeedaaDoorNFree2
import Derived.Test.YtghoofgfimeedaaDoorJoin
import Derived.Test.YtghoofgfimeedaaDoorNUp
import Derived.Test.YtghoofgfimeedaaDoorRsMath2

namespace Go.Proofs.YtghoofgfimeedaaDoor
open Go.RowKit

theorem info_toks : (Tryd.prog.info? 24).map (fun i => (i.zero, i.size, i.bytes)) = some (some (.slice none 0 0), 1, 24) := by kernel_rfl
/-- a pile of rows of tokens, its bottom first -/
def PileT (w : World) (base : Nat) (v : Value) (D : Nat) (bs : List (List (Int × Int))) (vals : List Value) (G C : Nat → Nat) : Prop :=
  bs.length = D ∧ w.ownsRow base 24 1 v D vals ∧ (∀ i j, i < D → j < D → i ≠ j → G i ≠ G j) ∧
    ∀ i, i < D → vals[i]? = some (Value.slice (some ⟨G i, 0, none⟩) (bs.getD i []).length (C i)) ∧ OwnT w base (some ⟨G i, 0, none⟩) (bs.getD i []).length (C i) (bs.getD i [])
section
variable {w w' : World} {base D g c : Nat} {v : Value} {bs : List (List (Int × Int))} {vals : List Value} {G C : Nat → Nat}
theorem PileT.below (h : PileT w base v D bs vals G C) (hb : Below w.heap.size w w') : PileT w' base v D bs vals G C :=
  ⟨h.1, own_below' h.2.1 hb, h.2.2.1, fun i hi => ⟨(h.2.2.2 i hi).1, own_below' (h.2.2.2 i hi).2 hb⟩⟩
theorem PileT.lt (h : PileT w base v D bs vals G C) {i : Nat} (hi : i < D) : base ≤ G i ∧ G i < w.heap.size := (h.2.2.2 i hi).2.lt (G i) rfl
theorem PileT.take (h : PileT w base (.slice (some ⟨g, 0, none⟩) D c) D bs vals G C) {m : Nat} (hm : m ≤ D) : PileT w base (.slice (some ⟨g, 0, none⟩) m c) m (bs.take m) (vals.take m) G C := by
  refine ⟨by rw [List.length_take, h.1]; omega, own_take h.2.1 hm, fun i j hi hj => h.2.2.1 i j (by omega) (by omega), fun i hi => ?_⟩
  have h1 := h.2.2.2 i (by omega)
  have e : (bs.take m).getD i [] = bs.getD i [] := by rw [List.getD_eq_getElem?_getD, List.getElem?_take_of_lt hi, ← List.getD_eq_getElem?_getD]
  rw [e]
  exact ⟨by rw [List.getElem?_take_of_lt hi]; exact h1.1, h1.2⟩
theorem PileT.push {x : List (Int × Int)} {gx cx : Nat} {v' : Value} (h : PileT w base v D bs vals G C) (ho : OwnT w base (some ⟨gx, 0, none⟩) x.length cx x) (hne : ∀ i, i < D → G i ≠ gx)
    (hg : w.grownBy w' v.ownBlock) (hown : w'.ownsRow base 24 1 v' (D + 1) (vals ++ [Value.slice (some ⟨gx, 0, none⟩) x.length cx])) :
    PileT w' base v' (D + 1) (bs ++ [x]) (vals ++ [Value.slice (some ⟨gx, 0, none⟩) x.length cx]) (fun i => if i = D then gx else G i) (fun i => if i = D then cx else C i) := by
  have hvl : vals.length = D := by have := h.2.1.1; omega
  have hk : ∀ {gy cy : Nat} {y : List (Int × Int)}, OwnT w base (some ⟨gy, 0, none⟩) y.length cy y → OwnT w' base (some ⟨gy, 0, none⟩) y.length cy y := fun q => q.kept hg (own_apartK q h.2.1 (by decide))
  refine ⟨by rw [List.length_append, h.1]; rfl, hown, fun i j hi hj hij => ?_, fun i hi => ?_⟩
  · simp only []
    by_cases e1 : i = D <;> by_cases e2 : j = D
    · omega
    · rw [if_pos e1, if_neg e2]; exact fun e => hne j (by omega) e.symm
    · rw [if_neg e1, if_pos e2]; exact hne i (by omega)
    · rw [if_neg e1, if_neg e2]; exact h.2.2.1 i j (by omega) (by omega) hij
  · simp only []
    by_cases e : i = D
    · subst e
      rw [if_pos rfl, if_pos rfl]
      have e2 : (bs ++ [x]).getD i [] = x := by rw [List.getD_eq_getElem?_getD, List.getElem?_append_right (by rw [h.1]; exact Nat.le_refl _), h.1, Nat.sub_self]; rfl
      rw [e2]
      exact ⟨by rw [List.getElem?_append_right (by omega), hvl, Nat.sub_self]; rfl, hk ho⟩
    · rw [if_neg e, if_neg e]
      have h1 := h.2.2.2 i (by omega)
      have e2 : (bs ++ [x]).getD i [] = bs.getD i [] := by rw [List.getD_eq_getElem?_getD, List.getElem?_append_left (by rw [h.1]; omega), ← List.getD_eq_getElem?_getD]
      rw [e2]
      exact ⟨by rw [List.getElem?_append_left (by omega)]; exact h1.1, hk h1.2⟩
/-- one row is put anew -/
theorem PileT.put {x : List (Int × Int)} {gx cx i : Nat} (h : PileT w base (.slice (some ⟨g, 0, none⟩) D c) D bs vals G C) (hi : i < D) (ho : OwnT w base (some ⟨gx, 0, none⟩) x.length cx x) (hne : ∀ j, j < D → j ≠ i → G j ≠ gx) :
    PileT (w.setCell ⟨g, i, none⟩ (.slice (some ⟨gx, 0, none⟩) x.length cx)) base (.slice (some ⟨g, 0, none⟩) D c) D (bs.set i x) (vals.set i (.slice (some ⟨gx, 0, none⟩) x.length cx)) (fun j => if j = i then gx else G j) (fun j => if j = i then cx else C j) := by
  have hvl : vals.length = D := by have := h.2.1.1; omega
  have hk : ∀ {gy cy : Nat} {y : List (Int × Int)}, OwnT w base (some ⟨gy, 0, none⟩) y.length cy y → OwnT (w.setCell ⟨g, i, none⟩ (.slice (some ⟨gx, 0, none⟩) x.length cx)) base (some ⟨gy, 0, none⟩) y.length cy y := fun q => q.kept (put_grown w g i _) (own_apartK q h.2.1 (by decide))
  refine ⟨by rw [List.length_set, h.1], own_put h.2.1 i _, fun a b ha hb hab => ?_, fun j hj => ?_⟩
  · simp only []
    by_cases e1 : a = i <;> by_cases e2 : b = i
    · omega
    · rw [if_pos e1, if_neg e2]; exact fun e => hne b hb e2 e.symm
    · rw [if_neg e1, if_pos e2]; exact hne a ha e1
    · rw [if_neg e1, if_neg e2]; exact h.2.2.1 a b ha hb hab
  · simp only []
    by_cases e : j = i
    · subst e
      rw [if_pos rfl, if_pos rfl]
      have e2 : (bs.set j x).getD j [] = x := by rw [List.getD_eq_getElem?_getD, List.getElem?_set_self (by rw [h.1]; exact hj)]; rfl
      rw [e2]
      exact ⟨by rw [List.getElem?_set_self (by omega)], hk ho⟩
    · rw [if_neg e, if_neg e]
      have h1 := h.2.2.2 j hj
      have e2 : (bs.set i x).getD j [] = bs.getD j [] := by rw [List.getD_eq_getElem?_getD, List.getElem?_set_ne (fun q => e q.symm), ← List.getD_eq_getElem?_getD]
      rw [e2]
      exact ⟨by rw [List.getElem?_set_ne (fun q => e q.symm)]; exact h1.1, hk h1.2⟩
/-- one row has been written on -/
theorem PileT.grown {x : List (Int × Int)} {gx cx i : Nat} (h : PileT w base (.slice (some ⟨g, 0, none⟩) D c) D bs vals G C) (hi : i < D) (hg : w.grownBy w' (some (G i))) (ho : OwnT w' base (some ⟨gx, 0, none⟩) x.length cx x) (hx : gx = G i ∨ w.heap.size ≤ gx) :
    PileT (w'.setCell ⟨g, i, none⟩ (.slice (some ⟨gx, 0, none⟩) x.length cx)) base (.slice (some ⟨g, 0, none⟩) D c) D (bs.set i x) (vals.set i (.slice (some ⟨gx, 0, none⟩) x.length cx)) (fun j => if j = i then gx else G j) (fun j => if j = i then cx else C j) := by
  have hvl : vals.length = D := by have := h.2.1.1; omega
  have hp : w'.ownsRow base 24 1 (.slice (some ⟨g, 0, none⟩) D c) D vals := h.2.1.kept hg (own_apartK h.2.1 (h.2.2.2 i hi).2 (by decide))
  have hk : ∀ {gy cy : Nat} {y : List (Int × Int)}, OwnT w' base (some ⟨gy, 0, none⟩) y.length cy y → OwnT (w'.setCell ⟨g, i, none⟩ (.slice (some ⟨gx, 0, none⟩) x.length cx)) base (some ⟨gy, 0, none⟩) y.length cy y := fun q => q.kept (put_grown w' g i _) (own_apartK q hp (by decide))
  have hne : ∀ j, j < D → j ≠ i → G j ≠ gx := by
    intro j hj hji e
    rcases hx with hx | hx
    · exact h.2.2.1 j i hj hi hji (e.trans hx)
    · have := (h.lt hj).2; omega
  refine ⟨by rw [List.length_set, h.1], own_put hp i _, fun a b ha hb hab => ?_, fun j hj => ?_⟩
  · simp only []
    by_cases e1 : a = i <;> by_cases e2 : b = i
    · omega
    · rw [if_pos e1, if_neg e2]; exact fun e => hne b hb e2 e.symm
    · rw [if_neg e1, if_pos e2]; exact hne a ha e1
    · rw [if_neg e1, if_neg e2]; exact h.2.2.1 a b ha hb hab
  · simp only []
    by_cases e : j = i
    · subst e
      rw [if_pos rfl, if_pos rfl]
      have e2 : (bs.set j x).getD j [] = x := by rw [List.getD_eq_getElem?_getD, List.getElem?_set_self (by rw [h.1]; exact hj)]; rfl
      rw [e2]
      exact ⟨by rw [List.getElem?_set_self (by omega)], hk ho⟩
    · rw [if_neg e, if_neg e]
      have h1 := h.2.2.2 j hj
      have e2 : (bs.set i x).getD j [] = bs.getD j [] := by rw [List.getD_eq_getElem?_getD, List.getElem?_set_ne (fun q => e q.symm), ← List.getD_eq_getElem?_getD]
      rw [e2]
      refine ⟨by rw [List.getElem?_set_ne (fun q => e q.symm)]; exact h1.1, hk (h1.2.kept hg (.inr ?_))⟩
      intro q
      have : G j = G i := by simpa [Value.ownBlock] using q
      exact h.2.2.1 j i hj hi e this
theorem PileT.at {i : Nat} (h : PileT w base (.slice (some ⟨g, 0, none⟩) D c) D bs vals G C) (hi : i < D) : w.cell? ⟨g, i, none⟩ = some (.slice (some ⟨G i, 0, none⟩) (bs.getD i []).length (C i)) := by
  have hk := h.2.1.cells (g := g) rfl i _ (h.2.2.2 i hi).1
  rw [own_adds] at hk
  exact hk
end
theorem rev_top {α : Type} (x : α) (r : List α) (d : Nat) (hd : r.length = d) (dflt : α) : (x :: r).reverse.getD d dflt = x ∧ ∀ y, (x :: r).reverse.set d y = (y :: r).reverse := by
  subst hd
  refine ⟨?_, fun y => ?_⟩
  · rw [List.reverse_cons, List.getD_eq_getElem?_getD, List.getElem?_append_right (by simp), List.length_reverse, Nat.sub_self]; rfl
  · rw [List.reverse_cons, List.reverse_cons, List.set_append_right _ _ (by simp), List.length_reverse, Nat.sub_self]; rfl
theorem rev_two {α : Type} (b a : α) (r : List α) (d : Nat) (hd : r.length = d) (dflt : α) : (b :: a :: r).reverse.getD d dflt = a ∧ (b :: a :: r).reverse.getD (d + 1) dflt = b ∧ ∀ y, ((b :: a :: r).reverse.set d y).take (d + 1) = (y :: r).reverse := by
  refine ⟨?_, (rev_top b (a :: r) (d + 1) (by simp [hd]) dflt).1, fun y => ?_⟩
  · have h := (rev_top a r d hd dflt).1
    rw [List.reverse_cons, List.getD_eq_getElem?_getD, List.getElem?_append_left (by simp; omega), ← List.getD_eq_getElem?_getD]
    exact h
  · have h := (rev_top a r d hd a).2 y
    rw [List.reverse_cons, List.set_append_left _ _ (by simp; omega), h, List.take_append_of_le_length (by simp; omega), List.take_of_length_le (by simp; omega)]
end Go.Proofs.YtghoofgfimeedaaDoor

namespace Go.Proofs.YtghoofgfimeedaaDoor
open Go.RowKit

namespace Nm
theorem wstep_ok {s : Int} {t : At} {st st' : List (List At)} (h : wstep s t st = some st') : Lv.tkOk t = true := by
  unfold wstep at h
  by_cases hok : Lv.tkOk t = true
  · exact hok
  · rw [if_neg hok] at h; cases h
theorem wstep_zero {s y : Int} {st st' : List (List At)} (h : wstep s (0, y) st = some st') : st' = [(-1, 0)] :: st := by
  have hok := wstep_ok h
  unfold wstep at h
  rw [if_pos hok] at h
  simp at h
  exact h.symm
theorem wstep_par {s y : Int} {st st' : List (List At)} (h : wstep s (4, y) st = some st') : st' = [pl s (y, 0)] :: st := by
  have hok := wstep_ok h
  unfold wstep at h
  rw [if_pos hok] at h
  simp at h
  exact h.symm
theorem wstep_succ {s y : Int} {st st' : List (List At)} (h : wstep s (1, y) st = some st') : ∃ a r, st = a :: r ∧ st' = up 1 a :: r := by
  have hok := wstep_ok h
  unfold wstep at h
  rw [if_pos hok] at h
  match st, h with
  | a :: r, h => simp at h; exact ⟨a, r, rfl, h.symm⟩
  | [], h => simp at h
theorem wstep_two {s op y : Int} {st st' : List (List At)} (h : wstep s (op, y) st = some st') (ho : op = 2 ∨ op = 3) : ∃ a b r, st = b :: a :: r ∧ st' = (if op = 3 ∧ zeroL b = true then [(-1, 0)] else a ++ b) :: r := by
  have hok := wstep_ok h
  unfold wstep at h
  rw [if_pos hok, if_neg (by simp; omega), if_neg (by simp; omega), if_neg (by simp; omega)] at h
  match st, h with
  | b :: a :: r, h => simp only at h; injection h with h; exact ⟨a, b, r, rfl, h.symm⟩
  | [b], h => simp at h
  | [], h => simp at h
end Nm

theorem o_apart {w : World} {base base' : Nat} {A : Option Addr} {n c n' size' : Nat} {xs ys : List Value} {e' : TypeId} {u : Value} (h : OwnO w base A n c xs) (h' : w.ownsRow base' e' size' u n' ys) (hne : 67 ≠ e') : ∀ k, (Value.slice A n c).ownBlock = some k → u.ownBlock ≠ some k := by
  intro k hk hu
  obtain ⟨cs, hb⟩ := own_blk h' k hu
  rcases h.2 with ⟨rfl, _⟩ | ⟨g, o, cur, rfl, _, hblk, _⟩
  · cases hk
  · have : g = k := by simpa [Value.ownBlock] using hk
    subst this
    have e := hblk.symm.trans hb
    injection e with e
    injection e with _ e
    exact hne e
/-- a pile of rows of atoms, its top first -/
def PileO (w : World) (base g D c : Nat) (cs : List (List (Int × Int))) : Prop :=
  cs.length = D ∧ ∃ vals : List Value, w.ownsRow base 26 1 (.slice (some ⟨g, 0, none⟩) D c) D vals ∧
    ∀ (i : Nat) (a : List (Int × Int)), cs.reverse[i]? = some a → ∃ A ca, vals[i]? = some (Value.slice A a.length ca) ∧ OwnO w base A a.length ca (tokCells a)
theorem PileO.below {w w' : World} {base g D c : Nat} {cs : List (List (Int × Int))} (h : PileO w base g D c cs) (hb : Below w.heap.size w w') : PileO w' base g D c cs := by
  obtain ⟨h1, vals, h2, h3⟩ := h
  refine ⟨h1, vals, own_below' h2 hb, fun i a ha => ?_⟩
  obtain ⟨ga, ca, q1, q2⟩ := h3 i a ha
  exact ⟨ga, ca, q1, at_below' q2 hb⟩
theorem PileO.alloc {w : World} {base g D c : Nat} {cs : List (List (Int × Int))} (h : PileO w base g D c cs) (o : Obj) : PileO (w.alloc o) base g D c cs :=
  h.below ((Below.refl _ _).alloc (Nat.le_refl _) o)
theorem PileO.drew {w : World} {base g D c : Nat} {cs : List (List (Int × Int))} (h : PileO w base g D c cs) : PileO w.drew base g D c cs := h
theorem PileO.drop {w : World} {base g D c : Nat} {cs : List (List (Int × Int))} (h : PileO w base g D c cs) (k : Nat) (hk : k ≤ D) : PileO w base g (D - k) c (cs.drop k) := by
  obtain ⟨h1, vals, h2, h3⟩ := h
  refine ⟨by rw [List.length_drop, h1], vals.take (D - k), own_take h2 (by omega), fun i a ha => ?_⟩
  rw [List.reverse_drop, h1] at ha
  have hi : i < D - k := by
    have := (List.getElem?_eq_some_iff.1 ha).1
    rw [List.length_take] at this
    omega
  rw [List.getElem?_take_of_lt hi] at ha
  obtain ⟨ga, ca, q1, q2⟩ := h3 i a ha
  exact ⟨ga, ca, by rw [List.getElem?_take_of_lt hi]; exact q1, q2⟩
theorem PileO.push {w w' : World} {base g D c ca : Nat} {A : Option Addr} {cs : List (List (Int × Int))} {a : List (Int × Int)} {v' : Value} {vals : List Value} (hD : cs.length = D)
    (h2 : w.ownsRow base 26 1 (.slice (some ⟨g, 0, none⟩) D c) D vals) (h3 : ∀ (i : Nat) (a : List (Int × Int)), cs.reverse[i]? = some a → ∃ A ca, vals[i]? = some (Value.slice A a.length ca) ∧ OwnO w base A a.length ca (tokCells a))
    (ho : OwnO w base A a.length ca (tokCells a)) (hg : w.grownBy w' (Value.slice (some ⟨g, 0, none⟩) D c).ownBlock)
    (hown : w'.ownsRow base 26 1 v' (D + 1) (vals ++ [Value.slice A a.length ca])) : ∃ g' c', v' = .slice (some ⟨g', 0, none⟩) (D + 1) c' ∧ PileO w' base g' (D + 1) c' (a :: cs) := by
  obtain ⟨g', c', rfl⟩ := own_form hown (by omega)
  refine ⟨g', c', rfl, by rw [List.length_cons, hD], _, hown, fun i x hx => ?_⟩
  have hvl : vals.length = D := by have := h2.1; omega
  have hk : ∀ {gx : Option Addr} {cx : Nat} {x : List (Int × Int)}, OwnO w base gx x.length cx (tokCells x) → OwnO w' base gx x.length cx (tokCells x) := fun h => at_kept h hg (o_apart h h2 (by decide))
  rw [List.reverse_cons] at hx
  by_cases hi : i < D
  · rw [List.getElem?_append_left (by rw [List.length_reverse, hD]; exact hi)] at hx
    obtain ⟨gx, cx, q1, q2⟩ := h3 i x hx
    exact ⟨gx, cx, by rw [List.getElem?_append_left (by omega)]; exact q1, hk q2⟩
  · have hiD : i = D := by
      have := (List.getElem?_eq_some_iff.1 hx).1
      simp at this
      omega
    subst hiD
    rw [List.getElem?_append_right (by rw [List.length_reverse, hD]; exact Nat.le_refl _), List.length_reverse, hD, Nat.sub_self] at hx
    obtain rfl : a = x := by simpa using hx
    exact ⟨A, ca, by rw [List.getElem?_append_right (by omega), hvl, Nat.sub_self]; rfl, hk ho⟩
theorem PileO.top {w : World} {base g d c ca : Nat} {A : Option Addr} {s : List (List (Int × Int))} {a a' : List (Int × Int)} (h : PileO w base g (d + 1) c (a :: s)) (ho : OwnO w base A a'.length ca (tokCells a')) :
    PileO (w.setCell ⟨g, d, none⟩ (.slice A a'.length ca)) base g (d + 1) c (a' :: s) := by
  obtain ⟨h1, vals, h2, h3⟩ := h
  have hs : s.length = d := by simpa using h1
  have hvl : vals.length = d + 1 := by have := h2.1; omega
  have hk : ∀ {gx : Option Addr} {cx : Nat} {x : List (Int × Int)}, OwnO w base gx x.length cx (tokCells x) → OwnO (w.setCell ⟨g, d, none⟩ (.slice A a'.length ca)) base gx x.length cx (tokCells x) := fun h => at_kept h (put_grown w g d _) (o_apart h h2 (by decide))
  refine ⟨by simpa using hs, _, own_put h2 d _, fun i x hx => ?_⟩
  rw [List.reverse_cons] at hx
  by_cases hi : i < d
  · have hx2 : (a :: s).reverse[i]? = some x := by
      rw [List.reverse_cons, List.getElem?_append_left (by rw [List.length_reverse, hs]; exact hi)]
      rw [List.getElem?_append_left (by rw [List.length_reverse, hs]; exact hi)] at hx
      exact hx
    obtain ⟨gx, cx, q1, q2⟩ := h3 i x hx2
    exact ⟨gx, cx, by rw [List.getElem?_set_ne (by omega)]; exact q1, hk q2⟩
  · have hid : i = d := by
      have := (List.getElem?_eq_some_iff.1 hx).1
      simp at this
      omega
    subst hid
    rw [List.getElem?_append_right (by rw [List.length_reverse, hs]; exact Nat.le_refl _), List.length_reverse, hs, Nat.sub_self] at hx
    obtain rfl : a' = x := by simpa using hx
    exact ⟨A, ca, by rw [List.getElem?_set_self (by omega)], hk ho⟩
theorem PileO.at {w : World} {base g D c i : Nat} {cs : List (List (Int × Int))} {a : List (Int × Int)} (h : PileO w base g D c cs) (ha : cs.reverse[i]? = some a) :
    ∃ A ca, w.cell? ⟨g, i, none⟩ = some (.slice A a.length ca) ∧ OwnO w base A a.length ca (tokCells a) := by
  obtain ⟨h1, vals, h2, h3⟩ := h
  obtain ⟨ga, ca, q1, q2⟩ := h3 i a ha
  have hk := h2.cells (g := g) rfl i _ q1
  rw [own_adds] at hk
  exact ⟨ga, ca, hk, q2⟩
theorem PileO.cap {w : World} {base g D c : Nat} {cs : List (List (Int × Int))} (h : PileO w base g D c cs) : D ≤ c := by
  obtain ⟨_, vals, hh, _⟩ := h
  exact own_capR hh
end Go.Proofs.YtghoofgfimeedaaDoor

namespace Go.Proofs.YtghoofgfimeedaaDoor
open Go.RowKit

set_option maxRecDepth 100000 in
set_option maxHeartbeats 1600000 in
theorem repeat_big (n : Nat) (hn : n ≤ 1000) (w : World) (gx cx : Nat) (hgx : gx < w.heap.size) (x0 : w.cell? ⟨gx, 0, none⟩ = some (.int .i64 1)) (x1 : w.cell? ⟨gx, 1, none⟩ = some (.int .i64 0)) :
    Calls Tryd.prog 72 #[.slice (some ⟨gx, 0, none⟩) 1 cx, .int .i64 n] w (ResT w (sxs n)) := by
  obtain ⟨i0, hi, hz0, hz1, hz2⟩ := info_parts info_tok
  have hmk : ∀ wx, (Instr.makeSlice 24 (.int .i64 (n : Int)) (.int .i64 (n : Int))).run Tryd.prog wx = .ok (.slice (some ⟨wx.heap.size, 0, none⟩) n n) (wx.alloc (.cells (madeCells (Value.agg #[.int .i64 0, .int .i64 0]).cells (n * 2)) 44)) := by
    intro wx
    have hr := run_make (P := Tryd.prog) wx 24 44 i0 _ Tryd.underlying24 hi hz0 .i64 .i64 n n (by omega) (by omega) (by rw [hz2]; omega) (by omega)
    simp only [Int.toNat_natCast, hz1] at hr
    exact hr
  obtain ⟨cur, hcur⟩ : ∃ cur, madeCells (Value.agg #[.int .i64 0, .int .i64 0]).cells (n * 2) = cur := ⟨_, rfl⟩
  have hcs : cur.size = n * 2 := by rw [← hcur]; simp [madeCells]
  rw [hcur] at hmk
  have hst : Rep w w.heap.size n 0 (w.alloc (.cells cur 44)) := ⟨(Below.refl _ _).alloc (Nat.le_refl _) _, cur, Blk.made _ _ _, hcs, by intro j hj; omega⟩
  have hc1 : (Builtin.copy_ #[24, 24] 3 #[.slice (some ⟨w.heap.size, 0, none⟩) n n, .slice (some ⟨gx, 0, none⟩) 1 cx]).run Tryd.prog (w.alloc (.cells cur 44)) =
      .ok (goInt (Nat.min 1 n)) ((w.alloc (.cells cur 44)).setRow w.heap.size (cur.toList.take (0 * 2) ++ tokCells (sxs (Nat.min 1 n)) ++ cur.toList.drop (0 * 2 + (tokCells (sxs (Nat.min 1 n))).length)).toArray) := by
    have hlen : (tokCells (sxs (Nat.min 1 n))).length = Nat.min 1 n * 2 := by rw [tokCells_len]; simp [sxs]
    have hmin : Nat.min 1 n ≤ n := Nat.min_le_right _ _
    have hmin1 : Nat.min 1 n ≤ 1 := Nat.min_le_left _ _
    have h := run_copyN (P := Tryd.prog) (w.alloc (.cells cur 44)) 24 24 3 44 w.heap.size 0 n n ⟨gx, 0, none⟩ 1 cx 2 cur 44 (tokCells (sxs (Nat.min 1 n))) Tryd.underlying24 i0 hi hz1 (heap_alloc_new w _) hlen
      (by
        intro j v hj
        have hjl : j < (tokCells (sxs (Nat.min 1 n))).length := (List.getElem?_eq_some_iff.1 hj).1
        rw [hlen] at hjl
        rw [sxs_cells _ j hjl] at hj
        injection hj with hj
        subst hj
        rw [own_adds, World.cell?_alloc_past _ _ _ (by exact hgx)]
        have hj2 : j = 0 ∨ j = 1 := by omega
        rcases hj2 with rfl | rfl
        · exact x0
        · exact x1)
      (by rw [hlen]; omega) (sxs_one _)
    simpa using h
  have hmin : Nat.min 1 n ≤ n := Nat.min_le_right _ _
  have hmin1 : Nat.min 1 n ≤ 1 := Nat.min_le_left _ _
  have hrep1 := rep_copy (m := Nat.min 1 n) hst (by omega) cur (Blk.made _ _ _)
  obtain ⟨w1, hw1⟩ : ∃ w1, (w.alloc (.cells cur 44)).setRow w.heap.size (cur.toList.take (0 * 2) ++ tokCells (sxs (Nat.min 1 n)) ++ cur.toList.drop (0 * 2 + (tokCells (sxs (Nat.min 1 n))).length)).toArray = w1 := ⟨_, rfl⟩
  rw [hw1] at hc1 hrep1
  obtain ⟨m1, hm1⟩ : ∃ m1, Nat.min 1 n = m1 := ⟨_, rfl⟩
  have hpos : 1 ≤ n → 1 ≤ m1 := by intro h; rw [← hm1]; exact Nat.le_min.2 ⟨Nat.le_refl _, h⟩
  rw [hm1] at hc1 hrep1 hmin hmin1
  rw [Nat.zero_add] at hrep1
  have HR1 := Lib.hid hrep1
  have HPOS := Lib.hid hpos
  have HM := Lib.hid hm1
  have HI := Lib.hid hi
  have HZ := Lib.hid hz1
  clear hrep1 hw1 hst hcur hcs hi hz0 hz1 hz2 hpos hm1
  have hconv : IntKind.u64.wrap (n : Int) = (n : Int) := by rw [IntKind.wrap_u64]; omega
  have hconv2 : IntKind.i64.wrap (n : Int) = (n : Int) := by rw [IntKind.wrap_i64]; omega
  have hd0 : decide ((n : Int) < 0) = false := decide_eq_false (by omega)
  have hd1 : decide ((9223372036854775807 : Int) < (n : Int)) = false := decide_eq_false (by omega)
  go_enter Tryd.func72, Tryd.ntmps72
  go_wp2_with fail
  refine (mul_one n (by omega) w).mono ?_
  rintro e w' ⟨rfl, rfl⟩
  go_wp2_with fail
  go_loopw [8] (fun i wr => ∃ k : Nat, k ≤ n ∧ Hid (1 ≤ n → 1 ≤ k) ∧ i = .int .i64 k ∧ Rep w w.heap.size n k wr) (fun i _ => n - (intOf i).toNat)
  case atStart => exact ⟨m1, hmin, HPOS.out, rfl, HR1.out⟩
  case round =>
    obtain ⟨k, hk, hkp, rfl, hR⟩ := hrel
    by_cases hlt : k < n
    · have hk1 := hkp.out (by omega)
      have hne : ¬ n = k := by omega
      obtain ⟨m, hm⟩ : ∃ m, Nat.min k (n - k) = m := ⟨_, rfl⟩
      have hm1 : 1 ≤ m := by rw [← hm]; exact Nat.le_min.2 ⟨by omega, by omega⟩
      have hm2 : m ≤ k := by rw [← hm]; exact Nat.min_le_left _ _
      have hm3 : m ≤ n - k := by rw [← hm]; exact Nat.min_le_right _ _
      obtain ⟨hbel, cs, hblk, hs, hc⟩ := hR
      have hlen : (tokCells (sxs m)).length = m * 2 := by rw [tokCells_len]; simp [sxs]
      have HNX := Lib.hid (rep_copy (m := m) ⟨hbel, cs, hblk, hs, hc⟩ (by omega) cs hblk)
      have hcp : (Builtin.copy_ #[24, 24] 3 #[.slice (some ⟨w.heap.size, k * 2, none⟩) (n - k) (n - k), .slice (some ⟨w.heap.size, 0, none⟩) k n]).run Tryd.prog wr.drew =
          .ok (goInt m) (wr.drew.setRow w.heap.size (cs.toList.take (k * 2) ++ tokCells (sxs m) ++ cs.toList.drop (k * 2 + (tokCells (sxs m)).length)).toArray) := by
        have h := run_copyN (P := Tryd.prog) wr.drew 24 24 3 44 w.heap.size (k * 2) (n - k) (n - k) ⟨w.heap.size, 0, none⟩ k n 2 cs 44 (tokCells (sxs m)) Tryd.underlying24 i0 HI.out HZ.out hblk (by rw [hlen, hm])
          (by
            intro j v hj
            have hjl : j < (tokCells (sxs m)).length := (List.getElem?_eq_some_iff.1 hj).1
            rw [hlen] at hjl
            rw [sxs_cells _ j hjl] at hj
            rw [own_adds, ← hj]
            exact (hblk.cell j).trans (hc j (by omega)))
          (by rw [hlen]; omega) (sxs_one _)
        rw [hm] at h
        exact h
      obtain ⟨w2, hw2⟩ : ∃ w2, wr.setRow w.heap.size (cs.toList.take (k * 2) ++ tokCells (sxs m) ++ cs.toList.drop (k * 2 + (tokCells (sxs m)).length)).toArray = w2 := ⟨_, rfl⟩
      have hw3 : wr.drew.setRow w.heap.size (cs.toList.take (k * 2) ++ tokCells (sxs m) ++ cs.toList.drop (k * 2 + (tokCells (sxs m)).length)).toArray = w2.drew := by rw [← hw2]; rfl
      rw [hw3] at hcp
      have HN2 : Hid (Rep w w.heap.size n (k + m) w2.drew) := by
        have h := HNX.out
        rw [hw2] at h
        exact ⟨h.1.drew, h.2⟩
      have HCP := Lib.hid hcp
      have hsub : n - k = n - k := rfl
      clear HNX hw2 hw3 hm hs hc hblk hlen hsub hcp
      have hcp := HCP.out
      go_wp2_with fail
      go_region
      go_wp2
      go_roundw
      case rel => exact ⟨k + m, by omega, fun _ => by omega, by go_num, HN2.out⟩
      case measure => simp [intOf]; omega
    · obtain rfl : k = n := by omega
      have HD := Lib.hid (rep_done hR (by omega))
      have HB := Lib.hid hR.1
      have HL : Hid ((sxs k).length = k) := by show _ = _; simp [sxs]
      clear hR
      go_wp2
      go_ret
      exact ⟨w.heap.size, k, by rw [HL.out]; rfl, HD.out, HB.out⟩

end Go.Proofs.YtghoofgfimeedaaDoor

namespace Go.Proofs.YtghoofgfimeedaaDoor
open Go.RowKit

/-- an append in a region that draws its order, onto a row of the call's own -/
theorem step_append_own {P : Program} (w : World) {ops : Array Oper} {o : Oper} {a : Act} {K : Act → World → Prop} {Q : Exit → Act → World → Prop} {E : Prop} (hgd : o.guard = none) (s x : Operand) (t : TypeId)
    (ho : o.op = .call { callee := .builtin .append, args := #[s, x], argTypes := #[t, t] })
    (base : Nat) (e : TypeId) (i : TypeInfo) (z : Value) (size bytes : Nat) (ht : P.underlying t = some (.slice e)) (hi : P.info? e = some i) (hz : i.zero = some z)
    (hsize : i.size = size) (hby : i.bytes = bytes) (hzs : z.cells.size = size) (hsz : 0 < size)
    (v : Value) (n : Nat) (xs : List Value) (hs : a.eval s = v) (hown : w.ownsRow base e size v n xs)
    (ad : Addr) (m c : Nat) (news : List Value) (hx : a.eval x = .slice (some ad) m c) (hl : news.length = m * size) (hnews : ∀ j u, news[j]? = some u → w.cell? (ad.add j) = some u) (h1 : ∀ u ∈ news, u.oneCell' = true)
    (h63 : n + m ≤ maxLen) (hbytes : (n + m) * bytes ≤ 140737488355328) (hbase : base ≤ w.heap.size)
    (h : ∀ v' w', w'.ownsRow base e size v' (n + m) (xs ++ news) → w.grownBy w' v.ownBlock → (v' = .slice none 0 0 ↔ v = .slice none 0 0 ∧ m = 0) → K (a.put o.dst v') w') :
    if Region.wanted o (yielded ops a.tmps) = true then Oper.wp P o a w K Q else E := by
  rw [if_pos (by simp [Region.wanted, hgd])]
  exact wp_append_own w s x t ho base e i z size bytes ht hi hz hsize hby hzs hsz v n xs hs hown ad m c news hx hl hnews h1 h63 hbytes hbase h

theorem own_litT {w : World} {g base : Nat} {a b : Int} (h : Blk w g 44 #[.int .i64 a, .int .i64 b]) (hb : base ≤ g) : OwnT w base (some ⟨g, 0, none⟩) 1 1 [(a, b)] :=
  ⟨rfl, .inr ⟨g, 1, #[.int .i64 a, .int .i64 b], rfl, hb, h, Nat.le_refl _, by simp [maxLen], rfl, rfl⟩⟩

end Go.Proofs.YtghoofgfimeedaaDoor
