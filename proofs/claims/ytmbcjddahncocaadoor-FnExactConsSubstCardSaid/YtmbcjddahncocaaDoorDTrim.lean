/- A pile of rows of tokens, each in a block of its own. -/
/- A pile of rows of atoms that may begin inside their blocks; the steps of the pile for a sign. -/
/- NormFree of the reference model. -/
/- The model's cursor: what it hands out. -/
/- The model's cursor: raw numbers and leaves. -/
/- Two rows of atoms are compared: slices.Equal, and the model's own look. A parameter is looked for. -/
/- LevelTrim: the program's and the reference model's; slices.Clone over tokens, slices.Contains over numbers. -/
import Derived.Test.YtmbcjddahncocaaDoorSgMath2
import Derived.Test.YtmbcjddahncocaaDoorSRes
import Derived.Test.YtmbcjddahncocaaDoorSgLev
import Derived.Maps.Range
import Derived.Deep.RegionLaw
import Derived.Deep.AppendLies
import Derived.Test.YtmbcjddahncocaaDoorSgMath
import Derived.Deep.RegionHeld3
import Derived.Test.YtmbcjddahncocaaDoorLaws1
import Derived.Tactics2
import Derived.Defers
import Derived.Laws.Pointers
import Derived.Laws.LoneSync
import Derived.RegionTactic
import Derived.RegionCalls
import Derived.Deep.WholeRow
import Derived.Test.YtmbcjddahncocaaDoorCoMem

namespace Go.Proofs.YtmbcjddahncocaaDoor
open Go.RowKit

/-- a pile of rows of tokens, its bottom first -/
def PileT (w : World) (base : Nat) (v : Value) (D : Nat) (bs : List (List (Int × Int))) (vals : List Value) (G C : Nat → Nat) : Prop :=
  bs.length = D ∧ w.ownsRow base 24 1 v D vals ∧ (∀ i j, i < D → j < D → i ≠ j → G i ≠ G j) ∧
    ∀ i, i < D → vals[i]? = some (Value.slice (some ⟨G i, 0, none⟩) (bs.getD i []).length (C i)) ∧ OwnT w base (some ⟨G i, 0, none⟩) (bs.getD i []).length (C i) (bs.getD i [])
section
variable {w w' : World} {base D g c : Nat} {v : Value} {bs : List (List (Int × Int))} {vals : List Value} {G C : Nat → Nat}
theorem PileT.below (h : PileT w base v D bs vals G C) (hb : Below w.heap.size w w') : PileT w' base v D bs vals G C :=
  ⟨h.1, own_below' h.2.1 hb, h.2.2.1, fun i hi => ⟨(h.2.2.2 i hi).1, own_below' (h.2.2.2 i hi).2 hb⟩⟩
theorem PileT.lt (h : PileT w base v D bs vals G C) {i : Nat} (hi : i < D) : base ≤ G i ∧ G i < w.heap.size := (h.2.2.2 i hi).2.lt (G i) rfl
theorem PileT.take (h : PileT w base (.slice (some ⟨g, 0, none⟩) D c) D bs vals G C) {m : Nat} (hm : m ≤ D) : PileT w base (.slice (some ⟨g, 0, none⟩) m c) m (bs.take m) (vals.take m) G C := by
  refine ⟨by rw [List.length_take, h.1]; omega, own_take h.2.1 hm, fun i j hi hj => h.2.2.1 i j (by omega) (by omega), fun i hi => ?_⟩
  have h1 := h.2.2.2 i (by omega)
  have e : (bs.take m).getD i [] = bs.getD i [] := by rw [List.getD_eq_getElem?_getD, List.getElem?_take_of_lt hi, ← List.getD_eq_getElem?_getD]
  rw [e]
  exact ⟨by rw [List.getElem?_take_of_lt hi]; exact h1.1, h1.2⟩
/-- one row is put anew -/
theorem PileT.put {x : List (Int × Int)} {gx cx i : Nat} (h : PileT w base (.slice (some ⟨g, 0, none⟩) D c) D bs vals G C) (hi : i < D) (ho : OwnT w base (some ⟨gx, 0, none⟩) x.length cx x) (hne : ∀ j, j < D → j ≠ i → G j ≠ gx) :
    PileT (w.setCell ⟨g, i, none⟩ (.slice (some ⟨gx, 0, none⟩) x.length cx)) base (.slice (some ⟨g, 0, none⟩) D c) D (bs.set i x) (vals.set i (.slice (some ⟨gx, 0, none⟩) x.length cx)) (fun j => if j = i then gx else G j) (fun j => if j = i then cx else C j) := by
  have hvl : vals.length = D := by have := h.2.1.1; omega
  have hk : ∀ {gy cy : Nat} {y : List (Int × Int)}, OwnT w base (some ⟨gy, 0, none⟩) y.length cy y → OwnT (w.setCell ⟨g, i, none⟩ (.slice (some ⟨gx, 0, none⟩) x.length cx)) base (some ⟨gy, 0, none⟩) y.length cy y := fun q => q.kept (put_grown w g i _) (own_apartK q h.2.1 (by decide))
  refine ⟨by rw [List.length_set, h.1], own_put h.2.1 i _, fun a b ha hb hab => ?_, fun j hj => ?_⟩
  · simp only []
    by_cases e1 : a = i <;> by_cases e2 : b = i
    · omega
    · rw [if_pos e1, if_neg e2]; exact fun e => hne b hb e2 e.symm
    · rw [if_neg e1, if_pos e2]; exact hne a ha e1
    · rw [if_neg e1, if_neg e2]; exact h.2.2.1 a b ha hb hab
  · simp only []
    by_cases e : j = i
    · subst e
      rw [if_pos rfl, if_pos rfl]
      have e2 : (bs.set j x).getD j [] = x := by rw [List.getD_eq_getElem?_getD, List.getElem?_set_self (by rw [h.1]; exact hj)]; rfl
      rw [e2]
      exact ⟨by rw [List.getElem?_set_self (by omega)], hk ho⟩
    · rw [if_neg e, if_neg e]
      have h1 := h.2.2.2 j hj
      have e2 : (bs.set i x).getD j [] = bs.getD j [] := by rw [List.getD_eq_getElem?_getD, List.getElem?_set_ne (fun q => e q.symm), ← List.getD_eq_getElem?_getD]
      rw [e2]
      exact ⟨by rw [List.getElem?_set_ne (fun q => e q.symm)]; exact h1.1, hk h1.2⟩
/-- one row has been written on -/
theorem PileT.grown {x : List (Int × Int)} {gx cx i : Nat} (h : PileT w base (.slice (some ⟨g, 0, none⟩) D c) D bs vals G C) (hi : i < D) (hg : w.grownBy w' (some (G i))) (ho : OwnT w' base (some ⟨gx, 0, none⟩) x.length cx x) (hx : gx = G i ∨ w.heap.size ≤ gx) :
    PileT (w'.setCell ⟨g, i, none⟩ (.slice (some ⟨gx, 0, none⟩) x.length cx)) base (.slice (some ⟨g, 0, none⟩) D c) D (bs.set i x) (vals.set i (.slice (some ⟨gx, 0, none⟩) x.length cx)) (fun j => if j = i then gx else G j) (fun j => if j = i then cx else C j) := by
  have hvl : vals.length = D := by have := h.2.1.1; omega
  have hp : w'.ownsRow base 24 1 (.slice (some ⟨g, 0, none⟩) D c) D vals := h.2.1.kept hg (own_apartK h.2.1 (h.2.2.2 i hi).2 (by decide))
  have hk : ∀ {gy cy : Nat} {y : List (Int × Int)}, OwnT w' base (some ⟨gy, 0, none⟩) y.length cy y → OwnT (w'.setCell ⟨g, i, none⟩ (.slice (some ⟨gx, 0, none⟩) x.length cx)) base (some ⟨gy, 0, none⟩) y.length cy y := fun q => q.kept (put_grown w' g i _) (own_apartK q hp (by decide))
  have hne : ∀ j, j < D → j ≠ i → G j ≠ gx := by
    intro j hj hji e
    rcases hx with hx | hx
    · exact h.2.2.1 j i hj hi hji (e.trans hx)
    · have := (h.lt hj).2; omega
  refine ⟨by rw [List.length_set, h.1], own_put hp i _, fun a b ha hb hab => ?_, fun j hj => ?_⟩
  · simp only []
    by_cases e1 : a = i <;> by_cases e2 : b = i
    · omega
    · rw [if_pos e1, if_neg e2]; exact fun e => hne b hb e2 e.symm
    · rw [if_neg e1, if_pos e2]; exact hne a ha e1
    · rw [if_neg e1, if_neg e2]; exact h.2.2.1 a b ha hb hab
  · simp only []
    by_cases e : j = i
    · subst e
      rw [if_pos rfl, if_pos rfl]
      have e2 : (bs.set j x).getD j [] = x := by rw [List.getD_eq_getElem?_getD, List.getElem?_set_self (by rw [h.1]; exact hj)]; rfl
      rw [e2]
      exact ⟨by rw [List.getElem?_set_self (by omega)], hk ho⟩
    · rw [if_neg e, if_neg e]
      have h1 := h.2.2.2 j hj
      have e2 : (bs.set i x).getD j [] = bs.getD j [] := by rw [List.getD_eq_getElem?_getD, List.getElem?_set_ne (fun q => e q.symm), ← List.getD_eq_getElem?_getD]
      rw [e2]
      refine ⟨by rw [List.getElem?_set_ne (fun q => e q.symm)]; exact h1.1, hk (h1.2.kept hg (.inr ?_))⟩
      intro q
      have : G j = G i := by simpa [Value.ownBlock] using q
      exact h.2.2.1 j i hj hi e this
theorem PileT.at {i : Nat} (h : PileT w base (.slice (some ⟨g, 0, none⟩) D c) D bs vals G C) (hi : i < D) : w.cell? ⟨g, i, none⟩ = some (.slice (some ⟨G i, 0, none⟩) (bs.getD i []).length (C i)) := by
  have hk := h.2.1.cells (g := g) rfl i _ (h.2.2.2 i hi).1
  rw [own_adds] at hk
  exact hk
end
end Go.Proofs.YtmbcjddahncocaaDoor

namespace Go.Proofs.YtmbcjddahncocaaDoor
open Go.RowKit

namespace Nm
end Nm

theorem o_apart {w : World} {base base' : Nat} {A : Option Addr} {n c n' size' : Nat} {xs ys : List Value} {e' : TypeId} {u : Value} (h : OwnO w base A n c xs) (h' : w.ownsRow base' e' size' u n' ys) (hne : 68 ≠ e') : ∀ k, (Value.slice A n c).ownBlock = some k → u.ownBlock ≠ some k := by
  intro k hk hu
  obtain ⟨cs, hb⟩ := own_blk h' k hu
  rcases h.2 with ⟨rfl, _⟩ | ⟨g, o, cur, rfl, _, hblk, _⟩
  · cases hk
  · have : g = k := by simpa [Value.ownBlock] using hk
    subst this
    have e := hblk.symm.trans hb
    injection e with e
    injection e with _ e
    exact hne e
/-- a pile of rows of atoms, its top first -/
def PileO (w : World) (base g D c : Nat) (cs : List (List (Int × Int))) : Prop :=
  cs.length = D ∧ ∃ vals : List Value, w.ownsRow base 63 1 (.slice (some ⟨g, 0, none⟩) D c) D vals ∧
    ∀ (i : Nat) (a : List (Int × Int)), cs.reverse[i]? = some a → ∃ A ca, vals[i]? = some (Value.slice A a.length ca) ∧ OwnO w base A a.length ca (tokCells a)
theorem PileO.below {w w' : World} {base g D c : Nat} {cs : List (List (Int × Int))} (h : PileO w base g D c cs) (hb : Below w.heap.size w w') : PileO w' base g D c cs := by
  obtain ⟨h1, vals, h2, h3⟩ := h
  refine ⟨h1, vals, own_below' h2 hb, fun i a ha => ?_⟩
  obtain ⟨ga, ca, q1, q2⟩ := h3 i a ha
  exact ⟨ga, ca, q1, at_below' q2 hb⟩
theorem PileO.alloc {w : World} {base g D c : Nat} {cs : List (List (Int × Int))} (h : PileO w base g D c cs) (o : Obj) : PileO (w.alloc o) base g D c cs :=
  h.below ((Below.refl _ _).alloc (Nat.le_refl _) o)
theorem PileO.drew {w : World} {base g D c : Nat} {cs : List (List (Int × Int))} (h : PileO w base g D c cs) : PileO w.drew base g D c cs := h
theorem PileO.drop {w : World} {base g D c : Nat} {cs : List (List (Int × Int))} (h : PileO w base g D c cs) (k : Nat) (hk : k ≤ D) : PileO w base g (D - k) c (cs.drop k) := by
  obtain ⟨h1, vals, h2, h3⟩ := h
  refine ⟨by rw [List.length_drop, h1], vals.take (D - k), own_take h2 (by omega), fun i a ha => ?_⟩
  rw [List.reverse_drop, h1] at ha
  have hi : i < D - k := by
    have := (List.getElem?_eq_some_iff.1 ha).1
    rw [List.length_take] at this
    omega
  rw [List.getElem?_take_of_lt hi] at ha
  obtain ⟨ga, ca, q1, q2⟩ := h3 i a ha
  exact ⟨ga, ca, by rw [List.getElem?_take_of_lt hi]; exact q1, q2⟩
theorem PileO.top {w : World} {base g d c ca : Nat} {A : Option Addr} {s : List (List (Int × Int))} {a a' : List (Int × Int)} (h : PileO w base g (d + 1) c (a :: s)) (ho : OwnO w base A a'.length ca (tokCells a')) :
    PileO (w.setCell ⟨g, d, none⟩ (.slice A a'.length ca)) base g (d + 1) c (a' :: s) := by
  obtain ⟨h1, vals, h2, h3⟩ := h
  have hs : s.length = d := by simpa using h1
  have hvl : vals.length = d + 1 := by have := h2.1; omega
  have hk : ∀ {gx : Option Addr} {cx : Nat} {x : List (Int × Int)}, OwnO w base gx x.length cx (tokCells x) → OwnO (w.setCell ⟨g, d, none⟩ (.slice A a'.length ca)) base gx x.length cx (tokCells x) := fun h => at_kept h (put_grown w g d _) (o_apart h h2 (by decide))
  refine ⟨by simpa using hs, _, own_put h2 d _, fun i x hx => ?_⟩
  rw [List.reverse_cons] at hx
  by_cases hi : i < d
  · have hx2 : (a :: s).reverse[i]? = some x := by
      rw [List.reverse_cons, List.getElem?_append_left (by rw [List.length_reverse, hs]; exact hi)]
      rw [List.getElem?_append_left (by rw [List.length_reverse, hs]; exact hi)] at hx
      exact hx
    obtain ⟨gx, cx, q1, q2⟩ := h3 i x hx2
    exact ⟨gx, cx, by rw [List.getElem?_set_ne (by omega)]; exact q1, hk q2⟩
  · have hid : i = d := by
      have := (List.getElem?_eq_some_iff.1 hx).1
      simp at this
      omega
    subst hid
    rw [List.getElem?_append_right (by rw [List.length_reverse, hs]; exact Nat.le_refl _), List.length_reverse, hs, Nat.sub_self] at hx
    obtain rfl : a' = x := by simpa using hx
    exact ⟨A, ca, by rw [List.getElem?_set_self (by omega)], hk ho⟩
theorem PileO.at {w : World} {base g D c i : Nat} {cs : List (List (Int × Int))} {a : List (Int × Int)} (h : PileO w base g D c cs) (ha : cs.reverse[i]? = some a) :
    ∃ A ca, w.cell? ⟨g, i, none⟩ = some (.slice A a.length ca) ∧ OwnO w base A a.length ca (tokCells a) := by
  obtain ⟨h1, vals, h2, h3⟩ := h
  obtain ⟨ga, ca, q1, q2⟩ := h3 i a ha
  have hk := h2.cells (g := g) rfl i _ q1
  rw [own_adds] at hk
  exact ⟨ga, ca, hk, q2⟩
theorem PileO.cap {w : World} {base g D c : Nat} {cs : List (List (Int × Int))} (h : PileO w base g D c cs) : D ≤ c := by
  obtain ⟨_, vals, hh, _⟩ := h
  exact own_capR hh
end Go.Proofs.YtmbcjddahncocaaDoor

namespace Go.Proofs.YtmbcjddahncocaaDoor
open Go.RowKit

/-- a pile of rows of atoms, its top first, each row of its own -/
def PileD (w : World) (base g D c : Nat) (cs : List (List (Int × Int))) : Prop :=
  cs.length = D ∧ ∃ vals : List Value, w.ownsRow base 63 1 (.slice (some ⟨g, 0, none⟩) D c) D vals ∧
    ∀ (i : Nat) (a : List (Int × Int)), cs.reverse[i]? = some a → ∃ ga ca, vals[i]? = some (Value.slice (some ⟨ga, 0, none⟩) a.length ca) ∧ OwnA w base (some ⟨ga, 0, none⟩) a.length ca a
theorem PileD.below {w w' : World} {base g D c : Nat} {cs : List (List (Int × Int))} (h : PileD w base g D c cs) (hb : Below w.heap.size w w') : PileD w' base g D c cs := by
  obtain ⟨h1, vals, h2, h3⟩ := h
  refine ⟨h1, vals, own_below' h2 hb, fun i a ha => ?_⟩
  obtain ⟨ga, ca, q1, q2⟩ := h3 i a ha
  exact ⟨ga, ca, q1, own_below' q2 hb⟩
theorem PileD.alloc {w : World} {base g D c : Nat} {cs : List (List (Int × Int))} (h : PileD w base g D c cs) (o : Obj) : PileD (w.alloc o) base g D c cs :=
  h.below ((Below.refl _ _).alloc (Nat.le_refl _) o)
theorem PileD.drew {w : World} {base g D c : Nat} {cs : List (List (Int × Int))} (h : PileD w base g D c cs) : PileD w.drew base g D c cs := h
/-- the pile without its top ones -/
theorem PileD.drop {w : World} {base g D c : Nat} {cs : List (List (Int × Int))} (h : PileD w base g D c cs) (k : Nat) (hk : k ≤ D) : PileD w base g (D - k) c (cs.drop k) := by
  obtain ⟨h1, vals, h2, h3⟩ := h
  refine ⟨by rw [List.length_drop, h1], vals.take (D - k), own_take h2 (by omega), fun i a ha => ?_⟩
  rw [List.reverse_drop, h1] at ha
  have hi : i < D - k := by
    have := (List.getElem?_eq_some_iff.1 ha).1
    rw [List.length_take] at this
    omega
  rw [List.getElem?_take_of_lt hi] at ha
  obtain ⟨ga, ca, q1, q2⟩ := h3 i a ha
  exact ⟨ga, ca, by rw [List.getElem?_take_of_lt hi]; exact q1, q2⟩
/-- the top one is put anew -/
theorem PileD.top {w : World} {base g d c ga ca : Nat} {s : List (List (Int × Int))} {a a' : List (Int × Int)} (h : PileD w base g (d + 1) c (a :: s)) (ho : OwnA w base (some ⟨ga, 0, none⟩) a'.length ca a') :
    PileD (w.setCell ⟨g, d, none⟩ (.slice (some ⟨ga, 0, none⟩) a'.length ca)) base g (d + 1) c (a' :: s) := by
  obtain ⟨h1, vals, h2, h3⟩ := h
  have hs : s.length = d := by simpa using h1
  have hvl : vals.length = d + 1 := by have := h2.1; omega
  have hk : ∀ {gx cx : Nat} {x : List (Int × Int)}, OwnA w base (some ⟨gx, 0, none⟩) x.length cx x → OwnA (w.setCell ⟨g, d, none⟩ (.slice (some ⟨ga, 0, none⟩) a'.length ca)) base (some ⟨gx, 0, none⟩) x.length cx x := fun h => h.kept (put_grown w g d _) (own_apartK h h2 (by decide))
  refine ⟨by simpa using hs, _, own_put h2 d _, fun i x hx => ?_⟩
  rw [List.reverse_cons] at hx
  by_cases hi : i < d
  · have hx2 : (a :: s).reverse[i]? = some x := by
      rw [List.reverse_cons, List.getElem?_append_left (by rw [List.length_reverse, hs]; exact hi)]
      rw [List.getElem?_append_left (by rw [List.length_reverse, hs]; exact hi)] at hx
      exact hx
    obtain ⟨gx, cx, q1, q2⟩ := h3 i x hx2
    exact ⟨gx, cx, by rw [List.getElem?_set_ne (by omega)]; exact q1, hk q2⟩
  · have hid : i = d := by
      have := (List.getElem?_eq_some_iff.1 hx).1
      simp at this
      omega
    subst hid
    rw [List.getElem?_append_right (by rw [List.length_reverse, hs]; exact Nat.le_refl _), List.length_reverse, hs, Nat.sub_self] at hx
    obtain rfl : a' = x := by simpa using hx
    exact ⟨ga, ca, by rw [List.getElem?_set_self (by omega)], hk ho⟩
/-- what lies at a place of the pile -/
theorem PileD.at {w : World} {base g D c i : Nat} {cs : List (List (Int × Int))} {a : List (Int × Int)} (h : PileD w base g D c cs) (ha : cs.reverse[i]? = some a) :
    ∃ ga ca, w.cell? ⟨g, i, none⟩ = some (.slice (some ⟨ga, 0, none⟩) a.length ca) ∧ OwnA w base (some ⟨ga, 0, none⟩) a.length ca a := by
  obtain ⟨h1, vals, h2, h3⟩ := h
  obtain ⟨ga, ca, q1, q2⟩ := h3 i a ha
  have hk := h2.cells (g := g) rfl i _ q1
  rw [own_adds] at hk
  exact ⟨ga, ca, hk, q2⟩
end Go.Proofs.YtmbcjddahncocaaDoor

namespace Go.Proofs.YtmbcjddahncocaaDoor
open Go.RowKit

/-- a slice of bytes below block B -/
def BytR (w : World) (B : Nat) (A : Option Addr) (n : Nat) : Prop :=
  0 < n → ∃ b off, A = some ⟨b, off, none⟩ ∧ b < B ∧ ∀ k, k < n → ∃ x : Nat, x < 256 ∧ w.cell? ⟨b, off + k, none⟩ = some (.int .u8 x)
theorem BytR.below {w w' : World} {B : Nat} {A : Option Addr} {n : Nat} (h : BytR w B A n) (hb : Below B w w') : BytR w' B A n := fun h0 => by
  obtain ⟨b, off, rfl, hB, hc⟩ := h h0
  refine ⟨b, off, rfl, hB, fun k hk => ?_⟩
  obtain ⟨x, hx, c⟩ := hc k hk
  exact ⟨x, hx, (hb.cell (p := ⟨b, off + k, none⟩) hB).trans c⟩

/-- the cursor at block bc over those bytes, its place at most K -/
def Cur (w : World) (bc : Nat) (A : Option Addr) (n c K : Nat) : Prop :=
  BytR w bc A n ∧ ∃ p s : Nat, Blk w bc 148 #[.slice A n c, .int .i64 p, .int .i64 s] ∧ p ≤ K ∧ s ≤ 70000
theorem Cur.lt {w : World} {bc : Nat} {A : Option Addr} {n c K : Nat} (h : Cur w bc A n c K) : bc < w.heap.size := by obtain ⟨_, p, s, hb, _⟩ := h; exact hb.lt
theorem Cur.more {w : World} {bc : Nat} {A : Option Addr} {n c K K' : Nat} (h : Cur w bc A n c K) (hK : K ≤ K') : Cur w bc A n c K' := by
  obtain ⟨h1, p, s, hb, hp, hs⟩ := h
  exact ⟨h1, p, s, hb, by omega, hs⟩
/-- nothing but the cursor's block has turned -/
abbrev Kp (bc : Nat) (w w' : World) : Prop := w.grownBy w' (some bc)
theorem Kp.refl (bc : Nat) (w : World) : Kp bc w w := ⟨rfl, rfl, rfl, Nat.le_refl _, fun _ _ _ => rfl⟩
theorem Kp.trans {bc : Nat} {a b c : World} (h : Kp bc a b) (k : Kp bc b c) : Kp bc a c :=
  ⟨k.os.trans h.os, k.tape.trans h.tape, k.output.trans h.output, Nat.le_trans h.size k.size, fun i hi hn => (k.block i (Nat.lt_of_lt_of_le hi h.size) hn).trans (h.block i hi hn)⟩
theorem Kp.of_below {bc : Nat} {a b : World} (h : Below a.heap.size a b) : Kp bc a b := ⟨h.os, h.tape, h.output, h.size, fun i hi _ => h.block i hi⟩
theorem Kp.below {bc B : Nat} {w0 a b : World} (h0 : Below B w0 a) (h : Kp bc a b) (hB : B ≤ bc) (hz : B ≤ a.heap.size) : Below B w0 b := h0.grown h hz (fun k hk => by injection hk with hk; omega)
theorem Kp.own {bc : Nat} {a b : World} {base : Nat} {e : TypeId} {size n : Nat} {v : Value} {xs : List Value} (h : a.ownsRow base e size v n xs) (hk : Kp bc a b) (hb : bc < base) : b.ownsRow base e size v n xs :=
  h.kept hk (by
    cases hv : v.ownBlock with
    | none => exact .inl rfl
    | some g =>
      refine .inr (fun he => ?_)
      have := (h.lt g hv).1
      injection he with he
      omega)
theorem Cur.below {w w' : World} {bc : Nat} {A : Option Addr} {n c K : Nat} (h : Cur w bc A n c K) (hb : Below w.heap.size w w') : Cur w' bc A n c K := by
  have hlt := h.lt
  obtain ⟨h1, p, s, hblk, hp, hs⟩ := h
  exact ⟨h1.below (hb.mono (by omega)), p, s, hblk.below hb hlt, hp, hs⟩

theorem Kp.drew {bc : Nat} {a b : World} (h : Kp bc a b) : Kp bc a b.drew := ⟨h.os, h.tape, h.output, h.size, h.block⟩
theorem Kp.put (w : World) (bc i : Nat) (u : Value) : Kp bc w (w.setCell ⟨bc, i, none⟩ u) :=
  ⟨rfl, rfl, rfl, by rw [World.size_setCell]; exact Nat.le_refl _, fun k _ hn => Below.heap_setCell w ⟨bc, i, none⟩ u k (fun e => hn (by rw [e]))⟩
end Go.Proofs.YtmbcjddahncocaaDoor

namespace Go.Proofs.YtmbcjddahncocaaDoor
open Go.RowKit

theorem BytR.grown {w w' : World} {B : Nat} {A : Option Addr} {n : Nat} {row : Option Nat} (h : BytR w B A n) (hg : w.grownBy w' row) (hB : B ≤ w.heap.size) (hr : ∀ k, row = some k → B ≤ k) : BytR w' B A n :=
  h.below ((Below.refl B w).grown hg hB hr)
theorem Cur.grown {w w' : World} {bc : Nat} {A : Option Addr} {n c K : Nat} {row : Option Nat} (h : Cur w bc A n c K) (hg : w.grownBy w' row) (hr : ∀ k, row = some k → bc < k) : Cur w' bc A n c K := by
  have hlt := h.lt
  obtain ⟨h1, p, s, hblk, hp, hs⟩ := h
  exact ⟨h1.grown hg (by omega) (fun k hk => by have := hr k hk; omega), p, s, hblk.grown hg (fun he => by have := hr bc he.symm; omega), hp, hs⟩
theorem Cur.alloc {w : World} {bc : Nat} {A : Option Addr} {n c K : Nat} (h : Cur w bc A n c K) (o : Obj) : Cur (w.alloc o) bc A n c K := h.below ((Below.refl _ _).alloc (Nat.le_refl _) o)
theorem Kp.alloc {bc : Nat} {a b : World} (h : Kp bc a b) (o : Obj) : Kp bc a (b.alloc o) := h.trans (Kp.of_below ((Below.refl _ _).alloc (Nat.le_refl _) o))
theorem Kp.blk {bc g : Nat} {a b : World} {t : TypeId} {cs : Array Value} (hb : Blk a g t cs) (h : Kp bc a b) (hne : g ≠ bc) : Blk b g t cs := hb.grown h (fun he => by injection he with he; exact hne he)
theorem Kp.more {bc : Nat} {a b c : World} {row : Option Nat} (h : Kp bc a b) (k : b.grownBy c row) (hr : ∀ j, row = some j → a.heap.size ≤ j) : Kp bc a c := h.andThen k (fun j hj => .inl (hr j hj))

end Go.Proofs.YtmbcjddahncocaaDoor

namespace Go.Proofs.YtmbcjddahncocaaDoor
open Go.RowKit

/-- what a search for a parameter finds -/
def FoundP (l : List (Int × Int)) (p i : Int) : Prop := (i = -1 ∧ ∀ k, k < l.length → (l.getD k (0, 0)).1 ≠ p) ∨ (0 ≤ i ∧ ∃ k, k < l.length ∧ (l.getD k (0, 0)).1 = p)
open Classical in
/-- whether an atom bears the parameter -/
noncomputable def hasP (l : List (Int × Int)) (p : Int) : Bool := decide (∃ k, k < l.length ∧ (l.getD k (0, 0)).1 = p)
theorem hasP_iff (l : List (Int × Int)) (p : Int) : hasP l p = true ↔ ∃ k, k < l.length ∧ (l.getD k (0, 0)).1 = p := by simp [hasP]
theorem hasP_yes {l : List (Int × Int)} {p : Int} {k : Nat} (h : k < l.length) (e : (l.getD k (0, 0)).1 = p) : hasP l p = true := (hasP_iff l p).2 ⟨k, h, e⟩
theorem hasP_no {l : List (Int × Int)} {p : Int} (h : ∀ k, k < l.length → (l.getD k (0, 0)).1 ≠ p) : hasP l p = false := by
  cases e : hasP l p with
  | false => rfl
  | true => obtain ⟨k, h1, h2⟩ := (hasP_iff l p).1 e; exact absurd h2 (h k h1)
theorem FoundP.has {l : List (Int × Int)} {p i : Int} (h : FoundP l p i) : hasP l p = decide (0 ≤ i) := by
  rcases h with ⟨rfl, h⟩ | ⟨h0, k, h1, h2⟩
  · rw [hasP_no h]; rfl
  · rw [hasP_yes h1 h2, decide_eq_true h0]

end Go.Proofs.YtmbcjddahncocaaDoor

namespace Go.Proofs.YtmbcjddahncocaaDoor
open Go.RowKit

set_option maxRecDepth 100000 in
set_option maxHeartbeats 800000 in
theorem cloneT_any (w : World) (B : Nat) (A : Option Addr) (n c : Nat) (l : List (Int × Int)) (hB : B ≤ w.heap.size) (hl : TokR w B A n l) (h1 : 1 ≤ n) (hn : n ≤ 1000) :
    Calls Tryd.prog 86 #[.slice A n c] w fun e w' => ∃ g cap, e = .returned (.slice (some ⟨g, 0, none⟩) n cap) ∧ OwnT w' w.heap.size (some ⟨g, 0, none⟩) n cap l ∧ Below w.heap.size w w' := by
  obtain ⟨i0, hi, hz0, hz1, hz2⟩ := info_parts info_tok
  have hb0 : Below w.heap.size w (w.alloc (.cells #[] 48)) := (Below.refl _ _).alloc (Nat.le_refl _) _
  obtain ⟨q, rfl, hq⟩ := (hl.below (hb0.mono hB)).tokA (by omega)
  have ho0 : OwnT (w.alloc (.cells #[] 48)) w.heap.size (some ⟨w.heap.size, 0, none⟩) 0 0 [] := World.ownsRow_made w #[] 0 (Nat.le_refl _) (by simp [maxLen]) (by simp)
  have hcl := tokCells_len l
  rw [hl.1] at hcl
  have HCL := Lib.hid hcl
  have hnil := Lib.run_eql_slice_nil (P := Tryd.prog)
  clear hcl hl
  go_enter Tryd.func86, Tryd.ntmps86
  go_wp2_with (at_builtin; refine wpList_append_own _ rfl (.tmp 5) (.tmp 6) 24 rfl w.heap.size 48 i0 (.agg #[.int .i64 0, .int .i64 0]) 2 16 Tryd.underlying24 hi hz0 hz1 hz2 rfl (by decide) (.slice (some ⟨w.heap.size, 0, none⟩) 0 0) 0 (tokCells []) rfl ho0 q n c (tokCells l) rfl HCL.out hq.2 (tokCells_one l) (by unfold maxLen; omega) (by omega) (by simp) ?_; intro v' w3 hown' hgrow hnil)
  obtain ⟨g', cap', rfl⟩ : ∃ g' cap', v' = .slice (some ⟨g', 0, none⟩) n cap' := by
    rcases hown'.2 with ⟨h0, _⟩ | ⟨g', cap', _, h0, _⟩
    · have := (hnil.1 h0).1
      cases this
    · rw [Nat.zero_add] at h0; exact ⟨g', cap', h0⟩
  have HB3 : Hid (Below w.heap.size w w3) := hb0.grown hgrow (by simp) (fun k h => by have h' : w.heap.size = k := (by simpa [Value.ownBlock] using h); omega)
  have HW0 : Hid (OwnT w3 w.heap.size (some ⟨g', 0, none⟩) n cap' l) := by
    show OwnT _ _ _ _ _ _
    have h := hown'
    rw [tokCells_nil, List.nil_append, Nat.zero_add] at h
    exact h
  clear hown' hgrow hnil ho0 hq hb0
  go_wp2
  go_ret
  exact ⟨g', cap', rfl, HW0.out, HB3.out⟩


end Go.Proofs.YtmbcjddahncocaaDoor
