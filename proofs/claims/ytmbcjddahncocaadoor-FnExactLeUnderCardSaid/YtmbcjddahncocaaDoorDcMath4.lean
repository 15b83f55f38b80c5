/- The model's cursor: what it hands out. -/
/- The model's cursor: raw numbers and leaves. -/
/- Two rows of atoms are compared: slices.Equal, and the model's own look. A parameter is looked for. -/
/- Plain facts: the first place where a level does not fit below another one, sign by sign and atom by atom. -/
import Derived.Test.YtmbcjddahncocaaDoorRsMath
import Derived.Maps.Range
import Derived.Test.YtmbcjddahncocaaDoorAtLaws
import Derived.Test.YtmbcjddahncocaaDoorDcMath
import Derived.Tactics2
import Derived.Defers
import Derived.Laws.Pointers
import Derived.Laws.LoneSync
import Derived.RegionTactic
import Derived.RegionCalls

namespace Go.Proofs.YtmbcjddahncocaaDoor
open Go.RowKit

/-- a slice of bytes below block B -/
def BytR (w : World) (B : Nat) (A : Option Addr) (n : Nat) : Prop :=
  0 < n → ∃ b off, A = some ⟨b, off, none⟩ ∧ b < B ∧ ∀ k, k < n → ∃ x : Nat, x < 256 ∧ w.cell? ⟨b, off + k, none⟩ = some (.int .u8 x)
theorem BytR.below {w w' : World} {B : Nat} {A : Option Addr} {n : Nat} (h : BytR w B A n) (hb : Below B w w') : BytR w' B A n := fun h0 => by
  obtain ⟨b, off, rfl, hB, hc⟩ := h h0
  refine ⟨b, off, rfl, hB, fun k hk => ?_⟩
  obtain ⟨x, hx, c⟩ := hc k hk
  exact ⟨x, hx, (hb.cell (p := ⟨b, off + k, none⟩) hB).trans c⟩

/-- the cursor at block bc over those bytes, its place at most K -/
def Cur (w : World) (bc : Nat) (A : Option Addr) (n c K : Nat) : Prop :=
  BytR w bc A n ∧ ∃ p s : Nat, Blk w bc 148 #[.slice A n c, .int .i64 p, .int .i64 s] ∧ p ≤ K ∧ s ≤ 70000
theorem Cur.lt {w : World} {bc : Nat} {A : Option Addr} {n c K : Nat} (h : Cur w bc A n c K) : bc < w.heap.size := by obtain ⟨_, p, s, hb, _⟩ := h; exact hb.lt
theorem Cur.more {w : World} {bc : Nat} {A : Option Addr} {n c K K' : Nat} (h : Cur w bc A n c K) (hK : K ≤ K') : Cur w bc A n c K' := by
  obtain ⟨h1, p, s, hb, hp, hs⟩ := h
  exact ⟨h1, p, s, hb, by omega, hs⟩
/-- nothing but the cursor's block has turned -/
abbrev Kp (bc : Nat) (w w' : World) : Prop := w.grownBy w' (some bc)
theorem Kp.refl (bc : Nat) (w : World) : Kp bc w w := ⟨rfl, rfl, rfl, Nat.le_refl _, fun _ _ _ => rfl⟩
theorem Kp.trans {bc : Nat} {a b c : World} (h : Kp bc a b) (k : Kp bc b c) : Kp bc a c :=
  ⟨k.os.trans h.os, k.tape.trans h.tape, k.output.trans h.output, Nat.le_trans h.size k.size, fun i hi hn => (k.block i (Nat.lt_of_lt_of_le hi h.size) hn).trans (h.block i hi hn)⟩
theorem Kp.of_below {bc : Nat} {a b : World} (h : Below a.heap.size a b) : Kp bc a b := ⟨h.os, h.tape, h.output, h.size, fun i hi _ => h.block i hi⟩
theorem Kp.below {bc B : Nat} {w0 a b : World} (h0 : Below B w0 a) (h : Kp bc a b) (hB : B ≤ bc) (hz : B ≤ a.heap.size) : Below B w0 b := h0.grown h hz (fun k hk => by injection hk with hk; omega)
theorem Kp.own {bc : Nat} {a b : World} {base : Nat} {e : TypeId} {size n : Nat} {v : Value} {xs : List Value} (h : a.ownsRow base e size v n xs) (hk : Kp bc a b) (hb : bc < base) : b.ownsRow base e size v n xs :=
  h.kept hk (by
    cases hv : v.ownBlock with
    | none => exact .inl rfl
    | some g =>
      refine .inr (fun he => ?_)
      have := (h.lt g hv).1
      injection he with he
      omega)
theorem Cur.below {w w' : World} {bc : Nat} {A : Option Addr} {n c K : Nat} (h : Cur w bc A n c K) (hb : Below w.heap.size w w') : Cur w' bc A n c K := by
  have hlt := h.lt
  obtain ⟨h1, p, s, hblk, hp, hs⟩ := h
  exact ⟨h1.below (hb.mono (by omega)), p, s, hblk.below hb hlt, hp, hs⟩

theorem Kp.drew {bc : Nat} {a b : World} (h : Kp bc a b) : Kp bc a b.drew := ⟨h.os, h.tape, h.output, h.size, h.block⟩
theorem Kp.put (w : World) (bc i : Nat) (u : Value) : Kp bc w (w.setCell ⟨bc, i, none⟩ u) :=
  ⟨rfl, rfl, rfl, by rw [World.size_setCell]; exact Nat.le_refl _, fun k _ hn => Below.heap_setCell w ⟨bc, i, none⟩ u k (fun e => hn (by rw [e]))⟩
end Go.Proofs.YtmbcjddahncocaaDoor

namespace Go.Proofs.YtmbcjddahncocaaDoor
open Go.RowKit

theorem BytR.grown {w w' : World} {B : Nat} {A : Option Addr} {n : Nat} {row : Option Nat} (h : BytR w B A n) (hg : w.grownBy w' row) (hB : B ≤ w.heap.size) (hr : ∀ k, row = some k → B ≤ k) : BytR w' B A n :=
  h.below ((Below.refl B w).grown hg hB hr)
theorem Cur.grown {w w' : World} {bc : Nat} {A : Option Addr} {n c K : Nat} {row : Option Nat} (h : Cur w bc A n c K) (hg : w.grownBy w' row) (hr : ∀ k, row = some k → bc < k) : Cur w' bc A n c K := by
  have hlt := h.lt
  obtain ⟨h1, p, s, hblk, hp, hs⟩ := h
  exact ⟨h1.grown hg (by omega) (fun k hk => by have := hr k hk; omega), p, s, hblk.grown hg (fun he => by have := hr bc he.symm; omega), hp, hs⟩
theorem Cur.alloc {w : World} {bc : Nat} {A : Option Addr} {n c K : Nat} (h : Cur w bc A n c K) (o : Obj) : Cur (w.alloc o) bc A n c K := h.below ((Below.refl _ _).alloc (Nat.le_refl _) o)
theorem Kp.alloc {bc : Nat} {a b : World} (h : Kp bc a b) (o : Obj) : Kp bc a (b.alloc o) := h.trans (Kp.of_below ((Below.refl _ _).alloc (Nat.le_refl _) o))
theorem Kp.blk {bc g : Nat} {a b : World} {t : TypeId} {cs : Array Value} (hb : Blk a g t cs) (h : Kp bc a b) (hne : g ≠ bc) : Blk b g t cs := hb.grown h (fun he => by injection he with he; exact hne he)
theorem Kp.more {bc : Nat} {a b c : World} {row : Option Nat} (h : Kp bc a b) (k : b.grownBy c row) (hr : ∀ j, row = some j → a.heap.size ≤ j) : Kp bc a c := h.andThen k (fun j hj => .inl (hr j hj))

end Go.Proofs.YtmbcjddahncocaaDoor

namespace Go.Proofs.YtmbcjddahncocaaDoor
open Go.RowKit

/-- what a search for a parameter finds -/
def FoundP (l : List (Int × Int)) (p i : Int) : Prop := (i = -1 ∧ ∀ k, k < l.length → (l.getD k (0, 0)).1 ≠ p) ∨ (0 ≤ i ∧ ∃ k, k < l.length ∧ (l.getD k (0, 0)).1 = p)
open Classical in
/-- whether an atom bears the parameter -/
noncomputable def hasP (l : List (Int × Int)) (p : Int) : Bool := decide (∃ k, k < l.length ∧ (l.getD k (0, 0)).1 = p)
theorem hasP_iff (l : List (Int × Int)) (p : Int) : hasP l p = true ↔ ∃ k, k < l.length ∧ (l.getD k (0, 0)).1 = p := by simp [hasP]
theorem hasP_yes {l : List (Int × Int)} {p : Int} {k : Nat} (h : k < l.length) (e : (l.getD k (0, 0)).1 = p) : hasP l p = true := (hasP_iff l p).2 ⟨k, h, e⟩
theorem hasP_no {l : List (Int × Int)} {p : Int} (h : ∀ k, k < l.length → (l.getD k (0, 0)).1 ≠ p) : hasP l p = false := by
  cases e : hasP l p with
  | false => rfl
  | true => obtain ⟨k, h1, h2⟩ := (hasP_iff l p).1 e; exact absurd h2 (h k h1)
theorem FoundP.has {l : List (Int × Int)} {p i : Int} (h : FoundP l p i) : hasP l p = decide (0 ≤ i) := by
  rcases h with ⟨rfl, h⟩ | ⟨h0, k, h1, h2⟩
  · rw [hasP_no h]; rfl
  · rw [hasP_yes h1 h2, decide_eq_true h0]

end Go.Proofs.YtmbcjddahncocaaDoor

namespace Go.Proofs.YtmbcjddahncocaaDoor.Dc
open Go.Proofs.YtmbcjddahncocaaDoor.Nm

theorem drop_get {l : List At} {k : Nat} (hk : k < l.length) : l.drop k = l.getD k (0, 0) :: l.drop (k + 1) := by
  rw [List.drop_eq_getElem_cons hk, List.getD_eq_getElem?_getD, List.getElem?_eq_getElem hk, Option.getD_some]
end Go.Proofs.YtmbcjddahncocaaDoor.Dc
