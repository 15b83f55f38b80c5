/- The program's map of the greatest Offs, and whether its number is redundant. -/
/- The program's norm, read out of its map. -/
/- The reference model's norm of a list of atoms. -/
import Derived.Test.YtmmhcpigcdlnmaaNUp
import Derived.Maps.RangeWalk
import Derived.Maps.OwnSet

namespace Go.Proofs.Ytmmhcpigcdlnmaa
open Go.RowKit Go.Maps

set_option maxRecDepth 100000 in
theorem lawInt : Keyed Try.prog 3 := int_keyed Try.underlying3
set_option maxRecDepth 100000 in
theorem zeroInt (w : World) : (zeroValue 3).run Try.prog w = .ok (.int .i64 0) w := by kernel_rfl
abbrev ik (p : Int) : Lit := .int .i64 p
/-- the map D reads as: u tells its keys, o what stands at them -/
def Reads (D : DataW Unit) (u : Int → Bool) (o : Int → Int) : Prop := ∀ p : Int, Maps.has D (ik p) = u p ∧ (u p = true → ∀ z, D.atKey (ik p) z = .lit (.int .i64 (o p)))
def hasB (l : List (Int × Int)) (p : Int) : Bool := decide (0 ≤ Nm.best p l)
def GM (D : DataW Unit) (l : List (Int × Int)) : Prop := Reads D (hasB l) (fun p => Nm.best p l)

theorem gm_start : GM (.map []) [] := fun p => ⟨by simp [Maps.has, hasB, Nm.best], fun h => by simp [hasB, Nm.best] at h⟩
theorem ik_ne {p q : Int} (h : q ≠ p) : ik q ≠ ik p := by intro e; injection e with _ e; exact h e
theorem ik_key (p : Int) : WideAt.IsKeyLit (ik p) := trivial
theorem gm_step {D : DataW Unit} {l : List (Int × Int)} {k : Nat} {p x c : Int} (hk : k < l.length) (hp : l.getD k (0, 0) = (p, x)) (hx : 0 ≤ x) (h : GM D (l.take k)) (hD : IsMap D) (hc : D.atKey (ik p) (.lit (.int .i64 0)) = .lit (.int .i64 c)) :
    GM (D.put (ik p) (.lit (.int .i64 (if c < x then x else c)))) (l.take (k + 1)) := by
  intro q
  have hb := Nm.best_take q l k hk
  rw [hp] at hb
  simp only at hb
  have hge := Nm.best_ge q (l.take k)
  by_cases e : q = p
  · subst e
    rw [if_pos rfl] at hb
    have hcv : c = max (Nm.best q (l.take k)) 0 := by
      have h1 := h q
      by_cases hh : hasB (l.take k) q = true
      · have h2 : D.atKey (ik q) (.lit (.int .i64 0)) = .lit (.int .i64 (Nm.best q (l.take k))) := h1.2 hh (.lit (.int .i64 0))
        rw [h2] at hc
        injection hc with hc
        injection hc with _ hc
        simp [hasB] at hh
        omega
      · have h3 : Maps.has D (ik q) = false := by rw [h1.1]; simpa using hh
        rw [atKey_of_not_has h3] at hc
        injection hc with hc
        injection hc with _ hc
        simp [hasB] at hh
        omega
    have hv : (if c < x then x else c) = Nm.best q (l.take (k + 1)) := by rw [hb]; split <;> omega
    refine ⟨?_, fun _ z => ?_⟩
    · rw [has_put_same hD (ik_key q), hasB, hb]; symm; simp; omega
    · rw [atKey_put_same hD (ik_key q), hv]
  · rw [if_neg (fun h => e h.symm)] at hb
    have h1 := h q
    refine ⟨?_, fun hu z => ?_⟩
    · rw [has_put_other (ik_ne e), h1.1, hasB, hasB, hb]
    · rw [atKey_put_other (ik_ne e)]
      have := h1.2 (by rw [hasB] at hu ⊢; rw [hb] at hu; exact hu) z
      rw [this]
      show DataW.lit (.int .i64 (Nm.best q (l.take k))) = .lit (.int .i64 (Nm.best q (l.take (k + 1))))
      rw [hb]

/-- the number is redundant -/
def redB (l : List (Int × Int)) : Bool := decide (0 ≤ Nm.best (-1) l ∧ Nm.best (-1) l ≤ Nm.most l 5)

theorem gm_at {D : DataW Unit} {l : List (Int × Int)} (h : GM D l) {x c : Int} (hat : ∀ z, D.atKey (ik x) z = .lit (.int .i64 c)) : 0 ≤ Nm.best x l ∧ c = Nm.best x l := by
  have hh : Maps.has D (ik x) = true := has_true_of_atKey hat
  have h1 := h x
  rw [h1.1] at hh
  have h2 : D.atKey (ik x) (.lit (.int .i64 0)) = .lit (.int .i64 (Nm.best x l)) := h1.2 hh _
  rw [hat] at h2
  injection h2 with h2
  injection h2 with _ h2
  exact ⟨by simpa [hasB] using hh, h2⟩
theorem best_range {l : List (Int × Int)} (h : Nm.AllOk l) {p : Int} (hb : 0 ≤ Nm.best p l) : -1 ≤ p ∧ p < 5 := by
  have := h.mem (Nm.best_at (p := p) (l := l) (by omega))
  exact ⟨this.1, this.2.1⟩
theorem same_ik (a b : Int) : (ik a).sameKey (ik b) = decide (a = b) := by
  by_cases e : a = b
  · subst e; rw [(WideAt.sameKey_iff (ik_key a)).2 rfl]; simp
  · rw [Maps.sameKey_ne (ik_ne e)]; simp [e]

end Go.Proofs.Ytmmhcpigcdlnmaa

namespace Go.Proofs.Ytmmhcpigcdlnmaa
open Go.RowKit Go.Maps

def arrI (V : Nat → Int) : Array Value := #[.int .i64 (V 0), .int .i64 (V 1), .int .i64 (V 2), .int .i64 (V 3), .int .i64 (V 4), .int .i64 (V 5)]
def arrB (U : Nat → Bool) : Array Value := #[.bool (U 0), .bool (U 1), .bool (U 2), .bool (U 3), .bool (U 4), .bool (U 5)]
theorem six {k : Nat} (h : k < 6) : k = 0 ∨ k = 1 ∨ k = 2 ∨ k = 3 ∨ k = 4 ∨ k = 5 := by omega
theorem arrI_put (V : Nat → Int) (k : Nat) (h : k < 6) (v : Int) : (arrI V).setIfInBounds k (.int .i64 v) = arrI (fun i => if i = k then v else V i) := by
  rcases six h with rfl | rfl | rfl | rfl | rfl | rfl <;> rfl
theorem arrB_put (U : Nat → Bool) (k : Nat) (h : k < 6) (v : Bool) : (arrB U).setIfInBounds k (.bool v) = arrB (fun i => if i = k then v else U i) := by
  rcases six h with rfl | rfl | rfl | rfl | rfl | rfl <;> rfl
theorem arrI_at (V : Nat → Int) (k : Nat) (h : k < 6) : (arrI V)[k]? = some (.int .i64 (V k)) := by
  rcases six h with rfl | rfl | rfl | rfl | rfl | rfl <;> rfl
theorem arrB_at (U : Nat → Bool) (k : Nat) (h : k < 6) : (arrB U)[k]? = some (.bool (U k)) := by
  rcases six h with rfl | rfl | rfl | rfl | rfl | rfl <;> rfl
set_option maxRecDepth 100000 in
theorem run_index6 (V : Nat → Int) (k : Nat) (h : k < 6) (wx : World) : (Instr.index 68 (.agg (arrI V)) (.int .i64 (k : Int))).run Try.prog wx = .ok (.int .i64 (V k)) wx := by
  rcases six h with rfl | rfl | rfl | rfl | rfl | rfl <;> kernel_rfl

/-- what the two arrays hold while some entries are still to come -/
def Filled (u : Int → Bool) (o : Int → Int) (left : Lit → Bool) (V : Nat → Int) (U : Nat → Bool) : Prop :=
  ∀ i : Nat, i < 6 → U i = (u ((i : Int) - 1) && !left (ik ((i : Int) - 1))) ∧ (U i = true → V i = o ((i : Int) - 1))
theorem filled_step {u : Int → Bool} {o : Int → Int} {left : Lit → Bool} {V : Nat → Int} {U : Nat → Bool} {k : Nat} (h : Filled u o left V U) (hu : u ((k : Int) - 1) = true) :
    Filled u o (fun z => left z && !z.sameKey (ik ((k : Int) - 1))) (fun i => if i = k then o ((k : Int) - 1) else V i) (fun i => if i = k then true else U i) := by
  intro i hi
  by_cases e : i = k
  · subst e
    simp [same_ik, hu]
  · have := h i hi
    have hne : ¬ ((i : Int) - 1 = (k : Int) - 1) := by omega
    simp only [e, if_false, same_ik, hne, decide_false, Bool.not_false, Bool.and_true]
    exact this

theorem readOut_take (u : Int → Bool) (o : Int → Int) (k : Nat) : Nm.readOut u o (k + 1) = Nm.readOut u o k ++ if u ((k : Int) - 1) = true then [((k : Int) - 1, o ((k : Int) - 1))] else [] := rfl

end Go.Proofs.Ytmmhcpigcdlnmaa

namespace Go.Proofs.Ytmmhcpigcdlnmaa
open Go.RowKit

set_option maxRecDepth 100000 in
theorem own_lit (w : World) (base : Nat) (a b : Int) (hb : base ≤ w.heap.size) : OwnA (w.alloc (.cells #[.int .i64 a, .int .i64 b] 57)) base (some ⟨w.heap.size, 0, none⟩) 1 1 [(a, b)] :=
  ⟨rfl, .inr ⟨w.heap.size, 1, #[.int .i64 a, .int .i64 b], rfl, hb, heap_alloc_new w _, Nat.le_refl _, by simp [maxLen], rfl, rfl⟩⟩

end Go.Proofs.Ytmmhcpigcdlnmaa
