/- A region that draws its order, whose own operations only read and whose callees may make memory but turn none that was there: one walk, in the order of the text, over the class of all later worlds. -/
/- NormOk of the reference model. -/
/- NormUp of the program and of the reference model. -/
import Derived.Test.YtmmhcpigcdlnmaaBase
import Derived.Test.YtmmhcpigcdlnmaaNOk2
import Derived.Test.YtmmhcpigcdlnmaaJoin
import Derived.Deep.AppendLies

namespace Go.Proofs.Ytmmhcpigcdlnmaa
open Go.RowKit

/-- a world in which all that w holds is as it was -/
structure Later (w : World) : Type where
  out : World
  bel : Below w.heap.size w out
instance (w : World) : Nonempty (Later w) := ⟨⟨w, Below.refl _ _⟩⟩
theorem Later.cell {w : World} (d : Later w) {p : Addr} {v : Value} (hp : p.block < w.heap.size) (h : w.cell? p = some v) : d.out.cell? p = some v := (d.bel.cell hp).trans h

theorem region_later {P : Program} {id : Nat} {Q : Exit → Act → World → Prop} {a : Act} {w : World} {l : List Oper} (hm : P.follows .mixedOrders = true) (hB : Region.lexB .any l.toArray = true)
    (h : wpQuiet P l.toArray (fun w' => ∃ d : Later w, w' = d.out) (fun a' => ∀ w', Below w.heap.size w w' → Q .normal a' w') l a) : (Code.region id l.toArray true).wp P Q a w := by
  have e : (fun a' => ∀ w', (∃ d : Later w, w' = d.out) → Q .normal a' w') = fun a' => ∀ w', Below w.heap.size w w' → Q .normal a' w' := by
    funext a'
    apply propext
    constructor
    · intro h w' hb
      exact h w' ⟨⟨w', hb⟩, rfl⟩
    · rintro h w' ⟨d, rfl⟩
      exact h d.out d.bel
  refine wp_region_quiet (C := fun w' => ∃ d : Later w, w' = d.out) hm hB ⟨⟨w.drew, (Below.refl _ _).drew⟩, rfl⟩ ?_
  rw [e]
  exact h

/-- a callee's contract, met in a later world -/
theorem calls_later {P : Program} {f : FuncId} {args : Array Value} {w : World} {d : Later w} {v : Value} (h : Calls P f args d.out fun e w' => e = .returned v ∧ Below d.out.heap.size d.out w') :
    Calls P f args d.out fun e w'' => e = .returned v ∧ ∃ d' : Later w, w'' = d'.out :=
  h.mono fun _ w'' ⟨he, hb⟩ => ⟨he, ⟨w'', d.bel.trans (hb.mono d.bel.size)⟩, rfl⟩
theorem calls_later_same {P : Program} {f : FuncId} {args : Array Value} {w : World} {d : Later w} {v : Value} (h : Calls P f args d.out fun e w' => e = .returned v ∧ d.out = w') :
    Calls P f args d.out fun e w'' => e = .returned v ∧ ∃ d' : Later w, w'' = d'.out :=
  h.mono fun _ _ ⟨he, hb⟩ => ⟨he, d, hb.symm⟩
end Go.Proofs.Ytmmhcpigcdlnmaa

namespace Go.Proofs.Ytmmhcpigcdlnmaa
open Go.RowKit

set_option maxRecDepth 100000 in
set_option maxHeartbeats 800000 in
theorem specAtom_any (p x : Int) (w : World) :
    Calls Try.prog 97 #[.agg #[.int .i64 p, .int .i64 x]] w fun e w' => e = .returned (.bool (Nm.atOk (p, x))) ∧ Below w.heap.size w w' := by
  have HB : Hid (Below w.heap.size w (w.alloc (.cells #[.int .i64 p, .int .i64 x] 57))) := (Below.refl _ _).alloc (Nat.le_refl _) _
  by_cases g1 : p < -1
  · have HF : Hid (Nm.atOk (p, x) = false) := by show _ = _; simp [Nm.atOk]; omega
    go_enter Try.func97, Try.ntmps97
    go_wp2
    go_ret
    exact ⟨by rw [HF.out]; rfl, HB.out⟩
  · have g1' : -1 ≤ p := by omega
    by_cases g2 : 5 ≤ p
    · have HF : Hid (Nm.atOk (p, x) = false) := by show _ = _; simp [Nm.atOk]; omega
      go_enter Try.func97, Try.ntmps97
      go_wp2
      go_ret
      exact ⟨by rw [HF.out]; rfl, HB.out⟩
    · have g2' : p < 5 := by omega
      by_cases g3 : x < 0
      · have HF : Hid (Nm.atOk (p, x) = false) := by show _ = _; simp [Nm.atOk]; omega
        go_enter Try.func97, Try.ntmps97
        go_wp2
        go_ret
        exact ⟨by rw [HF.out]; rfl, HB.out⟩
      · have g3' : 0 ≤ x := by omega
        have HF : Hid (Nm.atOk (p, x) = decide (x ≤ 1000)) := by show _ = _; simp [Nm.atOk]; omega
        go_enter Try.func97, Try.ntmps97
        go_wp2
        go_ret
        exact ⟨by rw [HF.out]; rfl, HB.out⟩

/-- what the model has seen of the first k atoms -/
def SeenOk (l : List (Int × Int)) (k : Nat) : Prop := ∀ j, j < k → Nm.atOk (l.getD j (0, 0)) = true ∧ (0 < j → (l.getD (j - 1) (0, 0)).1 < (l.getD j (0, 0)).1 ∧ ((l.getD 0 (0, 0)).1 = -1 → (l.getD j (0, 0)).2 < (l.getD 0 (0, 0)).2))
theorem seen_step {l : List (Int × Int)} {k : Nat} (h : SeenOk l k) (h1 : Nm.atOk (l.getD k (0, 0)) = true) (h2 : 0 < k → (l.getD (k - 1) (0, 0)).1 < (l.getD k (0, 0)).1 ∧ ((l.getD 0 (0, 0)).1 = -1 → (l.getD k (0, 0)).2 < (l.getD 0 (0, 0)).2)) : SeenOk l (k + 1) := by
  intro j hj
  by_cases e : j = k
  · subst e; exact ⟨h1, h2⟩
  · exact h j (by omega)
theorem seen_all {l : List (Int × Int)} (h0 : 1 ≤ l.length) (h : SeenOk l l.length) : Nm.Ok l := by
  refine ⟨h0, fun k hk => (h k hk).1, fun k h0 hk => ((h k hk).2 h0).1, fun e k hk => ?_⟩
  rw [List.length_drop] at hk
  rw [Nm.getD_drop1]
  exact ((h (k + 1) (by omega)).2 (by omega)).2 e
theorem seen_of {l : List (Int × Int)} (h : Nm.Ok l) {k : Nat} (hk : k < l.length) : Nm.atOk (l.getD k (0, 0)) = true ∧ (0 < k → (l.getD (k - 1) (0, 0)).1 < (l.getD k (0, 0)).1 ∧ ((l.getD 0 (0, 0)).1 = -1 → (l.getD k (0, 0)).2 < (l.getD 0 (0, 0)).2)) := by
  refine ⟨h.2.1 k hk, fun h0 => ⟨h.2.2.1 k h0 hk, fun e => ?_⟩⟩
  have := h.2.2.2 e (k - 1) (by rw [List.length_drop]; omega)
  rw [Nm.getD_drop1, show k - 1 + 1 = k by omega] at this
  exact this

end Go.Proofs.Ytmmhcpigcdlnmaa

namespace Go.Proofs.Ytmmhcpigcdlnmaa
open Go.RowKit

/-- a call gives back a slice of atoms of its own and a bool -/
def ResA (w : World) (R : Option (List (Int × Int))) (e : Ending) (w' : World) : Prop :=
  ∃ A c, e = .returned (.tuple #[.slice A (R.getD []).length c, .bool R.isSome]) ∧ OwnA w' w.heap.size A (R.getD []).length c (R.getD []) ∧ Below w.heap.size w w'
theorem resA_none {w w' : World} (hb : Below w.heap.size w w') : ResA w none (.returned (.tuple #[.slice none 0 0, .bool false])) w' := ⟨none, 0, rfl, World.ownsRow_nil _ _ _ _, hb⟩

theorem own_put {w : World} {base g n c size : Nat} {e : TypeId} {xs : List Value} (h : w.ownsRow base e size (.slice (some ⟨g, 0, none⟩) n c) n xs) (i : Nat) (u : Value) :
    (w.setCell ⟨g, i, none⟩ u).ownsRow base e size (.slice (some ⟨g, 0, none⟩) n c) n (xs.set i u) := by
  refine ⟨by rw [List.length_set]; exact h.1, ?_⟩
  rcases h.2 with ⟨h0, _⟩ | ⟨g', cap, cur, hv, hb, hgg, h1, h2, h3, h4⟩
  · cases h0
  · injection hv with e1 e2 e3
    injection e1 with e1
    injection e1 with e1
    subst e1; subst e3
    refine .inr ⟨g, c, _, rfl, hb, Blk.put (w := w) (t := e) hgg i u, h1, h2, by simp [h3], ?_⟩
    rw [Array.toList_setIfInBounds, List.take_set, h4]
theorem tokCells_set (l : List (Int × Int)) (j : Nat) (p x y : Int) (h : l[j]? = some (p, x)) : tokCells (l.set j (p, y)) = (tokCells l).set (j * 2 + 1) (.int .i64 y) := by
  induction l generalizing j with
  | nil => simp at h
  | cons t r ih =>
    cases j with
    | zero =>
      simp at h
      subst h
      rfl
    | succ j =>
      rw [List.set_cons_succ, tokCells_cons, tokCells_cons, ih j (by simpa using h), show (j + 1) * 2 + 1 = j * 2 + 1 + 1 + 1 by omega, List.set_cons_succ, List.set_cons_succ]

theorem up_take (k : Int) (l : List (Int × Int)) (j : Nat) (hj : j < l.length) : Nm.up k (l.take (j + 1)) = Nm.up k (l.take j) ++ [((l.getD j (0, 0)).1, (l.getD j (0, 0)).2 + k)] := by
  have e : l.getD j (0, 0) = l[j] := by simp [List.getD_eq_getElem?_getD, List.getElem?_eq_getElem hj]
  rw [List.take_succ_eq_append_getElem hj, e]
  unfold Nm.up
  rw [List.map_append]
  rfl
/-- Offs that a number of this size may be added to -/
def Small (l : List (Int × Int)) : Prop := ∀ j, j < l.length → 0 ≤ (l.getD j (0, 0)).2 ∧ (l.getD j (0, 0)).2 ≤ 1000000

end Go.Proofs.Ytmmhcpigcdlnmaa
