/- A region that draws its order, whose own operations only read and whose callees may make memory but turn none that was there: one walk, in the order of the text, over the class of all later worlds. -/
/- NormOk of the reference model. -/
/- NormUp of the program and of the reference model. -/
import Derived.Test.YtghoofgfimeedaaDoorBase
import Derived.Test.YtghoofgfimeedaaDoorNOk2
import Derived.Test.YtghoofgfimeedaaDoorJoin
import Derived.Deep.AppendLies

namespace Go.Proofs.YtghoofgfimeedaaDoor
open Go.RowKit

/-- a world in which all that w holds is as it was -/
structure Later (w : World) : Type where
  out : World
  bel : Below w.heap.size w out
instance (w : World) : Nonempty (Later w) := ⟨⟨w, Below.refl _ _⟩⟩
theorem Later.cell {w : World} (d : Later w) {p : Addr} {v : Value} (hp : p.block < w.heap.size) (h : w.cell? p = some v) : d.out.cell? p = some v := (d.bel.cell hp).trans h

theorem region_later {P : Program} {id : Nat} {Q : Exit → Act → World → Prop} {a : Act} {w : World} {l : List Oper} (hm : P.follows .mixedOrders = true) (hB : Region.lexB .any l.toArray = true)
    (h : wpQuiet P l.toArray (fun w' => ∃ d : Later w, w' = d.out) (fun a' => ∀ w', Below w.heap.size w w' → Q .normal a' w') l a) : (Code.region id l.toArray true).wp P Q a w := by
  have e : (fun a' => ∀ w', (∃ d : Later w, w' = d.out) → Q .normal a' w') = fun a' => ∀ w', Below w.heap.size w w' → Q .normal a' w' := by
    funext a'
    apply propext
    constructor
    · intro h w' hb
      exact h w' ⟨⟨w', hb⟩, rfl⟩
    · rintro h w' ⟨d, rfl⟩
      exact h d.out d.bel
  refine wp_region_quiet (C := fun w' => ∃ d : Later w, w' = d.out) hm hB ⟨⟨w.drew, (Below.refl _ _).drew⟩, rfl⟩ ?_
  rw [e]
  exact h

/-- a callee's contract, met in a later world -/
theorem calls_later {P : Program} {f : FuncId} {args : Array Value} {w : World} {d : Later w} {v : Value} (h : Calls P f args d.out fun e w' => e = .returned v ∧ Below d.out.heap.size d.out w') :
    Calls P f args d.out fun e w'' => e = .returned v ∧ ∃ d' : Later w, w'' = d'.out :=
  h.mono fun _ w'' ⟨he, hb⟩ => ⟨he, ⟨w'', d.bel.trans (hb.mono d.bel.size)⟩, rfl⟩
theorem calls_later_same {P : Program} {f : FuncId} {args : Array Value} {w : World} {d : Later w} {v : Value} (h : Calls P f args d.out fun e w' => e = .returned v ∧ d.out = w') :
    Calls P f args d.out fun e w'' => e = .returned v ∧ ∃ d' : Later w, w'' = d'.out :=
  h.mono fun _ _ ⟨he, hb⟩ => ⟨he, d, hb.symm⟩
end Go.Proofs.YtghoofgfimeedaaDoor

namespace Go.Proofs.YtghoofgfimeedaaDoor
open Go.RowKit

set_option maxRecDepth 100000 in
set_option maxHeartbeats 800000 in
theorem specAtom_any (p x : Int) (w : World) :
    Calls Tryd.prog 128 #[.agg #[.int .i64 p, .int .i64 x]] w fun e w' => e = .returned (.bool (Nm.atOk (p, x))) ∧ Below w.heap.size w w' := by
  have HB : Hid (Below w.heap.size w (w.alloc (.cells #[.int .i64 p, .int .i64 x] 67))) := (Below.refl _ _).alloc (Nat.le_refl _) _
  by_cases g1 : p < -1
  · have HF : Hid (Nm.atOk (p, x) = false) := by show _ = _; simp [Nm.atOk]; omega
    go_enter Tryd.func128, Tryd.ntmps128
    go_wp2
    go_ret
    exact ⟨by rw [HF.out]; rfl, HB.out⟩
  · have g1' : -1 ≤ p := by omega
    by_cases g2 : 5 ≤ p
    · have HF : Hid (Nm.atOk (p, x) = false) := by show _ = _; simp [Nm.atOk]; omega
      go_enter Tryd.func128, Tryd.ntmps128
      go_wp2
      go_ret
      exact ⟨by rw [HF.out]; rfl, HB.out⟩
    · have g2' : p < 5 := by omega
      by_cases g3 : x < 0
      · have HF : Hid (Nm.atOk (p, x) = false) := by show _ = _; simp [Nm.atOk]; omega
        go_enter Tryd.func128, Tryd.ntmps128
        go_wp2
        go_ret
        exact ⟨by rw [HF.out]; rfl, HB.out⟩
      · have g3' : 0 ≤ x := by omega
        have HF : Hid (Nm.atOk (p, x) = decide (x ≤ 1000)) := by show _ = _; simp [Nm.atOk]; omega
        go_enter Tryd.func128, Tryd.ntmps128
        go_wp2
        go_ret
        exact ⟨by rw [HF.out]; rfl, HB.out⟩

/-- what the model has seen of the first k atoms -/
def SeenOk (l : List (Int × Int)) (k : Nat) : Prop := ∀ j, j < k → Nm.atOk (l.getD j (0, 0)) = true ∧ (0 < j → (l.getD (j - 1) (0, 0)).1 < (l.getD j (0, 0)).1 ∧ ((l.getD 0 (0, 0)).1 = -1 → (l.getD j (0, 0)).2 < (l.getD 0 (0, 0)).2))
theorem seen_step {l : List (Int × Int)} {k : Nat} (h : SeenOk l k) (h1 : Nm.atOk (l.getD k (0, 0)) = true) (h2 : 0 < k → (l.getD (k - 1) (0, 0)).1 < (l.getD k (0, 0)).1 ∧ ((l.getD 0 (0, 0)).1 = -1 → (l.getD k (0, 0)).2 < (l.getD 0 (0, 0)).2)) : SeenOk l (k + 1) := by
  intro j hj
  by_cases e : j = k
  · subst e; exact ⟨h1, h2⟩
  · exact h j (by omega)
theorem seen_all {l : List (Int × Int)} (h0 : 1 ≤ l.length) (h : SeenOk l l.length) : Nm.Ok l := by
  refine ⟨h0, fun k hk => (h k hk).1, fun k h0 hk => ((h k hk).2 h0).1, fun e k hk => ?_⟩
  rw [List.length_drop] at hk
  rw [Nm.getD_drop1]
  exact ((h (k + 1) (by omega)).2 (by omega)).2 e
theorem seen_of {l : List (Int × Int)} (h : Nm.Ok l) {k : Nat} (hk : k < l.length) : Nm.atOk (l.getD k (0, 0)) = true ∧ (0 < k → (l.getD (k - 1) (0, 0)).1 < (l.getD k (0, 0)).1 ∧ ((l.getD 0 (0, 0)).1 = -1 → (l.getD k (0, 0)).2 < (l.getD 0 (0, 0)).2)) := by
  refine ⟨h.2.1 k hk, fun h0 => ⟨h.2.2.1 k h0 hk, fun e => ?_⟩⟩
  have := h.2.2.2 e (k - 1) (by rw [List.length_drop]; omega)
  rw [Nm.getD_drop1, show k - 1 + 1 = k by omega] at this
  exact this

end Go.Proofs.YtghoofgfimeedaaDoor

namespace Go.Proofs.YtghoofgfimeedaaDoor
open Go.RowKit

/-- a call gives back a slice of atoms of its own and a bool -/
def ResA (w : World) (R : Option (List (Int × Int))) (e : Ending) (w' : World) : Prop :=
  ∃ A c, e = .returned (.tuple #[.slice A (R.getD []).length c, .bool R.isSome]) ∧ OwnA w' w.heap.size A (R.getD []).length c (R.getD []) ∧ Below w.heap.size w w'
theorem resA_none {w w' : World} (hb : Below w.heap.size w w') : ResA w none (.returned (.tuple #[.slice none 0 0, .bool false])) w' := ⟨none, 0, rfl, World.ownsRow_nil _ _ _ _, hb⟩

theorem own_put {w : World} {base g n c size : Nat} {e : TypeId} {xs : List Value} (h : w.ownsRow base e size (.slice (some ⟨g, 0, none⟩) n c) n xs) (i : Nat) (u : Value) :
    (w.setCell ⟨g, i, none⟩ u).ownsRow base e size (.slice (some ⟨g, 0, none⟩) n c) n (xs.set i u) := by
  refine ⟨by rw [List.length_set]; exact h.1, ?_⟩
  rcases h.2 with ⟨h0, _⟩ | ⟨g', cap, cur, hv, hb, hgg, h1, h2, h3, h4⟩
  · cases h0
  · injection hv with e1 e2 e3
    injection e1 with e1
    injection e1 with e1
    subst e1; subst e3
    refine .inr ⟨g, c, _, rfl, hb, Blk.put (w := w) (t := e) hgg i u, h1, h2, by simp [h3], ?_⟩
    rw [Array.toList_setIfInBounds, List.take_set, h4]
theorem tokCells_set (l : List (Int × Int)) (j : Nat) (p x y : Int) (h : l[j]? = some (p, x)) : tokCells (l.set j (p, y)) = (tokCells l).set (j * 2 + 1) (.int .i64 y) := by
  induction l generalizing j with
  | nil => simp at h
  | cons t r ih =>
    cases j with
    | zero =>
      simp at h
      subst h
      rfl
    | succ j =>
      rw [List.set_cons_succ, tokCells_cons, tokCells_cons, ih j (by simpa using h), show (j + 1) * 2 + 1 = j * 2 + 1 + 1 + 1 by omega, List.set_cons_succ, List.set_cons_succ]

theorem up_take (k : Int) (l : List (Int × Int)) (j : Nat) (hj : j < l.length) : Nm.up k (l.take (j + 1)) = Nm.up k (l.take j) ++ [((l.getD j (0, 0)).1, (l.getD j (0, 0)).2 + k)] := by
  have e : l.getD j (0, 0) = l[j] := by simp [List.getD_eq_getElem?_getD, List.getElem?_eq_getElem hj]
  rw [List.take_succ_eq_append_getElem hj, e]
  unfold Nm.up
  rw [List.map_append]
  rfl
/-- Offs that a number of this size may be added to -/
def Small (l : List (Int × Int)) : Prop := ∀ j, j < l.length → 0 ≤ (l.getD j (0, 0)).2 ∧ (l.getD j (0, 0)).2 ≤ 1000000

set_option maxRecDepth 100000 in
set_option maxHeartbeats 1600000 in
theorem specUp_any (w : World) (B : Nat) (A : Option Addr) (n c : Nat) (l : List (Int × Int)) (x : Int) (hB : B ≤ w.heap.size) (hl : TokR w B A n l) (hn : n ≤ 1000) (hs : Small l) (hx0 : 0 ≤ x) (hx1 : x ≤ 1000000) :
    Calls Tryd.prog 60 #[.slice A n c, .int .i64 x] w fun e w' => ∃ g cap, e = .returned (.slice (some ⟨g, 0, none⟩) n cap) ∧ OwnA w' w.heap.size (some ⟨g, 0, none⟩) n cap (Nm.up x l) ∧ Below w.heap.size w w' := by
  obtain ⟨i0, hi, hz0, hz1, hz2⟩ := info_parts info_atom
  have HS := Lib.hid hs
  have HO0 : Hid (OwnA (w.alloc (.cells #[] 67)) w.heap.size (some ⟨w.heap.size, 0, none⟩) 0 0 []) := World.ownsRow_made w #[] 0 (Nat.le_refl _) (by simp [maxLen]) (by simp)
  have HB0 : Hid (Below w.heap.size w (w.alloc (.cells #[] 67))) := (Below.refl _ _).alloc (Nat.le_refl _) _
  clear hs
  go_enter Tryd.func60, Tryd.ntmps60
  go_wp2
  go_loopw [5, 6] (fun v i wr => ∃ (k g cap : Nat), k ≤ n ∧ i = .int .i64 k ∧ v = .slice (some ⟨g, 0, none⟩) k cap ∧ OwnA wr w.heap.size (some ⟨g, 0, none⟩) k cap (Nm.up x (l.take k)) ∧ Below w.heap.size w wr) (fun _ i _ => n - (intOf i).toNat)
  case atStart => exact ⟨0, w.heap.size, 0, Nat.zero_le _, rfl, rfl, HO0.out, HB0.out⟩
  case round =>
    obtain ⟨k, g, cap, hk, rfl, rfl, hown, hbel⟩ := hrel
    have hszr := hbel.size
    by_cases hlt : k < n
    · have HU := Lib.hid (up_take x l k (by rw [hl.1]; exact hlt))
      have hsm := HS.out k (by rw [hl.1]; exact hlt)
      obtain ⟨b, off, rfl, hb, hc⟩ := hl.2 (by omega)
      obtain ⟨e1, e2⟩ := hc k hlt
      have HL := Lib.hid hl
      generalize Nm.up x (l.take k) = a at hown HU
      generalize l.getD k (0, 0) = t at e1 e2 HU hsm
      obtain ⟨p, y⟩ := t
      simp only at e1 e2 HU hsm
      obtain ⟨y0, y1⟩ := hsm
      have k1 := (hbel.cell (p := ⟨b, off + k * 2, none⟩) (by show b < _; omega)).trans e1
      have k2 := (hbel.cell (p := ⟨b, off + k * 2 + 1, none⟩) (by show b < _; omega)).trans e2
      have hw1 : IntKind.i64.wrap (y + x) = y + x := by rw [IntKind.wrap_i64]; omega
      have hki : (k : Int) < (n : Int) := by omega
      have H1 : Hid (OwnA (wr.alloc (.cells #[.int .i64 p, .int .i64 (y + x)] 67)).drew w.heap.size (some ⟨g, 0, none⟩) k cap a) := (hown.alloc _).drew
      have H2 : Hid (Below w.heap.size w (wr.alloc (.cells #[.int .i64 p, .int .i64 (y + x)] 67)).drew) := (hbel.alloc hszr _).drew
      have H3 : Hid (∀ j u, ([Value.int .i64 p, .int .i64 (y + x)] : List Value)[j]? = some u → (wr.alloc (.cells #[.int .i64 p, .int .i64 (y + x)] 67)).drew.cell? ((⟨wr.heap.size, 0, none⟩ : Addr).add j) = some u) := World.news_of_block (cs := #[.int .i64 p, .int .i64 (y + x)]) (t := 67) (fr := (0, 0)) (heap_alloc_new wr _)
      have HGL : Hid (∀ j, (Value.slice (some ⟨g, 0, none⟩) k cap).ownBlock = some j → w.heap.size ≤ j) := fun j h => (hown.lt j h).1
      have HE1 := Lib.hid e1
      have HE2 := Lib.hid e2
      have hbw : b < w.heap.size := by omega
      clear e1 e2 hc hl hown
      go_wp2_with fail
      go_region_held3 (fun w' => w'.cell? ⟨b, off + k * 2, none⟩ = some (.int .i64 p) ∧ w'.cell? ⟨b, off + k * 2 + 1, none⟩ = some (.int .i64 y))
        (first
          | go_keep
          | exact ⟨((H2.out.grown hgrow (by simp; omega) HGL.out).cell (p := ⟨b, off + k * 2, none⟩) hbw).trans HE1.out, ((H2.out.grown hgrow (by simp; omega) HGL.out).cell (p := ⟨b, off + k * 2 + 1, none⟩) hbw).trans HE2.out⟩)
        ((refine step_append_lies _ (by rfl) _ _ _ (by rfl) w.heap.size 67 i0 _ 2 16 Tryd.underlying26 hi hz0 hz1 hz2 rfl (by omega) (.slice (some ⟨g, 0, none⟩) k cap) k (tokCells a) (by rfl) H1.out
            ⟨wr.heap.size, 0, none⟩ 1 1 [.int .i64 p, .int .i64 (y + x)] (by rfl) (by rfl) H3.out (by simp [Value.oneCell']) (by omega) (by unfold maxLen; omega) (by omega) (by simp; omega) (wr.heap.size + 1) (by simp) ?_; intro g' cap' w3 hown' hgrow hat hlt3))
      have HB3 : Hid (Below w.heap.size w w3) := H2.out.grown hgrow (by simp; omega) HGL.out
      have HW : Hid (OwnA w3 w.heap.size (some ⟨g', 0, none⟩) (k + 1) cap' (Nm.up x (l.take (k + 1)))) := by
        show OwnA _ _ _ _ _ _
        rw [HU.out]
        unfold OwnA
        rw [tokCells_append]
        exact hown'
      clear hown' hgrow hat hlt3
      go_wp2
      go_roundw
      case rel => exact ⟨k + 1, g', cap', by omega, by go_num, rfl, HW.out, HB3.out⟩
      case measure => simp [intOf]; omega
    · obtain rfl : k = n := by omega
      rw [List.take_of_length_le (by have := hl.1; omega)] at hown
      have HW := Lib.hid hown
      clear hl hown
      go_wp2
      go_ret
      exact ⟨g, cap, rfl, HW.out, hbel⟩
end Go.Proofs.YtghoofgfimeedaaDoor
