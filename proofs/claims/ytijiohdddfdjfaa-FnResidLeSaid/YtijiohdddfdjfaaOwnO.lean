/- Rows of atoms of the call's own that may begin inside their block: what they read, what keeps them, and the laws' marks on them. -/
import Derived.Test.YtijiohdddfdjfaaAtLaws
namespace Go.Proofs.Ytijiohdddfdjfaa
open Go.RowKit

/-- a row of atoms of the call's own, wherever in its block it begins -/
def OwnO (w : World) (base : Nat) (A : Option Addr) (n c : Nat) (xs : List Value) : Prop :=
  xs.length = n * 2 ∧ ((A = none ∧ n = 0 ∧ c = 0) ∨ ∃ g o cur, A = some ⟨g, o, none⟩ ∧ base ≤ g ∧ Blk w g 30 cur ∧ n ≤ c ∧ o + c * 2 = cur.size ∧ ∀ j, j < n * 2 → cur[o + j]? = xs[j]?)
theorem OwnO.of {w : World} {base : Nat} {A : Option Addr} {n c : Nat} {xs : List Value} (h : w.ownsRow base 30 2 (.slice A n c) n xs) : OwnO w base A n c xs := by
  refine ⟨h.1, ?_⟩
  rcases h.2 with ⟨h0, h1⟩ | ⟨g, cap, cur, hv, hb, hgg, h1, h2, h3, h4⟩
  · injection h0 with e1 e2 e3
    exact .inl ⟨e1, h1, e3⟩
  · injection hv with e1 e2 e3
    subst e3
    refine .inr ⟨g, 0, cur, e1, hb, hgg, h1, by omega, fun j hj => ?_⟩
    rw [Nat.zero_add, ← h4, List.getElem?_take_of_lt hj, Array.getElem?_toList]
theorem OwnO.tail {w : World} {base g n c : Nat} {l : List (Int × Int)} (h : OwnA w base (some ⟨g, 0, none⟩) (n + 1) c l) : OwnO w base (some ⟨g, 2, none⟩) n (c - 1) (tokCells (l.drop 1)) := by
  have hl : l.length = n + 1 := by have := h.1; rw [tokCells_len] at this; omega
  rcases h.2 with ⟨h0, h1⟩ | ⟨g', cap, cur, hv, hb, hgg, h1, h2, h3, h4⟩
  · cases h0
  · injection hv with e1 e2 e3
    injection e1 with e1
    injection e1 with e1
    subst e1; subst e3
    refine ⟨by rw [tokCells_len, List.length_drop]; omega, .inr ⟨g, 2, cur, rfl, hb, hgg, by omega, by omega, fun j hj => ?_⟩⟩
    match l, hl with
    | a :: r, hl =>
      have ht : tokCells (a :: r) = .int .i64 a.1 :: .int .i64 a.2 :: tokCells r := rfl
      have h5 : (cur.toList.take ((n + 1) * 2))[2 + j]? = (tokCells (a :: r))[2 + j]? := by rw [h4]
      rw [List.getElem?_take_of_lt (by omega), Array.getElem?_toList, ht] at h5
      rw [h5, show 2 + j = j + 1 + 1 by omega, List.getElem?_cons_succ, List.getElem?_cons_succ, List.drop_one, List.tail_cons]
theorem OwnO.lt {w : World} {base : Nat} {A : Option Addr} {n c : Nat} {xs : List Value} (h : OwnO w base A n c xs) (k : Nat) (hk : (Value.slice A n c).ownBlock = some k) : base ≤ k ∧ k < w.heap.size := by
  rcases h.2 with ⟨rfl, _⟩ | ⟨g, o, cur, rfl, hb, hblk, _⟩
  · cases hk
  · have : g = k := by simpa [Value.ownBlock] using hk
    subst this
    exact ⟨hb, hblk.lt⟩
theorem at_in {w : World} {base : Nat} {A : Option Addr} {n c : Nat} {xs : List Value} (h : OwnO w base A n c xs) : InR (.slice A n c) base w.heap.size := fun k hk => h.lt k hk
theorem at_below {w w' : World} {B base : Nat} {A : Option Addr} {n c : Nat} {xs : List Value} (h : OwnO w base A n c xs) (hb : Below B w w') (hB : ∀ k, (Value.slice A n c).ownBlock = some k → k < B) : OwnO w' base A n c xs := by
  refine ⟨h.1, ?_⟩
  rcases h.2 with hn | ⟨g, o, cur, rfl, hbg, hblk, rest⟩
  · exact .inl hn
  · exact .inr ⟨g, o, cur, rfl, hbg, (hb.block g (hB g rfl)).trans hblk, rest⟩
theorem at_below' {w w' : World} {base : Nat} {A : Option Addr} {n c : Nat} {xs : List Value} (h : OwnO w base A n c xs) (hb : Below w.heap.size w w') : OwnO w' base A n c xs :=
  at_below h hb (fun k hk => (h.lt k hk).2)
theorem at_base {w : World} {base base' : Nat} {A : Option Addr} {n c : Nat} {xs : List Value} (h : OwnO w base A n c xs) (hb : base' ≤ base) : OwnO w base' A n c xs := by
  refine ⟨h.1, ?_⟩
  rcases h.2 with hn | ⟨g, o, cur, rfl, hbg, rest⟩
  · exact .inl hn
  · exact .inr ⟨g, o, cur, rfl, by omega, rest⟩
theorem at_kept {w w' : World} {base : Nat} {A : Option Addr} {n c : Nat} {xs : List Value} {row : Option Nat} (h : OwnO w base A n c xs) (hg : w.grownBy w' row) (hne : ∀ k, (Value.slice A n c).ownBlock = some k → row ≠ some k) : OwnO w' base A n c xs := by
  refine ⟨h.1, ?_⟩
  rcases h.2 with hn | ⟨g, o, cur, rfl, hbg, hblk, rest⟩
  · exact .inl hn
  · exact .inr ⟨g, o, cur, rfl, hbg, (hg.block g hblk.lt (fun e => hne g rfl e.symm)).trans hblk, rest⟩
theorem at_markKept {w w' : World} {base : Nat} {A : Option Addr} {n c : Nat} {xs : List Value} {v : Value} {lo hi lo' hi' : Nat} (hu : OwnO w base A n c xs) (hg : w.grownBy w' v.ownBlock)
    (hv : InR v lo hi) (hui : InR (.slice A n c) lo' hi') (hd : hi ≤ lo' ∨ hi' ≤ lo) : OwnO w' base A n c xs :=
  at_kept hu hg fun k hk he => by
    have h1 := hui k hk
    have h2 := hv k he
    omega
theorem at_markBelow {w0 w w' : World} {B : Nat} {v : Value} {lo hi : Nat} (h : Below B w0 w) (hg : w.grownBy w' v.ownBlock) (hv : InR v lo hi) (hb : B ≤ lo) (hB : B ≤ w.heap.size) : Below B w0 w' :=
  h.grown hg hB (fun k hk => Nat.le_trans hb (hv k hk).1)
theorem at_reads {w : World} {base : Nat} {A : Option Addr} {n c : Nat} {l : List (Int × Int)} (h : OwnO w base A n c (tokCells l)) : TokR w w.heap.size A n l := by
  have hl : l.length = n := by have := h.1; rw [tokCells_len] at this; omega
  refine ⟨hl, fun hn => ?_⟩
  rcases h.2 with ⟨_, h0, _⟩ | ⟨g, o, cur, rfl, hb, hblk, h1, h2, h3⟩
  · omega
  · refine ⟨g, o, rfl, hblk.lt, fun k hk => ?_⟩
    have ht := tokCells_at l k (by omega)
    have h5 := (hblk.cell (o + k * 2)).trans ((h3 (k * 2) (by omega)).trans ht.1)
    have h6 := (hblk.cell (o + k * 2 + 1)).trans ((h3 (k * 2 + 1) (by omega)).trans ht.2)
    exact ⟨h5, h6⟩

/-- the first j cells of a row that begins at o are marked -/
def MarkingO (w : World) (g : Nat) (sz o k j : Nat) (wr : World) : Prop :=
  w.grownBy wr (some g) ∧ wr.heap.size = w.heap.size ∧ ∃ cs, Blk wr g 30 cs ∧ cs.size = sz ∧ ∀ i, i < j → cs[o + i]? = some (.int .i64 ((k + i : Nat) : Int))
theorem markingO_step {w wr : World} {g sz o k j : Nat} (h : MarkingO w g sz o k j wr) (hj : o + j < sz) : MarkingO w g sz o k (j + 1) (wr.setCell ⟨g, o + j, none⟩ (.int .i64 ((k + j : Nat) : Int))) := by
  obtain ⟨hg, hz, cs, hblk, hs, hc⟩ := h
  refine ⟨⟨hg.os, hg.tape, hg.output, by simpa [World.setCell] using hg.size, fun i hi hne => (Below.heap_setCell wr ⟨g, o + j, none⟩ _ i (by intro he; subst he; exact hne rfl)).trans (hg.block i hi hne)⟩, by simpa [World.setCell] using hz, _, hblk.put _ _, by simp [hs], ?_⟩
  intro i hi
  by_cases e : i = j
  · subst e
    rw [Array.getElem?_setIfInBounds_self_of_lt (by omega)]
  · rw [Array.getElem?_setIfInBounds_ne (by omega)]
    exact hc i (by omega)
/-- a mark leaves: the row marked, nothing else turned -/
def MarkOutO (w : World) (base : Nat) (A : Option Addr) (n c k : Nat) (w' : World) : Prop :=
  w.grownBy w' (Value.slice A n c).ownBlock ∧ w'.heap.size = w.heap.size ∧ OwnO w' base A n c (marks k (n * 2))

end Go.Proofs.Ytijiohdddfdjfaa
