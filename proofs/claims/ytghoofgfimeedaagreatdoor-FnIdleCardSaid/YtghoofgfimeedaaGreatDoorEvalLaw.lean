/- The laws' own helpers on slices of tokens: sizes, copies, comparison. -/
/- The laws' comparison of two slices of tokens. -/
/- The reference model's LevelEval; the laws' helpers on slices of numbers. -/
import Derived.Test.YtghoofgfimeedaaGreatDoorBase

namespace Go.Proofs.YtghoofgfimeedaaGreatDoor
open Go.RowKit

/-- block g is a row of just n tokens, those of l -/
def TokOwn (w : World) (g n : Nat) (l : List (Int × Int)) : Prop :=
  l.length = n ∧ ∃ cs, Blk w g 41 cs ∧ cs.size = n * 2 ∧ ∀ k, k < n → cs[k * 2]? = some (.int .i64 (l.getD k (0, 0)).1) ∧ cs[k * 2 + 1]? = some (.int .i64 (l.getD k (0, 0)).2)

theorem TokOwn.reads {w : World} {g n : Nat} {l : List (Int × Int)} (h : TokOwn w g n l) : TokR w (g + 1) (some ⟨g, 0, none⟩) n l := by
  obtain ⟨hl, cs, hb, hs, hc⟩ := h
  refine ⟨hl, fun _ => ⟨g, 0, rfl, by omega, fun k hk => ?_⟩⟩
  rw [hb.cell, hb.cell, Nat.zero_add]
  exact hc k hk
theorem TokOwn.below {w w' : World} {g n B : Nat} {l : List (Int × Int)} (h : TokOwn w g n l) (hb : Below B w w') (hg : g < B) : TokOwn w' g n l := by
  obtain ⟨hl, cs, hblk, rest⟩ := h
  exact ⟨hl, cs, hblk.below hb hg, rest⟩

theorem info_tok : (Tryz.prog.info? 41).map (fun i => (i.zero, i.size, i.bytes)) = some (some (.agg #[.int .i64 0, .int .i64 0]), 2, 16) := by kernel_rfl

/-- the row of tokens that is being filled: the first k of them are there -/
def Filling (w : World) (g n k : Nat) (l : List (Int × Int)) (wr : World) : Prop :=
  Below w.heap.size w wr ∧ ∃ cs, Blk wr g 41 cs ∧ cs.size = n * 2 ∧ ∀ j, j < k → cs[j * 2]? = some (.int .i64 (l.getD j (0, 0)).1) ∧ cs[j * 2 + 1]? = some (.int .i64 (l.getD j (0, 0)).2)

theorem filling_step {w wr w1 : World} {n k : Nat} {l : List (Int × Int)} {a b : Int} (h : Filling w w.heap.size n k l wr) (hb : Below wr.heap.size wr w1) (hk : k < n) (ht : l.getD k (0, 0) = (a, b)) :
    Filling w w.heap.size n (k + 1) l ((w1.setCell ⟨w.heap.size, k * 2, none⟩ (.int .i64 a)).setCell ⟨w.heap.size, k * 2 + 1, none⟩ (.int .i64 b)) := by
  obtain ⟨hbel, cs, hblk, hs, hc⟩ := h
  have hblk1 := hblk.below hb hblk.lt
  refine ⟨((hbel.trans (hb.mono hbel.size)).setCell (p := ⟨w.heap.size, k * 2, none⟩) (Nat.le_refl _) _).setCell (p := ⟨w.heap.size, k * 2 + 1, none⟩) (Nat.le_refl _) _, _, (hblk1.put _ _).put _ _, by simp [hs], ?_⟩
  intro j hj
  by_cases e : j = k
  · subst e
    rw [ht]
    constructor
    · rw [Array.getElem?_setIfInBounds_ne (by omega), Array.getElem?_setIfInBounds_self_of_lt (by omega)]
    · rw [Array.getElem?_setIfInBounds_self_of_lt (by simp; omega)]
  · obtain ⟨x, y⟩ := hc j (by omega)
    constructor
    · rw [Array.getElem?_setIfInBounds_ne (by omega), Array.getElem?_setIfInBounds_ne (by omega)]; exact x
    · rw [Array.getElem?_setIfInBounds_ne (by omega), Array.getElem?_setIfInBounds_ne (by omega)]; exact y

end Go.Proofs.YtghoofgfimeedaaGreatDoor

namespace Go.Proofs.YtghoofgfimeedaaGreatDoor
open Go.RowKit

/-- two lists of one length that agree up to k -/
def Agree {α : Type} (d : α) (k : Nat) (l m : List α) : Prop := ∀ j, j < k → l.getD j d = m.getD j d
theorem agree_all {α : Type} {d : α} {n : Nat} {l m : List α} (h1 : l.length = n) (h2 : m.length = n) (h : Agree d n l m) : l = m := by
  apply List.ext_getElem (by omega)
  intro i hi hj
  have := h i (by omega)
  simpa [List.getD_eq_getElem?_getD, List.getElem?_eq_getElem hi, List.getElem?_eq_getElem hj] using this
theorem agree_step {α : Type} {d : α} {k : Nat} {l m : List α} (h : Agree d k l m) (e : l.getD k d = m.getD k d) : Agree d (k + 1) l m := by
  intro j hj
  by_cases hjk : j = k
  · subst hjk; exact e
  · exact h j (by omega)

end Go.Proofs.YtghoofgfimeedaaGreatDoor

namespace Go.Proofs.YtghoofgfimeedaaGreatDoor
open Go.RowKit

/-- block g is a row of just n numbers, those of l -/
def IntOwn (w : World) (g n : Nat) (l : List Int) : Prop :=
  l.length = n ∧ ∃ cs, Blk w g 3 cs ∧ cs.size = n ∧ ∀ k, k < n → cs[k]? = some (.int .i64 (l.getD k 0))
theorem IntOwn.reads {w : World} {g n : Nat} {l : List Int} (h : IntOwn w g n l) : IntR w (g + 1) (some ⟨g, 0, none⟩) n l := by
  obtain ⟨hl, cs, hb, hs, hc⟩ := h
  refine ⟨hl, fun _ => ⟨g, 0, rfl, by omega, fun k hk => ?_⟩⟩
  rw [hb.cell, Nat.zero_add]
  exact hc k hk

/-- the row of numbers that is being filled: the first k of them are there -/
def FillI (w : World) (g n k : Nat) (l : List Int) (wr : World) : Prop :=
  Below w.heap.size w wr ∧ ∃ cs, Blk wr g 3 cs ∧ cs.size = n ∧ ∀ j, j < k → cs[j]? = some (.int .i64 (l.getD j 0))
theorem fillI_step {w wr : World} {n k : Nat} {l : List Int} {a : Int} (h : FillI w w.heap.size n k l wr) (hk : k < n) (ht : l.getD k 0 = a) :
    FillI w w.heap.size n (k + 1) l (wr.setCell ⟨w.heap.size, k, none⟩ (.int .i64 a)) := by
  obtain ⟨hbel, cs, hblk, hs, hc⟩ := h
  refine ⟨hbel.setCell (p := ⟨w.heap.size, k, none⟩) (Nat.le_refl _) _, _, hblk.put _ _, by simp [hs], ?_⟩
  intro j hj
  by_cases e : j = k
  · subst e
    rw [ht, Array.getElem?_setIfInBounds_self_of_lt (by omega)]
  · rw [Array.getElem?_setIfInBounds_ne (by omega)]
    exact hc j (by omega)

end Go.Proofs.YtghoofgfimeedaaGreatDoor
