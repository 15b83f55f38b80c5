/- The reference model's LevelEval; the laws' helpers on slices of numbers. -/
import Derived.Test.YtgbdojenenfgfaaDoorLaws2
namespace Go.Proofs.YtgbdojenenfgfaaDoor
open Go.RowKit

/-- block g is a row of just n numbers, those of l -/
def IntOwn (w : World) (g n : Nat) (l : List Int) : Prop :=
  l.length = n ∧ ∃ cs, Blk w g 3 cs ∧ cs.size = n ∧ ∀ k, k < n → cs[k]? = some (.int .i64 (l.getD k 0))
theorem IntOwn.reads {w : World} {g n : Nat} {l : List Int} (h : IntOwn w g n l) : IntR w (g + 1) (some ⟨g, 0, none⟩) n l := by
  obtain ⟨hl, cs, hb, hs, hc⟩ := h
  refine ⟨hl, fun _ => ⟨g, 0, rfl, by omega, fun k hk => ?_⟩⟩
  rw [hb.cell, Nat.zero_add]
  exact hc k hk

/-- the row of numbers that is being filled: the first k of them are there -/
def FillI (w : World) (g n k : Nat) (l : List Int) (wr : World) : Prop :=
  Below w.heap.size w wr ∧ ∃ cs, Blk wr g 3 cs ∧ cs.size = n ∧ ∀ j, j < k → cs[j]? = some (.int .i64 (l.getD j 0))
theorem fillI_step {w wr : World} {n k : Nat} {l : List Int} {a : Int} (h : FillI w w.heap.size n k l wr) (hk : k < n) (ht : l.getD k 0 = a) :
    FillI w w.heap.size n (k + 1) l (wr.setCell ⟨w.heap.size, k, none⟩ (.int .i64 a)) := by
  obtain ⟨hbel, cs, hblk, hs, hc⟩ := h
  refine ⟨hbel.setCell (p := ⟨w.heap.size, k, none⟩) (Nat.le_refl _) _, _, hblk.put _ _, by simp [hs], ?_⟩
  intro j hj
  by_cases e : j = k
  · subst e
    rw [ht, Array.getElem?_setIfInBounds_self_of_lt (by omega)]
  · rw [Array.getElem?_setIfInBounds_ne (by omega)]
    exact hc j (by omega)

end Go.Proofs.YtgbdojenenfgfaaDoor
