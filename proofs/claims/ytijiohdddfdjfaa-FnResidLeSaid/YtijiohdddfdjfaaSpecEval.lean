/- The reference model's evaluation of a right level on a pile. -/
import Derived.Test.YtijiohdddfdjfaaEvalLaw
import Derived.Test.YtijiohdddfdjfaaSpec
namespace Go.Proofs.Ytijiohdddfdjfaa
open Go.RowKit

/-- what holds at the head of each round: the pile v is the call's own row, the stack of the plain function -/
def AtPile (w : World) (env : List Int) (l : List (Int × Int)) (k : Nat) (v : Value) (wr : World) : Prop :=
  ∃ st A c, Lv.run env (l.take k) [] = some st ∧ v = .slice A st.length c ∧ wr.ownsRow w.heap.size 3 1 (.slice A st.length c) st.length (st.reverse.map (Value.int .i64)) ∧
    st.length ≤ k ∧ (∀ x ∈ st, 0 ≤ x ∧ x ≤ 1000 + (k : Int)) ∧ Below w.heap.size w wr

/-- an owned row that is not empty lies at the head of a block -/
theorem own_head {w : World} {base : Nat} {e : TypeId} {A : Option Addr} {n c : Nat} {xs : List Value} (h : w.ownsRow base e 1 (.slice A n c) n xs) (hn : 0 < n) :
    ∃ g, A = some ⟨g, 0, none⟩ ∧ n ≤ c ∧ base ≤ g ∧ (∃ cur, Blk w g e cur ∧ cur.size = c * 1 ∧ cur.toList.take (n * 1) = xs) ∧ ∀ j x, xs[j]? = some x → w.cell? ⟨g, j, none⟩ = some x := by
  rcases h.2 with ⟨_, h0⟩ | ⟨g, cap, cur, hv, hb, hgg, h1, h2, h3, h4⟩
  · omega
  · injection hv with e1 e2 e3
    subst e1; subst e3
    refine ⟨g, rfl, h1, hb, ⟨cur, hgg, h3, h4⟩, fun j x hx => ?_⟩
    have := h.cells (g := g) rfl j x hx
    have hadd : (⟨g, 0, none⟩ : Addr).add j = ⟨g, j, none⟩ := by unfold Addr.add; split <;> simp_all
    rw [hadd] at this
    exact this

/-- the last cell of an owned row, stored anew -/
theorem own_last {w : World} {base g cap n : Nat} {e : TypeId} {xs : List Value} {x y : Value} (h : w.ownsRow base e 1 (.slice (some ⟨g, 0, none⟩) (n + 1) cap) (n + 1) (xs ++ [x])) :
    (w.setCell ⟨g, n, none⟩ y).ownsRow base e 1 (.slice (some ⟨g, 0, none⟩) (n + 1) cap) (n + 1) (xs ++ [y]) := by
  have hl := h.1
  simp at hl
  rcases h.2 with ⟨h0, _⟩ | ⟨g', cap', cur, hv, hb, hgg, h1, h2, h3, h4⟩
  · cases h0
  · injection hv with e1 e2 e3
    injection e1 with e1
    injection e1 with e1
    subst e1; subst e3
    have hblk : Blk w g e cur := hgg
    refine ⟨by simp; omega, .inr ⟨g, cap, _, rfl, hb, hblk.put n y, h1, h2, by simp [h3], ?_⟩⟩
    have hsz : n < cur.toList.length := by simp; omega
    rw [Array.toList_setIfInBounds, Nat.mul_one, List.take_set, List.take_succ_eq_append_getElem hsz]
    have h5 : cur.toList.take n = xs := by
      have := congrArg (List.take n) h4
      rw [List.take_take, show min n ((n + 1) * 1) = n by omega, ← hl, List.take_left'] at this
      · rw [← hl]; exact this
      · rfl
    rw [h5]
    generalize cur.toList[n] = z
    rw [List.set_append_right _ _ (by omega), hl]
    simp

theorem cell_one_drew (w : World) (t : TypeId) (x : Value) : ∀ j u, [x][j]? = some u → ((w.alloc (.cells #[x] t)).drew).cell? ((⟨w.heap.size, 0, none⟩ : Addr).add j) = some u := cell_one_new w x t

theorem evalR_not_ok {env : List Int} {l : List (Int × Int)} (h : Lv.levelOk l = false) : evalR env l = none := by
  unfold evalR Lv.eval
  simp [h]

end Go.Proofs.Ytijiohdddfdjfaa
