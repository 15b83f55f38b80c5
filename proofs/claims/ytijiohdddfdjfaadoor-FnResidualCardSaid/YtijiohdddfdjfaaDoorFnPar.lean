/- The law FnParams: the walk. -/
import Derived.Test.YtijiohdddfdjfaaDoorDraw1
import Derived.Test.YtijiohdddfdjfaaDoorParMath
import Derived.Test.YtijiohdddfdjfaaDoorLvls
namespace Go.Proofs.YtijiohdddfdjfaaDoor
open Go.RowKit

theorem own_not {a b : World} {base g : Nat} {e : TypeId} {size n : Nat} {v : Value} {xs : List Value} (h : a.ownsRow base e size v n xs) (hk : Kp g a b) (hne : ∀ k, v.ownBlock = some k → k ≠ g) : b.ownsRow base e size v n xs :=
  h.kept hk (by
    cases hv : v.ownBlock with
    | none => exact .inl rfl
    | some k =>
      refine .inr (fun he => ?_)
      injection he with he
      exact hne k hv he)
theorem ownI_put {w : World} {base g n c i : Nat} {l : List Int} (h : OwnI w base (some ⟨g, 0, none⟩) n c l) (v : Int) : OwnI (w.setCell ⟨g, i, none⟩ (.int .i64 v)) base (some ⟨g, 0, none⟩) n c (l.set i v) := by
  obtain ⟨hlen, hc⟩ := h
  rcases hc with ⟨h0, _⟩ | ⟨g', cap, cur, hv, hb, hh, hnc, hm, hs, ht⟩
  · cases h0
  · injection hv with hv1 hv2 hv3
    injection hv1 with hv1
    injection hv1 with hv1
    subst hv1 hv3
    have hblk : Blk w g 3 cur := hh
    refine ⟨by simpa using hlen, .inr ⟨g, c, _, rfl, hb, hblk.put i _, hnc, hm, by simp [hs], ?_⟩⟩
    rw [Array.toList_setIfInBounds, List.take_set, ht, List.map_set]
theorem ownI_spot {w : World} {base g n c i : Nat} {l : List Int} (h : OwnI w base (some ⟨g, 0, none⟩) n c l) (hi : i < n) : w.cell? ⟨g, i, none⟩ = some (.int .i64 (l.getD i 0)) ∧ w.frozen? ⟨g, i, none⟩ = false := by
  have hr := OwnI.reads h
  obtain ⟨b, off, hA, hb, hc⟩ := hr.2 (by omega)
  injection hA with hA
  injection hA with hA1 hA2
  subst hA1 hA2
  refine ⟨by have := hc i hi; rwa [Nat.zero_add] at this, ?_⟩
  obtain ⟨_, hcs⟩ := h
  rcases hcs with ⟨h0, _⟩ | ⟨g', cap, cur, hv, _, hh, _⟩
  · cases h0
  · injection hv with hv1 hv2 hv3
    injection hv1 with hv1
    injection hv1 with hv1
    subst hv1
    have hblk : Blk w g 3 cur := hh
    exact hblk.thawed i
theorem set_mem {l : List Int} {i : Nat} {v m : Int} (h : ∀ x ∈ l, 0 ≤ x ∧ x ≤ m) (hv : 0 ≤ v ∧ v ≤ m) : ∀ x ∈ l.set i v, 0 ≤ x ∧ x ≤ m := by
  intro x hx
  rcases List.mem_or_eq_of_mem_set hx with h1 | rfl
  · exact h x h1
  · exact hv
theorem getD_mem {l : List Int} {m : Int} (h : ∀ x ∈ l, 0 ≤ x ∧ x ≤ m) (hm : 0 ≤ m) (i : Nat) : 0 ≤ l.getD i 0 ∧ l.getD i 0 ≤ m := by
  rw [List.getD_eq_getElem?_getD]
  cases hg : l[i]? with
  | none => simpa using hm
  | some x => simpa using h x (List.mem_of_getElem? hg)
theorem envOk_of {env : List Int} {m : Int} (h5 : env.length = 5) (h : ∀ x ∈ env, 0 ≤ x ∧ x ≤ m) (hm : m ≤ 1000) : envOk env = true := by
  simp only [envOk, Bool.and_eq_true, decide_eq_true_eq, List.all_eq_true]
  exact ⟨h5, fun x hx => by have := h x hx; omega⟩
theorem prms_le (l : List (Int × Int)) : (prms l).length ≤ 5 := by
  unfold prms
  split
  · exact prmsTo_len l 5
  · simp

end Go.Proofs.YtijiohdddfdjfaaDoor
