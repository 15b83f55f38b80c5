/- The first place where a level does not fit below another one: firstMisfit of the program. -/
import Derived.WalkMore
import Derived.Test.YtgebjnoicgmdoaaGreatDoorDSig
import Derived.Test.YtgebjnoicgmdoaaGreatDoorDcMath
import Derived.Test.YtgebjnoicgmdoaaGreatDoorDcMath4

namespace Go.Proofs.YtgebjnoicgmdoaaGreatDoor
open Go.RowKit Go.Shelf
attribute [local go_sem] Oper.semAt_some

theorem blk_own {W W' : World} {g : Nat} {t : TypeId} {cs : Array Value} {row : Option Nat} (h : Blk W g t cs) (hg : W.grownBy W' row) (hr : ∀ r, row = some r → ∃ o : Obj, W.heap[r]? = some o ∧ o.isCells = false) : Blk W' g t cs :=
  h.grown hg (fun e => by
    obtain ⟨o, ho, hc⟩ := hr g e.symm
    unfold Blk at h
    rw [h] at ho
    injection ho with ho
    subst ho
    cases hc)
theorem Blk.made' {X : World} {g : Nat} {t : TypeId} {cs : Array Value} (h : g = X.heap.size) : Blk (X.alloc (.cells cs t)) g t cs := by subst h; exact Blk.made _ _ _
theorem below_keeps {W W' : World} (h : Below W.heap.size W W') : KeepsOthers W W' :=
  ⟨h.size, fun k _ hk _ => (h.block k (Array.getElem?_eq_some_iff.1 hk).1).trans hk⟩
end Go.Proofs.YtgebjnoicgmdoaaGreatDoor
