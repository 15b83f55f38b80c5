/- The first place where a level does not fit below another one: firstMisfit of the program. -/
import Derived.WalkMore
import Derived.Test.YtmbcjddahncocaaDoorDSig
import Derived.Test.YtmbcjddahncocaaDoorUnMath2

namespace Go.Proofs.YtmbcjddahncocaaDoor
open Go.RowKit Go.Shelf
attribute [local go_sem] Oper.semAt_some

theorem blk_own {W W' : World} {g : Nat} {t : TypeId} {cs : Array Value} {row : Option Nat} (h : Blk W g t cs) (hg : W.grownBy W' row) (hr : ∀ r, row = some r → ∃ o : Obj, W.heap[r]? = some o ∧ o.isCells = false) : Blk W' g t cs :=
  h.grown hg (fun e => by
    obtain ⟨o, ho, hc⟩ := hr g e.symm
    unfold Blk at h
    rw [h] at ho
    injection ho with ho
    subst ho
    cases hc)
theorem Blk.made' {X : World} {g : Nat} {t : TypeId} {cs : Array Value} (h : g = X.heap.size) : Blk (X.alloc (.cells cs t)) g t cs := by subst h; exact Blk.made _ _ _
/-- the five boxes of firstMisfit -/
structure MBox (W : World) (g : Nat) (v1 : Value) (u : Int) (v2 : Value) (s p : Int) (f : Bool) : Prop where
  b0 : Blk W g 24 #[v1]
  b1 : Blk W (g + 1) 3 #[.int .i64 u]
  b2 : Blk W (g + 1 + 1) 24 #[v2]
  b3 : Blk W (g + 1 + 1 + 1) 92 #[.int .i64 s, .int .i64 p]
  b4 : Blk W (g + 1 + 1 + 1 + 1) 4 #[.bool f]
theorem MBox.below {W W' : World} {g B : Nat} {v1 v2 : Value} {u s p : Int} {f : Bool} (h : MBox W g v1 u v2 s p f) (hb : Below B W W') (hg : g + 4 < B) : MBox W' g v1 u v2 s p f :=
  ⟨h.b0.below hb (by omega), h.b1.below hb (by omega), h.b2.below hb (by omega), h.b3.below hb (by omega), h.b4.below hb (by omega)⟩
theorem MBox.own {W W' : World} {g : Nat} {v1 v2 : Value} {u s p : Int} {f : Bool} {row : Option Nat} (h : MBox W g v1 u v2 s p f) (hg : W.grownBy W' row) (hr : ∀ r, row = some r → ∃ o : Obj, W.heap[r]? = some o ∧ o.isCells = false) : MBox W' g v1 u v2 s p f :=
  ⟨blk_own h.b0 hg hr, blk_own h.b1 hg hr, blk_own h.b2 hg hr, blk_own h.b3 hg hr, blk_own h.b4 hg hr⟩
theorem MBox.set {W : World} {g : Nat} {v1 v2 : Value} {u s p : Int} {f : Bool} (h : MBox W g v1 u v2 s p f) (s' p' : Int) (f' : Bool) :
    MBox (((W.setCell ⟨g + 1 + 1 + 1, 0, none⟩ (.int .i64 s')).setCell ⟨g + 1 + 1 + 1, 1, none⟩ (.int .i64 p')).setCell ⟨g + 1 + 1 + 1 + 1, 0, none⟩ (.bool f')) g v1 u v2 s' p' f' := by
  refine ⟨((h.b0.other (by simp; omega) _).other (by simp; omega) _).other (by simp; omega) _, ((h.b1.other (by simp) _).other (by simp) _).other (by simp) _, ((h.b2.other (by simp) _).other (by simp) _).other (by simp) _, ?_, ?_⟩
  · have := ((h.b3.put 0 (.int .i64 s')).put 1 (.int .i64 p')).other (p := ⟨g + 1 + 1 + 1 + 1, 0, none⟩) (by simp) (.bool f')
    simpa using this
  · have := ((h.b4.other (p := ⟨g + 1 + 1 + 1, 0, none⟩) (by simp) (.int .i64 s')).other (p := ⟨g + 1 + 1 + 1, 1, none⟩) (by simp) (.int .i64 p')).put 0 (.bool f')
    simpa using this
theorem MBox.drew {W : World} {g : Nat} {v1 v2 : Value} {u s p : Int} {f : Bool} (h : MBox W g v1 u v2 s p f) : MBox W.drew g v1 u v2 s p f := ⟨h.b0, h.b1, h.b2, h.b3, h.b4⟩
theorem below_keeps {W W' : World} (h : Below W.heap.size W W') : KeepsOthers W W' :=
  ⟨h.size, fun k _ hk _ => (h.block k (Array.getElem?_eq_some_iff.1 hk).1).trans hk⟩
end Go.Proofs.YtmbcjddahncocaaDoor
