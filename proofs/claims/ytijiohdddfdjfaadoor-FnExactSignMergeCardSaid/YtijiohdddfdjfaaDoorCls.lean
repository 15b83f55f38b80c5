/- A region that draws its order, whose own operations only read and whose callees may make memory but turn none that was there: one walk, in the order of the text, over the class of all later worlds. -/
import Derived.Test.YtijiohdddfdjfaaDoorMem
namespace Go.Proofs.YtijiohdddfdjfaaDoor
open Go.RowKit

/-- a world in which all that w holds is as it was -/
structure Later (w : World) : Type where
  out : World
  bel : Below w.heap.size w out
instance (w : World) : Nonempty (Later w) := ⟨⟨w, Below.refl _ _⟩⟩
theorem Later.cell {w : World} (d : Later w) {p : Addr} {v : Value} (hp : p.block < w.heap.size) (h : w.cell? p = some v) : d.out.cell? p = some v := (d.bel.cell hp).trans h

theorem region_later {P : Program} {id : Nat} {Q : Exit → Act → World → Prop} {a : Act} {w : World} {l : List Oper} (hm : P.follows .mixedOrders = true) (hB : Region.lexB .any l.toArray = true)
    (h : wpQuiet P l.toArray (fun w' => ∃ d : Later w, w' = d.out) (fun a' => ∀ w', Below w.heap.size w w' → Q .normal a' w') l a) : (Code.region id l.toArray true).wp P Q a w := by
  have e : (fun a' => ∀ w', (∃ d : Later w, w' = d.out) → Q .normal a' w') = fun a' => ∀ w', Below w.heap.size w w' → Q .normal a' w' := by
    funext a'
    apply propext
    constructor
    · intro h w' hb
      exact h w' ⟨⟨w', hb⟩, rfl⟩
    · rintro h w' ⟨d, rfl⟩
      exact h d.out d.bel
  refine wp_region_quiet (C := fun w' => ∃ d : Later w, w' = d.out) hm hB ⟨⟨w.drew, (Below.refl _ _).drew⟩, rfl⟩ ?_
  rw [e]
  exact h

/-- a callee's contract, met in a later world -/
theorem calls_later {P : Program} {f : FuncId} {args : Array Value} {w : World} {d : Later w} {v : Value} (h : Calls P f args d.out fun e w' => e = .returned v ∧ Below d.out.heap.size d.out w') :
    Calls P f args d.out fun e w'' => e = .returned v ∧ ∃ d' : Later w, w'' = d'.out :=
  h.mono fun _ w'' ⟨he, hb⟩ => ⟨he, ⟨w'', d.bel.trans (hb.mono d.bel.size)⟩, rfl⟩
theorem calls_later_same {P : Program} {f : FuncId} {args : Array Value} {w : World} {d : Later w} {v : Value} (h : Calls P f args d.out fun e w' => e = .returned v ∧ d.out = w') :
    Calls P f args d.out fun e w'' => e = .returned v ∧ ∃ d' : Later w, w'' = d'.out :=
  h.mono fun _ _ ⟨he, hb⟩ => ⟨he, d, hb.symm⟩
end Go.Proofs.YtijiohdddfdjfaaDoor
