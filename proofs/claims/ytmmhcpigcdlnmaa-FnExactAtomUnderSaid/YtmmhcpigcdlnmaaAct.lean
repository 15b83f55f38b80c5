/- The machine's methods: each does what one step on the stack says, or panics with errLevel. -/
/- The five actions of the machine's table, each for every state: one step of the plain function, or the panic. -/
/- The machine's loop over the tokens, and its run: the plain function on lists, or the panic. -/
import Derived.Test.YtmmhcpigcdlnmaaBase

namespace Go.Proofs.Ytmmhcpigcdlnmaa
open Go.RowKit

/-- the panic with errLevel -/
def Bad (T : TypeId) (pv : Value) : Ending := .panicked [{ v := .iface T pv, recovered := false }]

/-- a row of n + 1 cells, cut to n -/
theorem own_pop {w : World} {base g cap n : Nat} {e : TypeId} {xs : List Value} {x : Value} (h : w.ownsRow base e 1 (.slice (some ⟨g, 0, none⟩) (n + 1) cap) (n + 1) (xs ++ [x])) :
    w.ownsRow base e 1 (.slice (some ⟨g, 0, none⟩) n cap) n xs := by
  have hl := h.1
  simp at hl
  rcases h.2 with ⟨h0, _⟩ | ⟨g', cap', cur, hv, hb, hgg, h1, h2, h3, h4⟩
  · cases h0
  · injection hv with e1 e2 e3
    injection e1 with e1
    injection e1 with e1
    subst e1; subst e3
    refine ⟨by omega, .inr ⟨g, cap, cur, rfl, hb, hgg, by omega, h2, h3, ?_⟩⟩
    have := congrArg (List.take n) h4
    rw [List.take_take] at this
    rw [show min n ((n + 1) * 1) = n * 1 by omega] at this
    rw [this, ← hl, List.take_left']
    rfl

end Go.Proofs.Ytmmhcpigcdlnmaa

namespace Go.Proofs.Ytmmhcpigcdlnmaa
open Go.RowKit

section
variable (w : World) (B bm : Nat) (env st : List Int) (T : TypeId) (pv : Value) (n : Int)

theorem tk_no (i : Int) (hi : i = 0 ∨ i = 1 ∨ i = 2 ∨ i = 3) (h : n ≠ 0) : Lv.step env (i, n) st = none := by
  have : Lv.tkOk (i, n) = false := by
    rw [Bool.eq_false_iff]; intro hk; simp [Lv.tkOk] at hk; omega
  simp [Lv.step, this]

theorem max_step (s : List Int) (a b : Int) : Lv.step env (2, 0) (b :: a :: s) = some (max a b :: s) := by simp [Lv.step, Lv.tkOk]
theorem imax_step (s : List Int) (a b : Int) (h : ¬ b = 0) : Lv.step env (3, 0) (b :: a :: s) = some (max a b :: s) := by simp [Lv.step, Lv.tkOk, h]

end
end Go.Proofs.Ytmmhcpigcdlnmaa

namespace Go.Proofs.Ytmmhcpigcdlnmaa
open Go.RowKit

theorem run_store_fn (P : Program) (w : World) (a : Addr) (m : Mode) (fn : Fn) (first cap : Array Value) : (store a (.func fn first cap) m).run P w = stored P w a (.func fn first cap) m := run_store P w a _ m rfl
attribute [local go_sem] run_store_fn

end Go.Proofs.Ytmmhcpigcdlnmaa
