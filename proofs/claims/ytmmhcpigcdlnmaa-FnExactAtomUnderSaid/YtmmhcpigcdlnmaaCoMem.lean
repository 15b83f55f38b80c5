/- Words for memory: a slice that reads as a list of constraints; one that a call owns. -/
import Derived.Test.YtmmhcpigcdlnmaaMarks
import Derived.Test.YtmmhcpigcdlnmaaCsMath7

namespace Go.Proofs.Ytmmhcpigcdlnmaa
open Go.RowKit
open Cs (Cn)

/-- the slice value '.slice A n c' reads as the constraints l; its cells lie below block B -/
def ConR (w : World) (B : Nat) (A : Option Addr) (n : Nat) (l : List Cn) : Prop :=
  l.length = n ∧ (0 < n → ∃ b off, A = some ⟨b, off, none⟩ ∧ b < B ∧ ∀ k, k < n →
    w.cell? ⟨b, off + k * 3, none⟩ = some (.int .i64 (l.getD k (0, 0, 0)).1) ∧ w.cell? ⟨b, off + k * 3 + 1, none⟩ = some (.int .i64 (l.getD k (0, 0, 0)).2.1) ∧ w.cell? ⟨b, off + k * 3 + 2, none⟩ = some (.int .i64 (l.getD k (0, 0, 0)).2.2))
section
variable {w w' : World} {B B' n : Nat} {A : Option Addr}
theorem ConR.keep {l : List Cn} (h : ConR w B A n l) (hk : ∀ p : Addr, p.block < B → w'.cell? p = w.cell? p) : ConR w' B A n l :=
  ⟨h.1, fun hn => by
    obtain ⟨b, off, e, hb, hc⟩ := h.2 hn
    exact ⟨b, off, e, hb, fun k hk' => by rw [hk _ (by exact hb), hk _ (by exact hb), hk _ (by exact hb)]; exact hc k hk'⟩⟩
theorem ConR.below {l : List Cn} (h : ConR w B A n l) (hb : Below B w w') : ConR w' B A n l := h.keep fun _ hp => hb.cell hp
theorem ConR.more {l : List Cn} (h : ConR w B A n l) (hB : B ≤ B') : ConR w B' A n l :=
  ⟨h.1, fun hn => by
    obtain ⟨b, off, e, hb, hc⟩ := h.2 hn
    exact ⟨b, off, e, by omega, hc⟩⟩
end
/-- the cells of a list of constraints -/
def conCells (l : List Cn) : List Value := l.flatMap fun t => [.int .i64 t.1, .int .i64 t.2.1, .int .i64 t.2.2]
theorem conCells_nil : conCells [] = [] := rfl
theorem conCells_cons (t : Cn) (l : List Cn) : conCells (t :: l) = .int .i64 t.1 :: .int .i64 t.2.1 :: .int .i64 t.2.2 :: conCells l := rfl
theorem conCells_len (l : List Cn) : (conCells l).length = l.length * 3 := by
  induction l with
  | nil => rfl
  | cons t r ih => rw [conCells_cons]; simp [ih]; omega
theorem conCells_append (a b : List Cn) : conCells (a ++ b) = conCells a ++ conCells b := by simp [conCells]
theorem conCells_one (l : List Cn) : ∀ u ∈ conCells l, u.oneCell' = true := by
  intro u hu
  simp only [conCells, List.mem_flatMap] at hu
  obtain ⟨t, _, ht⟩ := hu
  simp at ht
  rcases ht with rfl | rfl | rfl <;> rfl
theorem conCells_at (l : List Cn) (k : Nat) (hk : k < l.length) : (conCells l)[k * 3]? = some (.int .i64 (l.getD k (0, 0, 0)).1) ∧ (conCells l)[k * 3 + 1]? = some (.int .i64 (l.getD k (0, 0, 0)).2.1) ∧ (conCells l)[k * 3 + 2]? = some (.int .i64 (l.getD k (0, 0, 0)).2.2) := by
  induction l generalizing k with
  | nil => simp at hk
  | cons t r ih =>
    rw [conCells_cons]
    cases k with
    | zero => exact ⟨rfl, rfl, rfl⟩
    | succ k =>
      have h := ih k (by simpa using hk)
      rw [show (k + 1) * 3 = k * 3 + 1 + 1 + 1 by omega]
      exact h
/-- a row of the call's own, of constraints -/
abbrev OwnC (w : World) (base : Nat) (A : Option Addr) (n c : Nat) (l : List Cn) : Prop := w.ownsRow base 34 3 (.slice A n c) n (conCells l)
theorem OwnC.reads {w : World} {base : Nat} {A : Option Addr} {n c : Nat} {l : List Cn} (h : OwnC w base A n c l) : ConR w w.heap.size A n l := by
  have hl : l.length = n := by have := h.1; rw [conCells_len] at this; omega
  refine ⟨hl, fun hn => ?_⟩
  rcases h.2 with ⟨_, h0⟩ | ⟨g, cap, cur, hv, hb, hgg, h1, h2, h3, h4⟩
  · omega
  · injection hv with e1 e2 e3
    subst e1
    refine ⟨g, 0, rfl, (Array.getElem?_eq_some_iff.1 hgg).1, fun k hk => ?_⟩
    have hat := conCells_at l k (by omega)
    have c1 := h.cells (g := g) rfl (k * 3) _ hat.1
    have c2 := h.cells (g := g) rfl (k * 3 + 1) _ hat.2.1
    have c3 := h.cells (g := g) rfl (k * 3 + 2) _ hat.2.2
    rw [own_adds] at c1 c2 c3
    rw [Nat.zero_add]
    exact ⟨c1, c2, c3⟩
theorem info_con : (Try.prog.info? 34).map (fun i => (i.zero, i.size, i.bytes)) = some (some (.agg #[.int .i64 0, .int .i64 0, .int .i64 0]), 3, 24) := by kernel_rfl
end Go.Proofs.Ytmmhcpigcdlnmaa
