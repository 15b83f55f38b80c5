/- Words for memory: a slice that reads as a list of constraints; one that a call owns. -/
/- Constraints of the program: sideOk, ConOk, ConsOk. -/
/- A node right at its place: the program's okAt and what it calls, the model's l08Node. -/
/- The arena of a list: newArena, arenaWith. -/
/- What a node consists of: the mathematics. -/
import Derived.Test.YtfmhmnpmdjpmeaaNdKey
import Derived.Test.YtfmhmnpmdjpmeaaCls

namespace Go.Proofs.Ytfmhmnpmdjpmeaa
open Go.RowKit
open Cs (Cn)

/-- the slice value '.slice A n c' reads as the constraints l; its cells lie below block B -/
def ConR (w : World) (B : Nat) (A : Option Addr) (n : Nat) (l : List Cn) : Prop :=
  l.length = n ∧ (0 < n → ∃ b off, A = some ⟨b, off, none⟩ ∧ b < B ∧ ∀ k, k < n →
    w.cell? ⟨b, off + k * 3, none⟩ = some (.int .i64 (l.getD k (0, 0, 0)).1) ∧ w.cell? ⟨b, off + k * 3 + 1, none⟩ = some (.int .i64 (l.getD k (0, 0, 0)).2.1) ∧ w.cell? ⟨b, off + k * 3 + 2, none⟩ = some (.int .i64 (l.getD k (0, 0, 0)).2.2))
section
variable {w w' : World} {B B' n : Nat} {A : Option Addr}
theorem ConR.keep {l : List Cn} (h : ConR w B A n l) (hk : ∀ p : Addr, p.block < B → w'.cell? p = w.cell? p) : ConR w' B A n l :=
  ⟨h.1, fun hn => by
    obtain ⟨b, off, e, hb, hc⟩ := h.2 hn
    exact ⟨b, off, e, hb, fun k hk' => by rw [hk _ (by exact hb), hk _ (by exact hb), hk _ (by exact hb)]; exact hc k hk'⟩⟩
theorem ConR.below {l : List Cn} (h : ConR w B A n l) (hb : Below B w w') : ConR w' B A n l := h.keep fun _ hp => hb.cell hp
theorem ConR.more {l : List Cn} (h : ConR w B A n l) (hB : B ≤ B') : ConR w B' A n l :=
  ⟨h.1, fun hn => by
    obtain ⟨b, off, e, hb, hc⟩ := h.2 hn
    exact ⟨b, off, e, by omega, hc⟩⟩
end
/-- the cells of a list of constraints -/
def conCells (l : List Cn) : List Value := l.flatMap fun t => [.int .i64 t.1, .int .i64 t.2.1, .int .i64 t.2.2]
theorem conCells_cons (t : Cn) (l : List Cn) : conCells (t :: l) = .int .i64 t.1 :: .int .i64 t.2.1 :: .int .i64 t.2.2 :: conCells l := rfl
theorem conCells_len (l : List Cn) : (conCells l).length = l.length * 3 := by
  induction l with
  | nil => rfl
  | cons t r ih => rw [conCells_cons]; simp [ih]; omega
theorem conCells_at (l : List Cn) (k : Nat) (hk : k < l.length) : (conCells l)[k * 3]? = some (.int .i64 (l.getD k (0, 0, 0)).1) ∧ (conCells l)[k * 3 + 1]? = some (.int .i64 (l.getD k (0, 0, 0)).2.1) ∧ (conCells l)[k * 3 + 2]? = some (.int .i64 (l.getD k (0, 0, 0)).2.2) := by
  induction l generalizing k with
  | nil => simp at hk
  | cons t r ih =>
    rw [conCells_cons]
    cases k with
    | zero => exact ⟨rfl, rfl, rfl⟩
    | succ k =>
      have h := ih k (by simpa using hk)
      rw [show (k + 1) * 3 = k * 3 + 1 + 1 + 1 by omega]
      exact h
/-- a row of the call's own, of constraints -/
abbrev OwnC (w : World) (base : Nat) (A : Option Addr) (n c : Nat) (l : List Cn) : Prop := w.ownsRow base 78 3 (.slice A n c) n (conCells l)
theorem OwnC.reads {w : World} {base : Nat} {A : Option Addr} {n c : Nat} {l : List Cn} (h : OwnC w base A n c l) : ConR w w.heap.size A n l := by
  have hl : l.length = n := by have := h.1; rw [conCells_len] at this; omega
  refine ⟨hl, fun hn => ?_⟩
  rcases h.2 with ⟨_, h0⟩ | ⟨g, cap, cur, hv, hb, hgg, h1, h2, h3, h4⟩
  · omega
  · injection hv with e1 e2 e3
    subst e1
    refine ⟨g, 0, rfl, (Array.getElem?_eq_some_iff.1 hgg).1, fun k hk => ?_⟩
    have hat := conCells_at l k (by omega)
    have c1 := h.cells (g := g) rfl (k * 3) _ hat.1
    have c2 := h.cells (g := g) rfl (k * 3 + 1) _ hat.2.1
    have c3 := h.cells (g := g) rfl (k * 3 + 2) _ hat.2.2
    rw [own_adds] at c1 c2 c3
    rw [Nat.zero_add]
    exact ⟨c1, c2, c3⟩
end Go.Proofs.Ytfmhmnpmdjpmeaa

namespace Go.Proofs.Ytfmhmnpmdjpmeaa
open Go.RowKit
open Cs (Cn)

set_option maxHeartbeats 400000 in
theorem parOk_any (w : World) (p : Int) : Calls Try.prog 78 #[.int .i64 p] w fun e w' => e = .returned (.bool (decide (0 ≤ p) && decide (p < 5))) ∧ w' = w := by
  by_cases h1 : 0 ≤ p
  · have HF : Hid ((decide (0 ≤ p) && decide (p < 5)) = decide (p < 5)) := by show _ = _; simp [h1]
    have d1 : decide (0 ≤ p) = true := decide_eq_true h1
    go_enter Try.func78, Try.ntmps78
    go_wp2
    go_ret
    exact ⟨by rw [HF.out]; rfl, rfl⟩
  · have d1 : decide (0 ≤ p) = false := decide_eq_false h1
    go_enter Try.func78, Try.ntmps78
    go_wp2
    go_ret
    exact ⟨rfl, rfl⟩
end Go.Proofs.Ytfmhmnpmdjpmeaa

namespace Go.Proofs.Ytfmhmnpmdjpmeaa
open Go.RowKit

def tkA (o : Int) : Bool := decide (o = 2) || decide (o = 3)
def tkB (o : Int) : Bool := decide (o = 1) || tkA o
def tokB (o n : Int) : Bool := if o = 4 then decide (0 ≤ n) && decide (n < 5) else decide (0 ≤ o) && decide (o < 4) && decide (n = 0)
def opdB (x : Int) (t : Bool) (k : Nat) : Bool := if t = true then decide (0 ≤ x) && decide (x < k) else decide (x = -1)
/-- the node t is right at place k (but for equal ones before it) -/
def ndOk (t : Nd) (k : Nat) : Bool := tokB t.1 t.2.1 && opdB t.2.2.1 (tkA t.1) k && opdB t.2.2.2 (tkB t.1) k

set_option maxHeartbeats 400000 in
theorem takesA_any (w : World) (o : Int) : Calls Try.prog 59 #[.int .i64 o] w fun e w' => e = .returned (.bool (tkA o)) ∧ w = w' := by
  by_cases h1 : o = 2
  · subst h1
    go_enter Try.func59, Try.ntmps59
    go_wp2
    go_ret
    exact ⟨rfl, rfl⟩
  · have e1 : (o == 2) = false := by simpa using h1
    have HF : Hid (tkA o = (o == 3)) := by
      show _ = _
      unfold tkA
      rw [decide_eq_false h1]
      rfl
    clear h1
    go_enter Try.func59, Try.ntmps59
    go_wp2
    go_ret
    exact ⟨by rw [HF.out]; rfl, rfl⟩
set_option maxHeartbeats 400000 in
theorem takesB_any (w : World) (o : Int) : Calls Try.prog 60 #[.int .i64 o] w fun e w' => e = .returned (.bool (tkB o)) ∧ w = w' := by
  by_cases h1 : o = 1
  · subst h1
    go_enter Try.func60, Try.ntmps60
    go_wp2
    go_ret
    exact ⟨rfl, rfl⟩
  · have e1 : (o == 1) = false := by simpa using h1
    have HF : Hid (tkB o = tkA o) := by
      show _ = _
      unfold tkB
      rw [decide_eq_false h1]
      rfl
    clear h1
    go_enter Try.func60, Try.ntmps60
    go_wp2_with fail
    refine (takesA_any _ o).mono ?_
    rintro e w1 ⟨rfl, rfl⟩
    go_wp2
    go_ret
    exact ⟨by rw [HF.out]; rfl, rfl⟩
set_option maxHeartbeats 400000 in
theorem operandOk_any (w : World) (x : Int) (t : Bool) (k : Nat) : Calls Try.prog 73 #[.int .i64 x, .bool t, .int .i64 (k : Int)] w fun e w' => e = .returned (.bool (opdB x t k)) ∧ w = w' := by
  cases t with
  | false =>
    have HF : Hid (opdB x false k = (x == -1)) := by show _ = _; rfl
    go_enter Try.func73, Try.ntmps73
    go_wp2
    go_ret
    exact ⟨by rw [HF.out]; rfl, rfl⟩
  | true =>
    by_cases h1 : 0 ≤ x
    · have HF : Hid (opdB x true k = decide (x < k)) := by show _ = _; unfold opdB; rw [if_pos rfl, decide_eq_true h1]; rfl
      have d1 : decide (0 ≤ x) = true := decide_eq_true h1
      clear h1
      go_enter Try.func73, Try.ntmps73
      go_wp2
      go_ret
      exact ⟨by rw [HF.out]; rfl, rfl⟩
    · have HF : Hid (opdB x true k = false) := by show _ = _; unfold opdB; rw [if_pos rfl, decide_eq_false h1]; rfl
      have d1 : decide (0 ≤ x) = false := decide_eq_false h1
      clear h1
      go_enter Try.func73, Try.ntmps73
      go_wp2
      go_ret
      exact ⟨by rw [HF.out]; rfl, rfl⟩
set_option maxHeartbeats 400000 in
theorem tokOf_any (w : World) (o n a b : Int) : Calls Try.prog 72 #[.agg #[.int .i64 o, .int .i64 n, .int .i64 a, .int .i64 b]] w fun e w' => e = .returned (.agg #[.int .i64 o, .int .i64 n]) ∧ Below w.heap.size w w' := by
  go_enter Try.func72, Try.ntmps72
  go_wp2
  exact bodyPost_ret (v := .agg #[.int .i64 o, .int .i64 n]) (by simp [results, Try.results72, go_sem]) rfl ⟨rfl, ((Below.refl _ _).alloc (Nat.le_refl _) _).alloc (by simp) _⟩
set_option maxHeartbeats 800000 in
theorem tokOk_any (w : World) (o n : Int) : Calls Try.prog 71 #[.agg #[.int .i64 o, .int .i64 n]] w fun e w' => e = .returned (.bool (tokB o n)) ∧ Below w.heap.size w w' := by
  have HB : Hid (Below w.heap.size w (w.alloc (.cells #[.int .i64 o, .int .i64 n] 110))) := (Below.refl _ _).alloc (Nat.le_refl _) _
  by_cases h4 : o = 4
  · subst h4
    have HF : Hid ((decide (0 ≤ n) && decide (n < 5)) = tokB 4 n) := by show _ = _; rfl
    go_enter Try.func71, Try.ntmps71
    go_wp2_with fail
    refine (parOk_any _ n).mono ?_
    rintro e w1 ⟨rfl, rfl⟩
    rw [HF.out]
    go_wp2
    go_ret
    exact ⟨rfl, HB.out⟩
  · have e4 : (o == 4) = false := by simpa using h4
    have HF : Hid (tokB o n = (decide (0 ≤ o) && decide (o < 4) && decide (n = 0))) := by show _ = _; unfold tokB; rw [if_neg h4]
    clear h4
    by_cases h0 : 0 ≤ o
    · have d0 : decide (0 ≤ o) = true := decide_eq_true h0
      by_cases h1 : o < 4
      · have d1 : decide (o < 4) = true := decide_eq_true h1
        have HG : Hid (tokB o n = (n == 0)) := by show _ = _; rw [HF.out, d0, d1]; rfl
        clear h0 h1
        go_enter Try.func71, Try.ntmps71
        go_wp2
        go_ret
        exact ⟨by rw [HG.out]; rfl, HB.out⟩
      · have d1 : decide (o < 4) = false := decide_eq_false h1
        have HG : Hid (tokB o n = false) := by show _ = _; rw [HF.out, d0, d1]; rfl
        clear h0 h1
        go_enter Try.func71, Try.ntmps71
        go_wp2
        go_ret
        exact ⟨by rw [HG.out]; rfl, HB.out⟩
    · have d0 : decide (0 ≤ o) = false := decide_eq_false h0
      have HG : Hid (tokB o n = false) := by show _ = _; rw [HF.out, d0]; rfl
      clear h0
      go_enter Try.func71, Try.ntmps71
      go_wp2
      go_ret
      exact ⟨by rw [HG.out]; rfl, HB.out⟩

set_option maxRecDepth 100000 in
set_option maxHeartbeats 2000000 in
theorem okAt_any (w : World) (o n a b : Int) (k : Nat) : Calls Try.prog 57 #[.agg #[.int .i64 o, .int .i64 n, .int .i64 a, .int .i64 b], .int .i64 (k : Int)] w fun e w' => e = .returned (.bool (ndOk (o, n, a, b) k)) ∧ Below w.heap.size w w' := by
  obtain ⟨W, hW⟩ : ∃ W, W = w.alloc (.cells #[.int .i64 o, .int .i64 n, .int .i64 a, .int .i64 b] 57) := ⟨_, rfl⟩
  have hbel : Below w.heap.size w W := by rw [hW]; exact (Below.refl _ _).alloc (Nat.le_refl _) _
  have hg : w.heap.size < W.heap.size := by rw [hW]; simp
  have k1 : ∀ d : Later W, d.out.cell? ⟨w.heap.size, 0, none⟩ = some (.int .i64 o) := fun d => d.cell hg (by rw [hW]; exact (Blk.made w 57 #[.int .i64 o, .int .i64 n, .int .i64 a, .int .i64 b]).cell 0)
  have k2 : ∀ d : Later W, d.out.cell? ⟨w.heap.size, 1, none⟩ = some (.int .i64 n) := fun d => d.cell hg (by rw [hW]; exact (Blk.made w 57 #[.int .i64 o, .int .i64 n, .int .i64 a, .int .i64 b]).cell 1)
  have k3 : ∀ d : Later W, d.out.cell? ⟨w.heap.size, 2, none⟩ = some (.int .i64 a) := fun d => d.cell hg (by rw [hW]; exact (Blk.made w 57 #[.int .i64 o, .int .i64 n, .int .i64 a, .int .i64 b]).cell 2)
  have k4 : ∀ d : Later W, d.out.cell? ⟨w.heap.size, 3, none⟩ = some (.int .i64 b) := fun d => d.cell hg (by rw [hW]; exact (Blk.made w 57 #[.int .i64 o, .int .i64 n, .int .i64 a, .int .i64 b]).cell 3)
  have C1 : Hid (∀ d : Later W, Calls Try.prog 72 #[.agg #[.int .i64 o, .int .i64 n, .int .i64 a, .int .i64 b]] d.out fun e w'' => e = .returned (.agg #[.int .i64 o, .int .i64 n]) ∧ ∃ d' : Later W, w'' = d'.out) := fun d => calls_later (tokOf_any _ _ _ _ _)
  have C2 : Hid (∀ d : Later W, Calls Try.prog 71 #[.agg #[.int .i64 o, .int .i64 n]] d.out fun e w'' => e = .returned (.bool (tokB o n)) ∧ ∃ d' : Later W, w'' = d'.out) := fun d => calls_later (tokOk_any _ _ _)
  have C3 : Hid (∀ d : Later W, Calls Try.prog 59 #[.int .i64 o] d.out fun e w'' => e = .returned (.bool (tkA o)) ∧ ∃ d' : Later W, w'' = d'.out) := fun d => calls_later_same (takesA_any _ _)
  have C4 : Hid (∀ d : Later W, Calls Try.prog 73 #[.int .i64 a, .bool (tkA o), .int .i64 (k : Int)] d.out fun e w'' => e = .returned (.bool (opdB a (tkA o) k)) ∧ ∃ d' : Later W, w'' = d'.out) := fun d => calls_later_same (operandOk_any _ _ _ _)
  have C5 : Hid (∀ d : Later W, Calls Try.prog 60 #[.int .i64 o] d.out fun e w'' => e = .returned (.bool (tkB o)) ∧ ∃ d' : Later W, w'' = d'.out) := fun d => calls_later_same (takesB_any _ _)
  have C6 : Hid (∀ d : Later W, Calls Try.prog 73 #[.int .i64 b, .bool (tkB o), .int .i64 (k : Int)] d.out fun e w'' => e = .returned (.bool (opdB b (tkB o) k)) ∧ ∃ d' : Later W, w'' = d'.out) := fun d => calls_later_same (operandOk_any _ _ _ _)
  have HF : Hid (ndOk (o, n, a, b) k = (tokB o n && opdB a (tkA o) k && opdB b (tkB o) k)) := by show _ = _; rfl
  have HBEL := Lib.hid hbel
  have HW := Lib.hid hW
  obtain ⟨u1, hu1⟩ : ∃ u, tokB o n = u := ⟨_, rfl⟩
  obtain ⟨u2, hu2⟩ : ∃ u, tkA o = u := ⟨_, rfl⟩
  obtain ⟨u3, hu3⟩ : ∃ u, tkB o = u := ⟨_, rfl⟩
  rw [hu2] at C3 C4 HF
  rw [hu3] at C5 C6 HF
  rw [hu1] at C2 HF
  obtain ⟨u4, hu4⟩ : ∃ u, opdB a u2 k = u := ⟨_, rfl⟩
  obtain ⟨u5, hu5⟩ : ∃ u, opdB b u3 k = u := ⟨_, rfl⟩
  rw [hu4] at C4 HF
  rw [hu5] at C6 HF
  clear hu1 hu2 hu3 hu4 hu5 hW hbel hg

  cases u1 with
  | false =>
    go_enter Try.func57, Try.ntmps57
    go_wp2_with fail
    rw [← HW.out]
    refine region_later (by kernel_rfl) (by kernel_rfl) ?_
    repeat (go_big_quiet_step (first | with_reducible exact C1.out _ | with_reducible exact C2.out _ | with_reducible exact C3.out _ | with_reducible exact C4.out _ | with_reducible exact C5.out _ | with_reducible exact C6.out _))
    refine wpQuiet_nil ?_
    intro w1 hb1
    have HB := Lib.hid (HBEL.out.trans (hb1.mono HBEL.out.size))
    clear hb1
    go_wp2
    go_ret
    exact ⟨by rw [HF.out]; rfl, HB.out⟩
  | true =>
    cases u4 with
    | false =>
      go_enter Try.func57, Try.ntmps57
      go_wp2_with fail
      rw [← HW.out]
      refine region_later (by kernel_rfl) (by kernel_rfl) ?_
      repeat (go_big_quiet_step (first | with_reducible exact C1.out _ | with_reducible exact C2.out _ | with_reducible exact C3.out _ | with_reducible exact C4.out _ | with_reducible exact C5.out _ | with_reducible exact C6.out _))
      refine wpQuiet_nil ?_
      intro w1 hb1
      have HB := Lib.hid (HBEL.out.trans (hb1.mono HBEL.out.size))
      clear hb1
      go_wp2
      go_ret
      exact ⟨by rw [HF.out]; rfl, HB.out⟩
    | true =>
      go_enter Try.func57, Try.ntmps57
      go_wp2_with fail
      rw [← HW.out]
      refine region_later (by kernel_rfl) (by kernel_rfl) ?_
      repeat (go_big_quiet_step (first | with_reducible exact C1.out _ | with_reducible exact C2.out _ | with_reducible exact C3.out _ | with_reducible exact C4.out _ | with_reducible exact C5.out _ | with_reducible exact C6.out _))
      refine wpQuiet_nil ?_
      intro w1 hb1
      have HB := Lib.hid (HBEL.out.trans (hb1.mono HBEL.out.size))
      clear hb1
      go_wp2
      go_ret
      exact ⟨by rw [HF.out]; rfl, HB.out⟩

end Go.Proofs.Ytfmhmnpmdjpmeaa

namespace Go.Proofs.Ytfmhmnpmdjpmeaa
open Go.RowKit Go.Maps

/-- the first k nodes are right, each at its place, no two equal -/
def NdAll (l : List Nd) (k : Nat) : Prop := ∀ i, i < k → ndOk (l.getD i nd0) i = true ∧ l.getD i nd0 ∉ l.take i
instance (l : List Nd) (k : Nat) : Decidable (NdAll l k) := by unfold NdAll; infer_instance
def arenaOkR (l : List Nd) : Bool := decide (l.length ≤ 200) && decide (NdAll l l.length)
/-- each index is that of a node -/
def idxR (n : Nat) (is : List Int) : Bool := is.all fun i => decide (0 ≤ i) && decide (i < n)
theorem ndAll_zero (l : List Nd) : NdAll l 0 := fun i hi => absurd hi (by omega)
theorem ndAll_step {l : List Nd} {k : Nat} (h : NdAll l k) (h1 : ndOk (l.getD k nd0) k = true) (h2 : l.getD k nd0 ∉ l.take k) : NdAll l (k + 1) := fun i hi => by
  by_cases e : i = k
  · subst e; exact ⟨h1, h2⟩
  · exact h i (by omega)
theorem arena_yes {l : List Nd} {n : Nat} (hl : l.length = n) (hn : n ≤ 200) (h : NdAll l n) : arenaOkR l = true := by
  subst hl
  simp [arenaOkR, hn, h]
theorem arena_no {l : List Nd} {n k : Nat} (hl : l.length = n) (hk : k < n) (h : ¬ (ndOk (l.getD k nd0) k = true ∧ l.getD k nd0 ∉ l.take k)) : arenaOkR l = false := by
  subst hl
  unfold arenaOkR
  rw [Bool.and_eq_false_iff]
  right
  rw [decide_eq_false_iff_not]
  intro h'
  exact h (h' k hk)
theorem arena_big {l : List Nd} {n : Nat} (hl : l.length = n) (hn : 200 < n) : arenaOkR l = false := by
  subst hl
  unfold arenaOkR
  rw [decide_eq_false (by omega)]
  rfl
theorem take_succ_getD {l : List Nd} {k : Nat} (hk : k < l.length) : l.take (k + 1) = l.take k ++ [l.getD k nd0] := by
  rw [List.take_add_one, List.getElem?_eq_getElem hk]
  simp [List.getD_eq_getElem?_getD, hk]
theorem ndOk_wf {o u a b : Int} {k : Nat} (hk : k ≤ 1048576) (h : ndOk (o, u, a, b) k = true) : ndWf (o, u, a, b) := by
  unfold ndOk at h
  rw [Bool.and_eq_true, Bool.and_eq_true] at h
  obtain ⟨⟨h1, h2⟩, h3⟩ := h
  have hx : ∀ x t, opdB x t k = true → -1 ≤ x ∧ x ≤ 1048576 := by
    intro x t hx
    unfold opdB at hx
    split at hx <;> simp at hx <;> omega
  have a1 : -1 ≤ a ∧ a ≤ 1048576 := hx _ _ h2
  have a2 : -1 ≤ b ∧ b ≤ 1048576 := hx _ _ h3
  have a3 : (0 ≤ o ∧ o ≤ 4) ∧ (0 ≤ u ∧ u ≤ 5) := by
    simp only [tokB] at h1
    split at h1 <;> simp at h1 <;> omega
  exact ⟨WalkArith.wf_i64 (show -9223372036854775808 ≤ o ∧ o ≤ 9223372036854775807 by omega), WalkArith.wf_i64 (show -9223372036854775808 ≤ u ∧ u ≤ 9223372036854775807 by omega), WalkArith.wf_i64 (show -9223372036854775808 ≤ a ∧ a ≤ 9223372036854775807 by omega), WalkArith.wf_i64 (show -9223372036854775808 ≤ b ∧ b ≤ 9223372036854775807 by omega)⟩
/-- what arenaWith answers -/
def awV (g : Nat) (ok : Bool) : Value := .tuple #[.pointer (if ok = true then some ⟨g, 0, none⟩ else none), .bool ok]

set_option maxHeartbeats 800000 in
theorem newArena_any (w : World) : Calls Try.prog 37 #[] w fun e w' => e = .returned (.pointer (some ⟨w.heap.size + 1, 0, none⟩)) ∧ Below w.heap.size w w' ∧ ArO w' w.heap.size (w.heap.size + 1) w.heap.size none 0 0 (.map []) [] := by
  have hmm := @run_makeMap Try.prog
  have hbox : Blk ((w.alloc (.map #[] 0)).alloc (.cells #[.slice none 0 0, .map (some w.heap.size)] 69)) (w.heap.size + 1) 69 #[.slice none 0 0, .map (some w.heap.size)] := by
    have h := Blk.made (w.alloc (.map #[] 0)) 69 #[.slice none 0 0, .map (some w.heap.size)]
    simpa using h
  have HA : Hid (ArO ((w.alloc (.map #[] 0)).alloc (.cells #[.slice none 0 0, .map (some w.heap.size)] 69)) w.heap.size (w.heap.size + 1) w.heap.size none 0 0 (.map []) []) :=
    ⟨by omega, Nat.le_refl _, hbox, World.ownsRow_nil _ _ _ _, (World.ownsMap_made _ _ _ _).alloc _, gn_start⟩
  clear hbox
  go_enter Try.func37, Try.ntmps37
  go_wp2
  go_ret
  exact ⟨rfl, ((Below.refl _ _).alloc (Nat.le_refl _) _).alloc (by simp) _, HA.out⟩
end Go.Proofs.Ytfmhmnpmdjpmeaa

namespace Go.Proofs.Ytfmhmnpmdjpmeaa
open Go.RowKit

/-- the cells of a row of bools -/
def bitA (g : Nat → Bool) (n : Nat) : Array Value := ((List.range n).map fun i => Value.bool (g i)).toArray
theorem bitA_size (g : Nat → Bool) (n : Nat) : (bitA g n).size = n := by simp [bitA]
theorem bitA_get (g : Nat → Bool) {n i : Nat} (hi : i < n) : (bitA g n)[i]? = some (.bool (g i)) := by simp [bitA, hi]
/-- the index j is marked, too -/
def bit1 (f : Nat → Bool) (j : Int) : Nat → Bool := fun i => f i || decide ((i : Int) = j)
theorem bitA_set (g : Nat → Bool) (n i : Nat) : (bitA g n).setIfInBounds i (.bool true) = bitA (bit1 g i) n := by
  apply Array.ext_getElem?
  intro k
  by_cases hk : k < n
  · rw [Array.getElem?_setIfInBounds, bitA_get _ hk, bitA_get _ hk, bitA_size]
    unfold bit1
    by_cases e : i = k
    · subst e
      rw [if_pos rfl, if_pos (by omega)]
      simp
    · rw [if_neg e, decide_eq_false (by omega), Bool.or_false]
  · rw [Array.getElem?_eq_none (by rw [Array.size_setIfInBounds, bitA_size]; omega), Array.getElem?_eq_none (by rw [bitA_size]; omega)]
theorem bit1_none (f : Nat → Bool) : bit1 f (-1) = f := by
  funext i
  unfold bit1
  rw [decide_eq_false (by omega), Bool.or_false]
/-- what the node at k consists of is needed where the node is -/
def needN (l : List Nd) (k : Nat) (f : Nat → Bool) : Nat → Bool := if f k = true then bit1 (bit1 f (l.getD k nd0).2.2.1) (l.getD k nd0).2.2.2 else f
/-- the nodes n - 1, n - 2, .. are gone through, c of them -/
def needD (l : List Nd) (n : Nat) (f : Nat → Bool) : Nat → (Nat → Bool)
  | 0 => f
  | c + 1 => needN l (n - 1 - c) (needD l n f c)
/-- what the node i consists of -/
def needR (l : List Nd) (i : Nat) : Nat → Bool := needD l (i + 1) (bit1 (fun _ => false) i) (i + 1)
/-- the indices below n that f marks -/
def pickTo (f : Nat → Bool) : Nat → List Int
  | 0 => []
  | n + 1 => if f n = true then pickTo f n ++ [(n : Int)] else pickTo f n
theorem pickTo_len (f : Nat → Bool) (n : Nat) : (pickTo f n).length ≤ n := by
  induction n with
  | zero => simp [pickTo]
  | succ n ih =>
    unfold pickTo
    split
    · simp; omega
    · omega
theorem ndOk_ops {o u a b : Int} {k : Nat} (h : ndOk (o, u, a, b) k = true) : (a = -1 ∨ (0 ≤ a ∧ a < k)) ∧ (b = -1 ∨ (0 ≤ b ∧ b < k)) := by
  unfold ndOk at h
  rw [Bool.and_eq_true, Bool.and_eq_true] at h
  obtain ⟨⟨_, h2⟩, h3⟩ := h
  have hx : ∀ x t, opdB x t k = true → x = -1 ∨ (0 ≤ x ∧ x < k) := by
    intro x t hx
    unfold opdB at hx
    split at hx <;> simp at hx <;> omega
  exact ⟨hx _ _ h2, hx _ _ h3⟩
theorem needN_high {l : List Nd} {k j : Nat} {f : Nat → Bool} (hok : ndOk (l.getD k nd0) k = true) (hj : k ≤ j) : needN l k f j = f j := by
  obtain ⟨t, ht⟩ : ∃ t, l.getD k nd0 = t := ⟨_, rfl⟩
  rw [ht] at hok
  obtain ⟨o, u, a, b⟩ := t
  obtain ⟨h1, h2⟩ := ndOk_ops hok
  unfold needN
  rw [ht]
  split
  · simp only [bit1]
    rw [decide_eq_false (by omega), decide_eq_false (by omega)]
    simp
  · rfl
/-- from an index on nothing is marked before the node itself is gone through -/
theorem needD_above {l : List Nd} {n i : Nat} (c : Nat) (hc : c + i + 1 ≤ n) : needD l n (bit1 (fun _ => false) i) c = bit1 (fun _ => false) (i : Int) := by
  induction c with
  | zero => rfl
  | succ c ih =>
    have h := ih (by omega)
    unfold needD
    rw [h]
    unfold needN
    rw [if_neg]
    simp only [bit1, Bool.false_or, decide_eq_true_eq]
    omega
theorem needD_from {l : List Nd} {n i : Nat} (hi : i < n) (c : Nat) (hc : c ≤ i + 1) : needD l n (bit1 (fun _ => false) i) (n - 1 - i + c) = needD l (i + 1) (bit1 (fun _ => false) i) c := by
  induction c with
  | zero => exact needD_above _ (by omega)
  | succ c ih =>
    have h := ih (by omega)
    show needD l n _ ((n - 1 - i + c) + 1) = _
    unfold needD
    rw [h, show n - 1 - (n - 1 - i + c) = i + 1 - 1 - c by omega]
theorem needD_all {l : List Nd} {n i : Nat} (hi : i < n) : needD l n (bit1 (fun _ => false) i) n = needR l i := by
  have h := needD_from (l := l) hi (i + 1) (Nat.le_refl _)
  rw [show n - 1 - i + (i + 1) = n by omega] at h
  exact h
/-- what is above the node is not needed -/
theorem needR_above {l : List Nd} {i j : Nat} (hok : NdAll l (i + 1)) (hj : i < j) : needR l i j = false := by
  have h : ∀ c, c ≤ i + 1 → needD l (i + 1) (bit1 (fun _ => false) i) c j = false := by
    intro c hc
    induction c with
    | zero =>
      show bit1 _ _ _ = false
      simp only [bit1, Bool.false_or, decide_eq_false_iff_not]
      omega
    | succ c ih =>
      unfold needD
      rw [needN_high (hok _ (by omega)).1 (by omega)]
      exact ih (by omega)
  exact h (i + 1) (Nat.le_refl _)
end Go.Proofs.Ytfmhmnpmdjpmeaa
