/- Words for memory: a slice that reads as a list of constraints; one that a call owns. -/
/- Constraints of the program: sideOk, ConOk, ConsOk. -/
/- A node right at its place: the program's okAt and what it calls, the model's l08Node. -/
/- The arena of a list: newArena, arenaWith. -/
/- What a node consists of: the mathematics. -/
/- What a node consists of: the program's operands. -/
import Derived.Test.YtfmhmnpmdjpmeaaDoorCsMath3
import Derived.Test.YtfmhmnpmdjpmeaaDoorRegInv
import Derived.Test.YtfmhmnpmdjpmeaaDoorCls
import Derived.Maps.AppendAt

namespace Go.Proofs.YtfmhmnpmdjpmeaaDoor
open Go.RowKit
open Cs (Cn)

/-- the slice value '.slice A n c' reads as the constraints l; its cells lie below block B -/
def ConR (w : World) (B : Nat) (A : Option Addr) (n : Nat) (l : List Cn) : Prop :=
  l.length = n ∧ (0 < n → ∃ b off, A = some ⟨b, off, none⟩ ∧ b < B ∧ ∀ k, k < n →
    w.cell? ⟨b, off + k * 3, none⟩ = some (.int .i64 (l.getD k (0, 0, 0)).1) ∧ w.cell? ⟨b, off + k * 3 + 1, none⟩ = some (.int .i64 (l.getD k (0, 0, 0)).2.1) ∧ w.cell? ⟨b, off + k * 3 + 2, none⟩ = some (.int .i64 (l.getD k (0, 0, 0)).2.2))
section
variable {w w' : World} {B B' n : Nat} {A : Option Addr}
theorem ConR.keep {l : List Cn} (h : ConR w B A n l) (hk : ∀ p : Addr, p.block < B → w'.cell? p = w.cell? p) : ConR w' B A n l :=
  ⟨h.1, fun hn => by
    obtain ⟨b, off, e, hb, hc⟩ := h.2 hn
    exact ⟨b, off, e, hb, fun k hk' => by rw [hk _ (by exact hb), hk _ (by exact hb), hk _ (by exact hb)]; exact hc k hk'⟩⟩
theorem ConR.below {l : List Cn} (h : ConR w B A n l) (hb : Below B w w') : ConR w' B A n l := h.keep fun _ hp => hb.cell hp
theorem ConR.more {l : List Cn} (h : ConR w B A n l) (hB : B ≤ B') : ConR w B' A n l :=
  ⟨h.1, fun hn => by
    obtain ⟨b, off, e, hb, hc⟩ := h.2 hn
    exact ⟨b, off, e, by omega, hc⟩⟩
end
end Go.Proofs.YtfmhmnpmdjpmeaaDoor

namespace Go.Proofs.YtfmhmnpmdjpmeaaDoor
open Go.RowKit
open Cs (Cn)

set_option maxHeartbeats 400000 in
theorem parOk_any (w : World) (p : Int) : Calls Tryd.prog 130 #[.int .i64 p] w fun e w' => e = .returned (.bool (decide (0 ≤ p) && decide (p < 5))) ∧ w' = w := by
  by_cases h1 : 0 ≤ p
  · have HF : Hid ((decide (0 ≤ p) && decide (p < 5)) = decide (p < 5)) := by show _ = _; simp [h1]
    have d1 : decide (0 ≤ p) = true := decide_eq_true h1
    go_enter Tryd.func130, Tryd.ntmps130
    go_wp2
    go_ret
    exact ⟨by rw [HF.out]; rfl, rfl⟩
  · have d1 : decide (0 ≤ p) = false := decide_eq_false h1
    go_enter Tryd.func130, Tryd.ntmps130
    go_wp2
    go_ret
    exact ⟨rfl, rfl⟩
end Go.Proofs.YtfmhmnpmdjpmeaaDoor

namespace Go.Proofs.YtfmhmnpmdjpmeaaDoor
open Go.RowKit

def tkA (o : Int) : Bool := decide (o = 2) || decide (o = 3)
def tkB (o : Int) : Bool := decide (o = 1) || tkA o
def tokB (o n : Int) : Bool := if o = 4 then decide (0 ≤ n) && decide (n < 5) else decide (0 ≤ o) && decide (o < 4) && decide (n = 0)
def opdB (x : Int) (t : Bool) (k : Nat) : Bool := if t = true then decide (0 ≤ x) && decide (x < k) else decide (x = -1)
/-- the node t is right at place k (but for equal ones before it) -/
def ndOk (t : Nd) (k : Nat) : Bool := tokB t.1 t.2.1 && opdB t.2.2.1 (tkA t.1) k && opdB t.2.2.2 (tkB t.1) k

set_option maxHeartbeats 400000 in
theorem takesA_any (w : World) (o : Int) : Calls Tryd.prog 99 #[.int .i64 o] w fun e w' => e = .returned (.bool (tkA o)) ∧ w = w' := by
  by_cases h1 : o = 2
  · subst h1
    go_enter Tryd.func99, Tryd.ntmps99
    go_wp2
    go_ret
    exact ⟨rfl, rfl⟩
  · have e1 : (o == 2) = false := by simpa using h1
    have HF : Hid (tkA o = (o == 3)) := by
      show _ = _
      unfold tkA
      rw [decide_eq_false h1]
      rfl
    clear h1
    go_enter Tryd.func99, Tryd.ntmps99
    go_wp2
    go_ret
    exact ⟨by rw [HF.out]; rfl, rfl⟩
set_option maxHeartbeats 400000 in
theorem takesB_any (w : World) (o : Int) : Calls Tryd.prog 98 #[.int .i64 o] w fun e w' => e = .returned (.bool (tkB o)) ∧ w = w' := by
  by_cases h1 : o = 1
  · subst h1
    go_enter Tryd.func98, Tryd.ntmps98
    go_wp2
    go_ret
    exact ⟨rfl, rfl⟩
  · have e1 : (o == 1) = false := by simpa using h1
    have HF : Hid (tkB o = tkA o) := by
      show _ = _
      unfold tkB
      rw [decide_eq_false h1]
      rfl
    clear h1
    go_enter Tryd.func98, Tryd.ntmps98
    go_wp2_with fail
    refine (takesA_any _ o).mono ?_
    rintro e w1 ⟨rfl, rfl⟩
    go_wp2
    go_ret
    exact ⟨by rw [HF.out]; rfl, rfl⟩
set_option maxHeartbeats 400000 in
theorem operandOk_any (w : World) (x : Int) (t : Bool) (k : Nat) : Calls Tryd.prog 118 #[.int .i64 x, .bool t, .int .i64 (k : Int)] w fun e w' => e = .returned (.bool (opdB x t k)) ∧ w = w' := by
  cases t with
  | false =>
    have HF : Hid (opdB x false k = (x == -1)) := by show _ = _; rfl
    go_enter Tryd.func118, Tryd.ntmps118
    go_wp2
    go_ret
    exact ⟨by rw [HF.out]; rfl, rfl⟩
  | true =>
    by_cases h1 : 0 ≤ x
    · have HF : Hid (opdB x true k = decide (x < k)) := by show _ = _; unfold opdB; rw [if_pos rfl, decide_eq_true h1]; rfl
      have d1 : decide (0 ≤ x) = true := decide_eq_true h1
      clear h1
      go_enter Tryd.func118, Tryd.ntmps118
      go_wp2
      go_ret
      exact ⟨by rw [HF.out]; rfl, rfl⟩
    · have HF : Hid (opdB x true k = false) := by show _ = _; unfold opdB; rw [if_pos rfl, decide_eq_false h1]; rfl
      have d1 : decide (0 ≤ x) = false := decide_eq_false h1
      clear h1
      go_enter Tryd.func118, Tryd.ntmps118
      go_wp2
      go_ret
      exact ⟨by rw [HF.out]; rfl, rfl⟩
set_option maxHeartbeats 400000 in
theorem tokOf_any (w : World) (o n a b : Int) : Calls Tryd.prog 71 #[.agg #[.int .i64 o, .int .i64 n, .int .i64 a, .int .i64 b]] w fun e w' => e = .returned (.agg #[.int .i64 o, .int .i64 n]) ∧ Below w.heap.size w w' := by
  go_enter Tryd.func71, Tryd.ntmps71
  go_wp2
  exact bodyPost_ret (v := .agg #[.int .i64 o, .int .i64 n]) (by simp [results, Tryd.results71, go_sem]) rfl ⟨rfl, ((Below.refl _ _).alloc (Nat.le_refl _) _).alloc (by simp) _⟩
set_option maxHeartbeats 800000 in
theorem tokOk_any (w : World) (o n : Int) : Calls Tryd.prog 117 #[.agg #[.int .i64 o, .int .i64 n]] w fun e w' => e = .returned (.bool (tokB o n)) ∧ Below w.heap.size w w' := by
  have HB : Hid (Below w.heap.size w (w.alloc (.cells #[.int .i64 o, .int .i64 n] 70))) := (Below.refl _ _).alloc (Nat.le_refl _) _
  by_cases h4 : o = 4
  · subst h4
    have HF : Hid ((decide (0 ≤ n) && decide (n < 5)) = tokB 4 n) := by show _ = _; rfl
    go_enter Tryd.func117, Tryd.ntmps117
    go_wp2_with fail
    refine (parOk_any _ n).mono ?_
    rintro e w1 ⟨rfl, rfl⟩
    rw [HF.out]
    go_wp2
    go_ret
    exact ⟨rfl, HB.out⟩
  · have e4 : (o == 4) = false := by simpa using h4
    have HF : Hid (tokB o n = (decide (0 ≤ o) && decide (o < 4) && decide (n = 0))) := by show _ = _; unfold tokB; rw [if_neg h4]
    clear h4
    by_cases h0 : 0 ≤ o
    · have d0 : decide (0 ≤ o) = true := decide_eq_true h0
      by_cases h1 : o < 4
      · have d1 : decide (o < 4) = true := decide_eq_true h1
        have HG : Hid (tokB o n = (n == 0)) := by show _ = _; rw [HF.out, d0, d1]; rfl
        clear h0 h1
        go_enter Tryd.func117, Tryd.ntmps117
        go_wp2
        go_ret
        exact ⟨by rw [HG.out]; rfl, HB.out⟩
      · have d1 : decide (o < 4) = false := decide_eq_false h1
        have HG : Hid (tokB o n = false) := by show _ = _; rw [HF.out, d0, d1]; rfl
        clear h0 h1
        go_enter Tryd.func117, Tryd.ntmps117
        go_wp2
        go_ret
        exact ⟨by rw [HG.out]; rfl, HB.out⟩
    · have d0 : decide (0 ≤ o) = false := decide_eq_false h0
      have HG : Hid (tokB o n = false) := by show _ = _; rw [HF.out, d0]; rfl
      clear h0
      go_enter Tryd.func117, Tryd.ntmps117
      go_wp2
      go_ret
      exact ⟨by rw [HG.out]; rfl, HB.out⟩

set_option maxRecDepth 100000 in
set_option maxHeartbeats 2000000 in
theorem okAt_any (w : World) (o n a b : Int) (k : Nat) : Calls Tryd.prog 96 #[.agg #[.int .i64 o, .int .i64 n, .int .i64 a, .int .i64 b], .int .i64 (k : Int)] w fun e w' => e = .returned (.bool (ndOk (o, n, a, b) k)) ∧ Below w.heap.size w w' := by
  obtain ⟨W, hW⟩ : ∃ W, W = w.alloc (.cells #[.int .i64 o, .int .i64 n, .int .i64 a, .int .i64 b] 72) := ⟨_, rfl⟩
  have hbel : Below w.heap.size w W := by rw [hW]; exact (Below.refl _ _).alloc (Nat.le_refl _) _
  have hg : w.heap.size < W.heap.size := by rw [hW]; simp
  have k1 : ∀ d : Later W, d.out.cell? ⟨w.heap.size, 0, none⟩ = some (.int .i64 o) := fun d => d.cell hg (by rw [hW]; exact (Blk.made w 72 #[.int .i64 o, .int .i64 n, .int .i64 a, .int .i64 b]).cell 0)
  have k2 : ∀ d : Later W, d.out.cell? ⟨w.heap.size, 1, none⟩ = some (.int .i64 n) := fun d => d.cell hg (by rw [hW]; exact (Blk.made w 72 #[.int .i64 o, .int .i64 n, .int .i64 a, .int .i64 b]).cell 1)
  have k3 : ∀ d : Later W, d.out.cell? ⟨w.heap.size, 2, none⟩ = some (.int .i64 a) := fun d => d.cell hg (by rw [hW]; exact (Blk.made w 72 #[.int .i64 o, .int .i64 n, .int .i64 a, .int .i64 b]).cell 2)
  have k4 : ∀ d : Later W, d.out.cell? ⟨w.heap.size, 3, none⟩ = some (.int .i64 b) := fun d => d.cell hg (by rw [hW]; exact (Blk.made w 72 #[.int .i64 o, .int .i64 n, .int .i64 a, .int .i64 b]).cell 3)
  have C1 : Hid (∀ d : Later W, Calls Tryd.prog 71 #[.agg #[.int .i64 o, .int .i64 n, .int .i64 a, .int .i64 b]] d.out fun e w'' => e = .returned (.agg #[.int .i64 o, .int .i64 n]) ∧ ∃ d' : Later W, w'' = d'.out) := fun d => calls_later (tokOf_any _ _ _ _ _)
  have C2 : Hid (∀ d : Later W, Calls Tryd.prog 117 #[.agg #[.int .i64 o, .int .i64 n]] d.out fun e w'' => e = .returned (.bool (tokB o n)) ∧ ∃ d' : Later W, w'' = d'.out) := fun d => calls_later (tokOk_any _ _ _)
  have C3 : Hid (∀ d : Later W, Calls Tryd.prog 99 #[.int .i64 o] d.out fun e w'' => e = .returned (.bool (tkA o)) ∧ ∃ d' : Later W, w'' = d'.out) := fun d => calls_later_same (takesA_any _ _)
  have C4 : Hid (∀ d : Later W, Calls Tryd.prog 118 #[.int .i64 a, .bool (tkA o), .int .i64 (k : Int)] d.out fun e w'' => e = .returned (.bool (opdB a (tkA o) k)) ∧ ∃ d' : Later W, w'' = d'.out) := fun d => calls_later_same (operandOk_any _ _ _ _)
  have C5 : Hid (∀ d : Later W, Calls Tryd.prog 98 #[.int .i64 o] d.out fun e w'' => e = .returned (.bool (tkB o)) ∧ ∃ d' : Later W, w'' = d'.out) := fun d => calls_later_same (takesB_any _ _)
  have C6 : Hid (∀ d : Later W, Calls Tryd.prog 118 #[.int .i64 b, .bool (tkB o), .int .i64 (k : Int)] d.out fun e w'' => e = .returned (.bool (opdB b (tkB o) k)) ∧ ∃ d' : Later W, w'' = d'.out) := fun d => calls_later_same (operandOk_any _ _ _ _)
  have HF : Hid (ndOk (o, n, a, b) k = (tokB o n && opdB a (tkA o) k && opdB b (tkB o) k)) := by show _ = _; rfl
  have HBEL := Lib.hid hbel
  have HW := Lib.hid hW
  obtain ⟨u1, hu1⟩ : ∃ u, tokB o n = u := ⟨_, rfl⟩
  obtain ⟨u2, hu2⟩ : ∃ u, tkA o = u := ⟨_, rfl⟩
  obtain ⟨u3, hu3⟩ : ∃ u, tkB o = u := ⟨_, rfl⟩
  rw [hu2] at C3 C4 HF
  rw [hu3] at C5 C6 HF
  rw [hu1] at C2 HF
  obtain ⟨u4, hu4⟩ : ∃ u, opdB a u2 k = u := ⟨_, rfl⟩
  obtain ⟨u5, hu5⟩ : ∃ u, opdB b u3 k = u := ⟨_, rfl⟩
  rw [hu4] at C4 HF
  rw [hu5] at C6 HF
  clear hu1 hu2 hu3 hu4 hu5 hW hbel hg

  cases u1 with
  | false =>
    go_enter Tryd.func96, Tryd.ntmps96
    go_wp2_with fail
    rw [← HW.out]
    refine region_later (by kernel_rfl) (by kernel_rfl) ?_
    repeat (go_big_quiet_step (first | with_reducible exact C1.out _ | with_reducible exact C2.out _ | with_reducible exact C3.out _ | with_reducible exact C4.out _ | with_reducible exact C5.out _ | with_reducible exact C6.out _))
    refine wpQuiet_nil ?_
    intro w1 hb1
    have HB := Lib.hid (HBEL.out.trans (hb1.mono HBEL.out.size))
    clear hb1
    go_wp2
    go_ret
    exact ⟨by rw [HF.out]; rfl, HB.out⟩
  | true =>
    cases u4 with
    | false =>
      go_enter Tryd.func96, Tryd.ntmps96
      go_wp2_with fail
      rw [← HW.out]
      refine region_later (by kernel_rfl) (by kernel_rfl) ?_
      repeat (go_big_quiet_step (first | with_reducible exact C1.out _ | with_reducible exact C2.out _ | with_reducible exact C3.out _ | with_reducible exact C4.out _ | with_reducible exact C5.out _ | with_reducible exact C6.out _))
      refine wpQuiet_nil ?_
      intro w1 hb1
      have HB := Lib.hid (HBEL.out.trans (hb1.mono HBEL.out.size))
      clear hb1
      go_wp2
      go_ret
      exact ⟨by rw [HF.out]; rfl, HB.out⟩
    | true =>
      go_enter Tryd.func96, Tryd.ntmps96
      go_wp2_with fail
      rw [← HW.out]
      refine region_later (by kernel_rfl) (by kernel_rfl) ?_
      repeat (go_big_quiet_step (first | with_reducible exact C1.out _ | with_reducible exact C2.out _ | with_reducible exact C3.out _ | with_reducible exact C4.out _ | with_reducible exact C5.out _ | with_reducible exact C6.out _))
      refine wpQuiet_nil ?_
      intro w1 hb1
      have HB := Lib.hid (HBEL.out.trans (hb1.mono HBEL.out.size))
      clear hb1
      go_wp2
      go_ret
      exact ⟨by rw [HF.out]; rfl, HB.out⟩

end Go.Proofs.YtfmhmnpmdjpmeaaDoor

namespace Go.Proofs.YtfmhmnpmdjpmeaaDoor
open Go.RowKit Go.Maps

/-- the first k nodes are right, each at its place, no two equal -/
def NdAll (l : List Nd) (k : Nat) : Prop := ∀ i, i < k → ndOk (l.getD i nd0) i = true ∧ l.getD i nd0 ∉ l.take i
instance (l : List Nd) (k : Nat) : Decidable (NdAll l k) := by unfold NdAll; infer_instance
def arenaOkR (l : List Nd) : Bool := decide (l.length ≤ 200) && decide (NdAll l l.length)
/-- each index is that of a node -/
def idxR (n : Nat) (is : List Int) : Bool := is.all fun i => decide (0 ≤ i) && decide (i < n)
theorem ndAll_zero (l : List Nd) : NdAll l 0 := fun i hi => absurd hi (by omega)
theorem ndAll_step {l : List Nd} {k : Nat} (h : NdAll l k) (h1 : ndOk (l.getD k nd0) k = true) (h2 : l.getD k nd0 ∉ l.take k) : NdAll l (k + 1) := fun i hi => by
  by_cases e : i = k
  · subst e; exact ⟨h1, h2⟩
  · exact h i (by omega)
theorem arena_yes {l : List Nd} {n : Nat} (hl : l.length = n) (hn : n ≤ 200) (h : NdAll l n) : arenaOkR l = true := by
  subst hl
  simp [arenaOkR, hn, h]
theorem arena_no {l : List Nd} {n k : Nat} (hl : l.length = n) (hk : k < n) (h : ¬ (ndOk (l.getD k nd0) k = true ∧ l.getD k nd0 ∉ l.take k)) : arenaOkR l = false := by
  subst hl
  unfold arenaOkR
  rw [Bool.and_eq_false_iff]
  right
  rw [decide_eq_false_iff_not]
  intro h'
  exact h (h' k hk)
theorem arena_big {l : List Nd} {n : Nat} (hl : l.length = n) (hn : 200 < n) : arenaOkR l = false := by
  subst hl
  unfold arenaOkR
  rw [decide_eq_false (by omega)]
  rfl
theorem take_succ_getD {l : List Nd} {k : Nat} (hk : k < l.length) : l.take (k + 1) = l.take k ++ [l.getD k nd0] := by
  rw [List.take_add_one, List.getElem?_eq_getElem hk]
  simp [List.getD_eq_getElem?_getD, hk]
theorem ndOk_wf {o u a b : Int} {k : Nat} (hk : k ≤ 1048576) (h : ndOk (o, u, a, b) k = true) : ndWf (o, u, a, b) := by
  unfold ndOk at h
  rw [Bool.and_eq_true, Bool.and_eq_true] at h
  obtain ⟨⟨h1, h2⟩, h3⟩ := h
  have hx : ∀ x t, opdB x t k = true → -1 ≤ x ∧ x ≤ 1048576 := by
    intro x t hx
    unfold opdB at hx
    split at hx <;> simp at hx <;> omega
  have a1 : -1 ≤ a ∧ a ≤ 1048576 := hx _ _ h2
  have a2 : -1 ≤ b ∧ b ≤ 1048576 := hx _ _ h3
  have a3 : (0 ≤ o ∧ o ≤ 4) ∧ (0 ≤ u ∧ u ≤ 5) := by
    simp only [tokB] at h1
    split at h1 <;> simp at h1 <;> omega
  exact ⟨WalkArith.wf_i64 (show -9223372036854775808 ≤ o ∧ o ≤ 9223372036854775807 by omega), WalkArith.wf_i64 (show -9223372036854775808 ≤ u ∧ u ≤ 9223372036854775807 by omega), WalkArith.wf_i64 (show -9223372036854775808 ≤ a ∧ a ≤ 9223372036854775807 by omega), WalkArith.wf_i64 (show -9223372036854775808 ≤ b ∧ b ≤ 9223372036854775807 by omega)⟩
/-- what arenaWith answers -/
def awV (g : Nat) (ok : Bool) : Value := .tuple #[.pointer (if ok = true then some ⟨g, 0, none⟩ else none), .bool ok]

set_option maxHeartbeats 800000 in
theorem newArena_any (w : World) : Calls Tryd.prog 82 #[] w fun e w' => e = .returned (.pointer (some ⟨w.heap.size + 1, 0, none⟩)) ∧ Below w.heap.size w w' ∧ ArO w' w.heap.size (w.heap.size + 1) w.heap.size none 0 0 (.map []) [] := by
  have hmm := @run_makeMap Tryd.prog
  have hbox : Blk ((w.alloc (.map #[] 0)).alloc (.cells #[.slice none 0 0, .map (some w.heap.size)] 85)) (w.heap.size + 1) 85 #[.slice none 0 0, .map (some w.heap.size)] := by
    have h := Blk.made (w.alloc (.map #[] 0)) 85 #[.slice none 0 0, .map (some w.heap.size)]
    simpa using h
  have HA : Hid (ArO ((w.alloc (.map #[] 0)).alloc (.cells #[.slice none 0 0, .map (some w.heap.size)] 85)) w.heap.size (w.heap.size + 1) w.heap.size none 0 0 (.map []) []) :=
    ⟨by omega, Nat.le_refl _, hbox, World.ownsRow_nil _ _ _ _, (World.ownsMap_made _ _ _ _).alloc _, gn_start⟩
  clear hbox
  go_enter Tryd.func82, Tryd.ntmps82
  go_wp2
  go_ret
  exact ⟨rfl, ((Below.refl _ _).alloc (Nat.le_refl _) _).alloc (by simp) _, HA.out⟩
end Go.Proofs.YtfmhmnpmdjpmeaaDoor

namespace Go.Proofs.YtfmhmnpmdjpmeaaDoor
open Go.RowKit

/-- the cells of a row of bools -/
def bitA (g : Nat → Bool) (n : Nat) : Array Value := ((List.range n).map fun i => Value.bool (g i)).toArray
theorem bitA_size (g : Nat → Bool) (n : Nat) : (bitA g n).size = n := by simp [bitA]
theorem bitA_get (g : Nat → Bool) {n i : Nat} (hi : i < n) : (bitA g n)[i]? = some (.bool (g i)) := by simp [bitA, hi]
/-- the index j is marked, too -/
def bit1 (f : Nat → Bool) (j : Int) : Nat → Bool := fun i => f i || decide ((i : Int) = j)
theorem bitA_set (g : Nat → Bool) (n i : Nat) : (bitA g n).setIfInBounds i (.bool true) = bitA (bit1 g i) n := by
  apply Array.ext_getElem?
  intro k
  by_cases hk : k < n
  · rw [Array.getElem?_setIfInBounds, bitA_get _ hk, bitA_get _ hk, bitA_size]
    unfold bit1
    by_cases e : i = k
    · subst e
      rw [if_pos rfl, if_pos (by omega)]
      simp
    · rw [if_neg e, decide_eq_false (by omega), Bool.or_false]
  · rw [Array.getElem?_eq_none (by rw [Array.size_setIfInBounds, bitA_size]; omega), Array.getElem?_eq_none (by rw [bitA_size]; omega)]
theorem bit1_none (f : Nat → Bool) : bit1 f (-1) = f := by
  funext i
  unfold bit1
  rw [decide_eq_false (by omega), Bool.or_false]
/-- what the node at k consists of is needed where the node is -/
def needN (l : List Nd) (k : Nat) (f : Nat → Bool) : Nat → Bool := if f k = true then bit1 (bit1 f (l.getD k nd0).2.2.1) (l.getD k nd0).2.2.2 else f
/-- the nodes n - 1, n - 2, .. are gone through, c of them -/
def needD (l : List Nd) (n : Nat) (f : Nat → Bool) : Nat → (Nat → Bool)
  | 0 => f
  | c + 1 => needN l (n - 1 - c) (needD l n f c)
/-- what the node i consists of -/
def needR (l : List Nd) (i : Nat) : Nat → Bool := needD l (i + 1) (bit1 (fun _ => false) i) (i + 1)
/-- the indices below n that f marks -/
def pickTo (f : Nat → Bool) : Nat → List Int
  | 0 => []
  | n + 1 => if f n = true then pickTo f n ++ [(n : Int)] else pickTo f n
theorem pickTo_len (f : Nat → Bool) (n : Nat) : (pickTo f n).length ≤ n := by
  induction n with
  | zero => simp [pickTo]
  | succ n ih =>
    unfold pickTo
    split
    · simp; omega
    · omega
theorem ndOk_ops {o u a b : Int} {k : Nat} (h : ndOk (o, u, a, b) k = true) : (a = -1 ∨ (0 ≤ a ∧ a < k)) ∧ (b = -1 ∨ (0 ≤ b ∧ b < k)) := by
  unfold ndOk at h
  rw [Bool.and_eq_true, Bool.and_eq_true] at h
  obtain ⟨⟨_, h2⟩, h3⟩ := h
  have hx : ∀ x t, opdB x t k = true → x = -1 ∨ (0 ≤ x ∧ x < k) := by
    intro x t hx
    unfold opdB at hx
    split at hx <;> simp at hx <;> omega
  exact ⟨hx _ _ h2, hx _ _ h3⟩
theorem needN_high {l : List Nd} {k j : Nat} {f : Nat → Bool} (hok : ndOk (l.getD k nd0) k = true) (hj : k ≤ j) : needN l k f j = f j := by
  obtain ⟨t, ht⟩ : ∃ t, l.getD k nd0 = t := ⟨_, rfl⟩
  rw [ht] at hok
  obtain ⟨o, u, a, b⟩ := t
  obtain ⟨h1, h2⟩ := ndOk_ops hok
  unfold needN
  rw [ht]
  split
  · simp only [bit1]
    rw [decide_eq_false (by omega), decide_eq_false (by omega)]
    simp
  · rfl
/-- from an index on nothing is marked before the node itself is gone through -/
theorem needD_above {l : List Nd} {n i : Nat} (c : Nat) (hc : c + i + 1 ≤ n) : needD l n (bit1 (fun _ => false) i) c = bit1 (fun _ => false) (i : Int) := by
  induction c with
  | zero => rfl
  | succ c ih =>
    have h := ih (by omega)
    unfold needD
    rw [h]
    unfold needN
    rw [if_neg]
    simp only [bit1, Bool.false_or, decide_eq_true_eq]
    omega
theorem needD_from {l : List Nd} {n i : Nat} (hi : i < n) (c : Nat) (hc : c ≤ i + 1) : needD l n (bit1 (fun _ => false) i) (n - 1 - i + c) = needD l (i + 1) (bit1 (fun _ => false) i) c := by
  induction c with
  | zero => exact needD_above _ (by omega)
  | succ c ih =>
    have h := ih (by omega)
    show needD l n _ ((n - 1 - i + c) + 1) = _
    unfold needD
    rw [h, show n - 1 - (n - 1 - i + c) = i + 1 - 1 - c by omega]
theorem needD_all {l : List Nd} {n i : Nat} (hi : i < n) : needD l n (bit1 (fun _ => false) i) n = needR l i := by
  have h := needD_from (l := l) hi (i + 1) (Nat.le_refl _)
  rw [show n - 1 - i + (i + 1) = n by omega] at h
  exact h
/-- what is above the node is not needed -/
theorem needR_above {l : List Nd} {i j : Nat} (hok : NdAll l (i + 1)) (hj : i < j) : needR l i j = false := by
  have h : ∀ c, c ≤ i + 1 → needD l (i + 1) (bit1 (fun _ => false) i) c j = false := by
    intro c hc
    induction c with
    | zero =>
      show bit1 _ _ _ = false
      simp only [bit1, Bool.false_or, decide_eq_false_iff_not]
      omega
    | succ c ih =>
      unfold needD
      rw [needN_high (hok _ (by omega)).1 (by omega)]
      exact ih (by omega)
  exact h (i + 1) (Nat.le_refl _)
theorem pickTo_above {f : Nat → Bool} {i : Nat} (h : ∀ j, i < j → f j = false) (c : Nat) : pickTo f (i + 1 + c) = pickTo f (i + 1) := by
  induction c with
  | zero => rfl
  | succ c ih =>
    show pickTo f ((i + 1 + c) + 1) = _
    rw [show pickTo f ((i + 1 + c) + 1) = if f (i + 1 + c) = true then pickTo f (i + 1 + c) ++ [((i + 1 + c : Nat) : Int)] else pickTo f (i + 1 + c) from rfl, if_neg (by rw [h _ (by omega)]; decide), ih]
end Go.Proofs.YtfmhmnpmdjpmeaaDoor

namespace Go.Proofs.YtfmhmnpmdjpmeaaDoor
open Go.RowKit

def opP (x : Int) : List Int := if x = -1 then [] else [x]
def opsTo (a b : Int) : Nat → List Int
  | 0 => []
  | 1 => opP a
  | _ => opP a ++ opP b
/-- what a node is made of -/
abbrev opsR (a b : Int) : List Int := opsTo a b 2
theorem opsTo_step (a b : Int) {k : Nat} (hk : k < 2) : opsTo a b (k + 1) = opsTo a b k ++ opP (if k = 0 then a else b) := by
  match k, hk with
  | 0, _ => rfl
  | 1, _ => rfl
theorem opsTo_len (a b : Int) (k : Nat) : (opsTo a b k).length ≤ k := by
  have h : ∀ x, (opP x).length ≤ 1 := by intro x; unfold opP; split <;> simp
  match k with
  | 0 => simp [opsTo]
  | 1 => exact h a
  | k + 2 =>
    have h1 := h a
    have h2 := h b
    simp [opsTo]
    omega
theorem foldl_ops (f : Nat → Bool) (a b : Int) : (opsR a b).foldl bit1 f = bit1 (bit1 f a) b := by
  have h : ∀ (g : Nat → Bool) x, (opP x).foldl bit1 g = bit1 g x := by
    intro g x
    unfold opP
    split
    · rename_i e; rw [e, bit1_none]; rfl
    · rfl
  show (opP a ++ opP b).foldl bit1 f = _
  rw [List.foldl_append, h, h]

set_option maxRecDepth 100000 in
set_option maxHeartbeats 1600000 in
theorem operands_any (w : World) (o u a b : Int) : Calls Tryd.prog 68 #[.agg #[.int .i64 o, .int .i64 u, .int .i64 a, .int .i64 b]] w fun e w' => ∃ A c, e = .returned (.slice A (opsR a b).length c) ∧ OwnI w' w.heap.size A (opsR a b).length c (opsR a b) ∧ Below w.heap.size w w' := by
  obtain ⟨i0, hi, hz0, hz1, hz2⟩ := info_parts info_int
  have HB0 : Hid (Below w.heap.size w (w.alloc (.cells #[.int .i64 o, .int .i64 u, .int .i64 a, .int .i64 b] 72))) := (Below.refl _ _).alloc (Nat.le_refl _) _
  have HS : Hid (OwnI (w.alloc (.cells #[.int .i64 o, .int .i64 u, .int .i64 a, .int .i64 b] 72)) w.heap.size none 0 0 (opsTo a b 0)) := World.ownsRow_nil _ _ _ _
  go_enter Tryd.func68, Tryd.ntmps68
  go_wp2
  go_loopw [3, 11] (fun v i wr => ∃ (k M : Nat) (A' : Option Addr) (c' : Nat), k ≤ 2 ∧ i = .int .i64 k ∧ v = .slice A' M c' ∧ Hid ((opsTo a b k).length = M) ∧ M ≤ k ∧ Hid (OwnI wr w.heap.size A' M c' (opsTo a b k)) ∧ Hid (Below w.heap.size w wr)) (fun _ i _ => 2 - (intOf i).toNat)
  case atStart => exact ⟨0, 0, none, 0, by omega, rfl, rfl, rfl, Nat.le_refl _, HS.out, HB0.out⟩
  case round =>
    clear HS HB0
    obtain ⟨k, M, A', c', hk, rfl, rfl, HM, hMk, HO, HB⟩ := hrel
    have hsr := HB.out.size
    by_cases hlt : k < 2
    · have h01 : k = 0 ∨ k = 1 := by omega
      rcases h01 with rfl | rfl
      · have hrun : ∀ wx, (Instr.index 133 (.agg #[.int .i64 a, .int .i64 b]) (.int .i64 0)).run Tryd.prog wx = .ok (.int .i64 a) wx := by intro wx; kernel_rfl
        have HST : Hid (opsTo a b (0 + 1) = opsTo a b 0 ++ opP a) := opsTo_step a b hlt
        by_cases hx : a = -1
        · have ex : (a != -1) = false := by simp [hx]
          have HE : Hid (opsTo a b (0 + 1) = opsTo a b 0) := by
            show _ = _
            rw [HST.out]
            unfold opP
            rw [if_pos hx, List.append_nil]
          clear hx
          go_wp2
          go_roundw
          case rel => exact ⟨0 + 1, M, A', c', by omega, by go_num, rfl, by rw [HE.out]; exact HM, by omega, by rw [HE.out]; exact HO, HB⟩
          case measure => simp [intOf]
        · have ex : (a != -1) = true := by simpa using hx
          have HE : Hid (opsTo a b (0 + 1) = opsTo a b 0 ++ [a]) := by
            show _ = _
            rw [HST.out]
            unfold opP
            rw [if_neg hx]
          have hown := HO.out
          clear hx
          go_wp2_with (at_builtin; refine wpList_append_own _ rfl (.tmp 16) (.tmp 18) 40 rfl w.heap.size 3 i0 (.int .i64 0) 1 8 Tryd.underlying40 hi hz0 hz1 hz2 rfl (by decide) (.slice A' M c') M ((opsTo a b 0).map (Value.int .i64)) rfl (World.ownsRow.alloc hown _) ⟨wr.heap.size, 0, none⟩ 1 1 [.int .i64 a] rfl rfl (cell_one_new _ _ _) (fun u hu => by simp at hu; subst hu; rfl) (by unfold maxLen; omega) (by omega) (by simp; omega) ?_; intro v' w3 hown' hgrow _)
          obtain ⟨g3, c3, rfl⟩ : ∃ g3 c3, v' = .slice (some ⟨g3, 0, none⟩) (M + 1) c3 := by
            rcases hown'.2 with ⟨_, h⟩ | ⟨g3, c3, _, h, _⟩
            · omega
            · exact ⟨g3, c3, h⟩
          have HB3 : Hid (Below w.heap.size w w3) := (HB.out.alloc hsr _).grown hgrow (by simp; omega) (fun k h => (hown.lt k h).1)
          have HO3 : Hid (OwnI w3 w.heap.size (some ⟨g3, 0, none⟩) (M + 1) c3 (opsTo a b (0 + 1))) := by
            show OwnI _ _ _ _ _ _
            rw [HE.out]
            simpa [OwnI] using hown'
          have HM3 : Hid ((opsTo a b (0 + 1)).length = M + 1) := by
            show _ = _
            rw [HE.out, List.length_append, HM.out]
            rfl
          clear hown hown' hgrow HO HB HM
          go_wp2
          go_roundw
          case rel => exact ⟨0 + 1, M + 1, some ⟨g3, 0, none⟩, c3, by omega, by go_num, rfl, HM3.out, by omega, HO3.out, HB3.out⟩
          case measure => simp [intOf]
      · have hrun : ∀ wx, (Instr.index 133 (.agg #[.int .i64 a, .int .i64 b]) (.int .i64 1)).run Tryd.prog wx = .ok (.int .i64 b) wx := by intro wx; kernel_rfl
        have HST : Hid (opsTo a b (1 + 1) = opsTo a b 1 ++ opP b) := opsTo_step a b hlt
        by_cases hx : b = -1
        · have ex : (b != -1) = false := by simp [hx]
          have HE : Hid (opsTo a b (1 + 1) = opsTo a b 1) := by
            show _ = _
            rw [HST.out]
            unfold opP
            rw [if_pos hx, List.append_nil]
          clear hx
          go_wp2
          go_roundw
          case rel => exact ⟨1 + 1, M, A', c', by omega, by go_num, rfl, by rw [HE.out]; exact HM, by omega, by rw [HE.out]; exact HO, HB⟩
          case measure => simp [intOf]
        · have ex : (b != -1) = true := by simpa using hx
          have HE : Hid (opsTo a b (1 + 1) = opsTo a b 1 ++ [b]) := by
            show _ = _
            rw [HST.out]
            unfold opP
            rw [if_neg hx]
          have hown := HO.out
          clear hx
          go_wp2_with (at_builtin; refine wpList_append_own _ rfl (.tmp 16) (.tmp 18) 40 rfl w.heap.size 3 i0 (.int .i64 0) 1 8 Tryd.underlying40 hi hz0 hz1 hz2 rfl (by decide) (.slice A' M c') M ((opsTo a b 1).map (Value.int .i64)) rfl (World.ownsRow.alloc hown _) ⟨wr.heap.size, 0, none⟩ 1 1 [.int .i64 b] rfl rfl (cell_one_new _ _ _) (fun u hu => by simp at hu; subst hu; rfl) (by unfold maxLen; omega) (by omega) (by simp; omega) ?_; intro v' w3 hown' hgrow _)
          obtain ⟨g3, c3, rfl⟩ : ∃ g3 c3, v' = .slice (some ⟨g3, 0, none⟩) (M + 1) c3 := by
            rcases hown'.2 with ⟨_, h⟩ | ⟨g3, c3, _, h, _⟩
            · omega
            · exact ⟨g3, c3, h⟩
          have HB3 : Hid (Below w.heap.size w w3) := (HB.out.alloc hsr _).grown hgrow (by simp; omega) (fun k h => (hown.lt k h).1)
          have HO3 : Hid (OwnI w3 w.heap.size (some ⟨g3, 0, none⟩) (M + 1) c3 (opsTo a b (1 + 1))) := by
            show OwnI _ _ _ _ _ _
            rw [HE.out]
            simpa [OwnI] using hown'
          have HM3 : Hid ((opsTo a b (1 + 1)).length = M + 1) := by
            show _ = _
            rw [HE.out, List.length_append, HM.out]
            rfl
          clear hown hown' hgrow HO HB HM
          go_wp2
          go_roundw
          case rel => exact ⟨1 + 1, M + 1, some ⟨g3, 0, none⟩, c3, by omega, by go_num, rfl, HM3.out, by omega, HO3.out, HB3.out⟩
          case measure => simp [intOf]
    · obtain rfl : k = 2 := by omega
      have HOM : Hid (OwnI wr w.heap.size A' (opsTo a b 2).length c' (opsTo a b 2)) := by
        show OwnI _ _ _ _ _ _
        rw [HM.out]
        exact HO.out
      go_wp2
      go_ret
      refine ⟨A', c', ?_, HOM.out, HB.out⟩
      rw [HM.out]
      rfl
end Go.Proofs.YtfmhmnpmdjpmeaaDoor
