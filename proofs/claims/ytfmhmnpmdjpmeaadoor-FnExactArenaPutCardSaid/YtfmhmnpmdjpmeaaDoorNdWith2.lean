/- Words for memory: a slice that reads as a list of constraints; one that a call owns. -/
/- Constraints of the program: sideOk, ConOk, ConsOk. -/
/- A node right at its place: the program's okAt and what it calls, the model's l08Node. -/
/- The arena of a list: newArena, arenaWith. -/
/- The arena of a list: arenaWith. -/
import Derived.Test.YtfmhmnpmdjpmeaaDoorNdKey
import Derived.Test.YtfmhmnpmdjpmeaaDoorCls

namespace Go.Proofs.YtfmhmnpmdjpmeaaDoor
open Go.RowKit
open Cs (Cn)

/-- the slice value '.slice A n c' reads as the constraints l; its cells lie below block B -/
def ConR (w : World) (B : Nat) (A : Option Addr) (n : Nat) (l : List Cn) : Prop :=
  l.length = n ∧ (0 < n → ∃ b off, A = some ⟨b, off, none⟩ ∧ b < B ∧ ∀ k, k < n →
    w.cell? ⟨b, off + k * 3, none⟩ = some (.int .i64 (l.getD k (0, 0, 0)).1) ∧ w.cell? ⟨b, off + k * 3 + 1, none⟩ = some (.int .i64 (l.getD k (0, 0, 0)).2.1) ∧ w.cell? ⟨b, off + k * 3 + 2, none⟩ = some (.int .i64 (l.getD k (0, 0, 0)).2.2))
section
variable {w w' : World} {B B' n : Nat} {A : Option Addr}
theorem ConR.keep {l : List Cn} (h : ConR w B A n l) (hk : ∀ p : Addr, p.block < B → w'.cell? p = w.cell? p) : ConR w' B A n l :=
  ⟨h.1, fun hn => by
    obtain ⟨b, off, e, hb, hc⟩ := h.2 hn
    exact ⟨b, off, e, hb, fun k hk' => by rw [hk _ (by exact hb), hk _ (by exact hb), hk _ (by exact hb)]; exact hc k hk'⟩⟩
theorem ConR.below {l : List Cn} (h : ConR w B A n l) (hb : Below B w w') : ConR w' B A n l := h.keep fun _ hp => hb.cell hp
theorem ConR.more {l : List Cn} (h : ConR w B A n l) (hB : B ≤ B') : ConR w B' A n l :=
  ⟨h.1, fun hn => by
    obtain ⟨b, off, e, hb, hc⟩ := h.2 hn
    exact ⟨b, off, e, by omega, hc⟩⟩
end
end Go.Proofs.YtfmhmnpmdjpmeaaDoor

namespace Go.Proofs.YtfmhmnpmdjpmeaaDoor
open Go.RowKit
open Cs (Cn)

set_option maxHeartbeats 400000 in
theorem parOk_any (w : World) (p : Int) : Calls Tryd.prog 130 #[.int .i64 p] w fun e w' => e = .returned (.bool (decide (0 ≤ p) && decide (p < 5))) ∧ w' = w := by
  by_cases h1 : 0 ≤ p
  · have HF : Hid ((decide (0 ≤ p) && decide (p < 5)) = decide (p < 5)) := by show _ = _; simp [h1]
    have d1 : decide (0 ≤ p) = true := decide_eq_true h1
    go_enter Tryd.func130, Tryd.ntmps130
    go_wp2
    go_ret
    exact ⟨by rw [HF.out]; rfl, rfl⟩
  · have d1 : decide (0 ≤ p) = false := decide_eq_false h1
    go_enter Tryd.func130, Tryd.ntmps130
    go_wp2
    go_ret
    exact ⟨rfl, rfl⟩
end Go.Proofs.YtfmhmnpmdjpmeaaDoor

namespace Go.Proofs.YtfmhmnpmdjpmeaaDoor
open Go.RowKit

def tkA (o : Int) : Bool := decide (o = 2) || decide (o = 3)
def tkB (o : Int) : Bool := decide (o = 1) || tkA o
def tokB (o n : Int) : Bool := if o = 4 then decide (0 ≤ n) && decide (n < 5) else decide (0 ≤ o) && decide (o < 4) && decide (n = 0)
def opdB (x : Int) (t : Bool) (k : Nat) : Bool := if t = true then decide (0 ≤ x) && decide (x < k) else decide (x = -1)
/-- the node t is right at place k (but for equal ones before it) -/
def ndOk (t : Nd) (k : Nat) : Bool := tokB t.1 t.2.1 && opdB t.2.2.1 (tkA t.1) k && opdB t.2.2.2 (tkB t.1) k

set_option maxHeartbeats 400000 in
theorem takesA_any (w : World) (o : Int) : Calls Tryd.prog 99 #[.int .i64 o] w fun e w' => e = .returned (.bool (tkA o)) ∧ w = w' := by
  by_cases h1 : o = 2
  · subst h1
    go_enter Tryd.func99, Tryd.ntmps99
    go_wp2
    go_ret
    exact ⟨rfl, rfl⟩
  · have e1 : (o == 2) = false := by simpa using h1
    have HF : Hid (tkA o = (o == 3)) := by
      show _ = _
      unfold tkA
      rw [decide_eq_false h1]
      rfl
    clear h1
    go_enter Tryd.func99, Tryd.ntmps99
    go_wp2
    go_ret
    exact ⟨by rw [HF.out]; rfl, rfl⟩
set_option maxHeartbeats 400000 in
theorem takesB_any (w : World) (o : Int) : Calls Tryd.prog 98 #[.int .i64 o] w fun e w' => e = .returned (.bool (tkB o)) ∧ w = w' := by
  by_cases h1 : o = 1
  · subst h1
    go_enter Tryd.func98, Tryd.ntmps98
    go_wp2
    go_ret
    exact ⟨rfl, rfl⟩
  · have e1 : (o == 1) = false := by simpa using h1
    have HF : Hid (tkB o = tkA o) := by
      show _ = _
      unfold tkB
      rw [decide_eq_false h1]
      rfl
    clear h1
    go_enter Tryd.func98, Tryd.ntmps98
    go_wp2_with fail
    refine (takesA_any _ o).mono ?_
    rintro e w1 ⟨rfl, rfl⟩
    go_wp2
    go_ret
    exact ⟨by rw [HF.out]; rfl, rfl⟩
set_option maxHeartbeats 400000 in
theorem operandOk_any (w : World) (x : Int) (t : Bool) (k : Nat) : Calls Tryd.prog 118 #[.int .i64 x, .bool t, .int .i64 (k : Int)] w fun e w' => e = .returned (.bool (opdB x t k)) ∧ w = w' := by
  cases t with
  | false =>
    have HF : Hid (opdB x false k = (x == -1)) := by show _ = _; rfl
    go_enter Tryd.func118, Tryd.ntmps118
    go_wp2
    go_ret
    exact ⟨by rw [HF.out]; rfl, rfl⟩
  | true =>
    by_cases h1 : 0 ≤ x
    · have HF : Hid (opdB x true k = decide (x < k)) := by show _ = _; unfold opdB; rw [if_pos rfl, decide_eq_true h1]; rfl
      have d1 : decide (0 ≤ x) = true := decide_eq_true h1
      clear h1
      go_enter Tryd.func118, Tryd.ntmps118
      go_wp2
      go_ret
      exact ⟨by rw [HF.out]; rfl, rfl⟩
    · have HF : Hid (opdB x true k = false) := by show _ = _; unfold opdB; rw [if_pos rfl, decide_eq_false h1]; rfl
      have d1 : decide (0 ≤ x) = false := decide_eq_false h1
      clear h1
      go_enter Tryd.func118, Tryd.ntmps118
      go_wp2
      go_ret
      exact ⟨by rw [HF.out]; rfl, rfl⟩
set_option maxHeartbeats 400000 in
theorem tokOf_any (w : World) (o n a b : Int) : Calls Tryd.prog 71 #[.agg #[.int .i64 o, .int .i64 n, .int .i64 a, .int .i64 b]] w fun e w' => e = .returned (.agg #[.int .i64 o, .int .i64 n]) ∧ Below w.heap.size w w' := by
  go_enter Tryd.func71, Tryd.ntmps71
  go_wp2
  exact bodyPost_ret (v := .agg #[.int .i64 o, .int .i64 n]) (by simp [results, Tryd.results71, go_sem]) rfl ⟨rfl, ((Below.refl _ _).alloc (Nat.le_refl _) _).alloc (by simp) _⟩
set_option maxHeartbeats 800000 in
theorem tokOk_any (w : World) (o n : Int) : Calls Tryd.prog 117 #[.agg #[.int .i64 o, .int .i64 n]] w fun e w' => e = .returned (.bool (tokB o n)) ∧ Below w.heap.size w w' := by
  have HB : Hid (Below w.heap.size w (w.alloc (.cells #[.int .i64 o, .int .i64 n] 70))) := (Below.refl _ _).alloc (Nat.le_refl _) _
  by_cases h4 : o = 4
  · subst h4
    have HF : Hid ((decide (0 ≤ n) && decide (n < 5)) = tokB 4 n) := by show _ = _; rfl
    go_enter Tryd.func117, Tryd.ntmps117
    go_wp2_with fail
    refine (parOk_any _ n).mono ?_
    rintro e w1 ⟨rfl, rfl⟩
    rw [HF.out]
    go_wp2
    go_ret
    exact ⟨rfl, HB.out⟩
  · have e4 : (o == 4) = false := by simpa using h4
    have HF : Hid (tokB o n = (decide (0 ≤ o) && decide (o < 4) && decide (n = 0))) := by show _ = _; unfold tokB; rw [if_neg h4]
    clear h4
    by_cases h0 : 0 ≤ o
    · have d0 : decide (0 ≤ o) = true := decide_eq_true h0
      by_cases h1 : o < 4
      · have d1 : decide (o < 4) = true := decide_eq_true h1
        have HG : Hid (tokB o n = (n == 0)) := by show _ = _; rw [HF.out, d0, d1]; rfl
        clear h0 h1
        go_enter Tryd.func117, Tryd.ntmps117
        go_wp2
        go_ret
        exact ⟨by rw [HG.out]; rfl, HB.out⟩
      · have d1 : decide (o < 4) = false := decide_eq_false h1
        have HG : Hid (tokB o n = false) := by show _ = _; rw [HF.out, d0, d1]; rfl
        clear h0 h1
        go_enter Tryd.func117, Tryd.ntmps117
        go_wp2
        go_ret
        exact ⟨by rw [HG.out]; rfl, HB.out⟩
    · have d0 : decide (0 ≤ o) = false := decide_eq_false h0
      have HG : Hid (tokB o n = false) := by show _ = _; rw [HF.out, d0]; rfl
      clear h0
      go_enter Tryd.func117, Tryd.ntmps117
      go_wp2
      go_ret
      exact ⟨by rw [HG.out]; rfl, HB.out⟩

set_option maxRecDepth 100000 in
set_option maxHeartbeats 2000000 in
theorem okAt_any (w : World) (o n a b : Int) (k : Nat) : Calls Tryd.prog 96 #[.agg #[.int .i64 o, .int .i64 n, .int .i64 a, .int .i64 b], .int .i64 (k : Int)] w fun e w' => e = .returned (.bool (ndOk (o, n, a, b) k)) ∧ Below w.heap.size w w' := by
  obtain ⟨W, hW⟩ : ∃ W, W = w.alloc (.cells #[.int .i64 o, .int .i64 n, .int .i64 a, .int .i64 b] 72) := ⟨_, rfl⟩
  have hbel : Below w.heap.size w W := by rw [hW]; exact (Below.refl _ _).alloc (Nat.le_refl _) _
  have hg : w.heap.size < W.heap.size := by rw [hW]; simp
  have k1 : ∀ d : Later W, d.out.cell? ⟨w.heap.size, 0, none⟩ = some (.int .i64 o) := fun d => d.cell hg (by rw [hW]; exact (Blk.made w 72 #[.int .i64 o, .int .i64 n, .int .i64 a, .int .i64 b]).cell 0)
  have k2 : ∀ d : Later W, d.out.cell? ⟨w.heap.size, 1, none⟩ = some (.int .i64 n) := fun d => d.cell hg (by rw [hW]; exact (Blk.made w 72 #[.int .i64 o, .int .i64 n, .int .i64 a, .int .i64 b]).cell 1)
  have k3 : ∀ d : Later W, d.out.cell? ⟨w.heap.size, 2, none⟩ = some (.int .i64 a) := fun d => d.cell hg (by rw [hW]; exact (Blk.made w 72 #[.int .i64 o, .int .i64 n, .int .i64 a, .int .i64 b]).cell 2)
  have k4 : ∀ d : Later W, d.out.cell? ⟨w.heap.size, 3, none⟩ = some (.int .i64 b) := fun d => d.cell hg (by rw [hW]; exact (Blk.made w 72 #[.int .i64 o, .int .i64 n, .int .i64 a, .int .i64 b]).cell 3)
  have C1 : Hid (∀ d : Later W, Calls Tryd.prog 71 #[.agg #[.int .i64 o, .int .i64 n, .int .i64 a, .int .i64 b]] d.out fun e w'' => e = .returned (.agg #[.int .i64 o, .int .i64 n]) ∧ ∃ d' : Later W, w'' = d'.out) := fun d => calls_later (tokOf_any _ _ _ _ _)
  have C2 : Hid (∀ d : Later W, Calls Tryd.prog 117 #[.agg #[.int .i64 o, .int .i64 n]] d.out fun e w'' => e = .returned (.bool (tokB o n)) ∧ ∃ d' : Later W, w'' = d'.out) := fun d => calls_later (tokOk_any _ _ _)
  have C3 : Hid (∀ d : Later W, Calls Tryd.prog 99 #[.int .i64 o] d.out fun e w'' => e = .returned (.bool (tkA o)) ∧ ∃ d' : Later W, w'' = d'.out) := fun d => calls_later_same (takesA_any _ _)
  have C4 : Hid (∀ d : Later W, Calls Tryd.prog 118 #[.int .i64 a, .bool (tkA o), .int .i64 (k : Int)] d.out fun e w'' => e = .returned (.bool (opdB a (tkA o) k)) ∧ ∃ d' : Later W, w'' = d'.out) := fun d => calls_later_same (operandOk_any _ _ _ _)
  have C5 : Hid (∀ d : Later W, Calls Tryd.prog 98 #[.int .i64 o] d.out fun e w'' => e = .returned (.bool (tkB o)) ∧ ∃ d' : Later W, w'' = d'.out) := fun d => calls_later_same (takesB_any _ _)
  have C6 : Hid (∀ d : Later W, Calls Tryd.prog 118 #[.int .i64 b, .bool (tkB o), .int .i64 (k : Int)] d.out fun e w'' => e = .returned (.bool (opdB b (tkB o) k)) ∧ ∃ d' : Later W, w'' = d'.out) := fun d => calls_later_same (operandOk_any _ _ _ _)
  have HF : Hid (ndOk (o, n, a, b) k = (tokB o n && opdB a (tkA o) k && opdB b (tkB o) k)) := by show _ = _; rfl
  have HBEL := Lib.hid hbel
  have HW := Lib.hid hW
  obtain ⟨u1, hu1⟩ : ∃ u, tokB o n = u := ⟨_, rfl⟩
  obtain ⟨u2, hu2⟩ : ∃ u, tkA o = u := ⟨_, rfl⟩
  obtain ⟨u3, hu3⟩ : ∃ u, tkB o = u := ⟨_, rfl⟩
  rw [hu2] at C3 C4 HF
  rw [hu3] at C5 C6 HF
  rw [hu1] at C2 HF
  obtain ⟨u4, hu4⟩ : ∃ u, opdB a u2 k = u := ⟨_, rfl⟩
  obtain ⟨u5, hu5⟩ : ∃ u, opdB b u3 k = u := ⟨_, rfl⟩
  rw [hu4] at C4 HF
  rw [hu5] at C6 HF
  clear hu1 hu2 hu3 hu4 hu5 hW hbel hg

  cases u1 with
  | false =>
    go_enter Tryd.func96, Tryd.ntmps96
    go_wp2_with fail
    rw [← HW.out]
    refine region_later (by kernel_rfl) (by kernel_rfl) ?_
    repeat (go_big_quiet_step (first | with_reducible exact C1.out _ | with_reducible exact C2.out _ | with_reducible exact C3.out _ | with_reducible exact C4.out _ | with_reducible exact C5.out _ | with_reducible exact C6.out _))
    refine wpQuiet_nil ?_
    intro w1 hb1
    have HB := Lib.hid (HBEL.out.trans (hb1.mono HBEL.out.size))
    clear hb1
    go_wp2
    go_ret
    exact ⟨by rw [HF.out]; rfl, HB.out⟩
  | true =>
    cases u4 with
    | false =>
      go_enter Tryd.func96, Tryd.ntmps96
      go_wp2_with fail
      rw [← HW.out]
      refine region_later (by kernel_rfl) (by kernel_rfl) ?_
      repeat (go_big_quiet_step (first | with_reducible exact C1.out _ | with_reducible exact C2.out _ | with_reducible exact C3.out _ | with_reducible exact C4.out _ | with_reducible exact C5.out _ | with_reducible exact C6.out _))
      refine wpQuiet_nil ?_
      intro w1 hb1
      have HB := Lib.hid (HBEL.out.trans (hb1.mono HBEL.out.size))
      clear hb1
      go_wp2
      go_ret
      exact ⟨by rw [HF.out]; rfl, HB.out⟩
    | true =>
      go_enter Tryd.func96, Tryd.ntmps96
      go_wp2_with fail
      rw [← HW.out]
      refine region_later (by kernel_rfl) (by kernel_rfl) ?_
      repeat (go_big_quiet_step (first | with_reducible exact C1.out _ | with_reducible exact C2.out _ | with_reducible exact C3.out _ | with_reducible exact C4.out _ | with_reducible exact C5.out _ | with_reducible exact C6.out _))
      refine wpQuiet_nil ?_
      intro w1 hb1
      have HB := Lib.hid (HBEL.out.trans (hb1.mono HBEL.out.size))
      clear hb1
      go_wp2
      go_ret
      exact ⟨by rw [HF.out]; rfl, HB.out⟩

end Go.Proofs.YtfmhmnpmdjpmeaaDoor

namespace Go.Proofs.YtfmhmnpmdjpmeaaDoor
open Go.RowKit Go.Maps

/-- the first k nodes are right, each at its place, no two equal -/
def NdAll (l : List Nd) (k : Nat) : Prop := ∀ i, i < k → ndOk (l.getD i nd0) i = true ∧ l.getD i nd0 ∉ l.take i
instance (l : List Nd) (k : Nat) : Decidable (NdAll l k) := by unfold NdAll; infer_instance
def arenaOkR (l : List Nd) : Bool := decide (l.length ≤ 200) && decide (NdAll l l.length)
/-- each index is that of a node -/
def idxR (n : Nat) (is : List Int) : Bool := is.all fun i => decide (0 ≤ i) && decide (i < n)
theorem ndAll_zero (l : List Nd) : NdAll l 0 := fun i hi => absurd hi (by omega)
theorem ndAll_step {l : List Nd} {k : Nat} (h : NdAll l k) (h1 : ndOk (l.getD k nd0) k = true) (h2 : l.getD k nd0 ∉ l.take k) : NdAll l (k + 1) := fun i hi => by
  by_cases e : i = k
  · subst e; exact ⟨h1, h2⟩
  · exact h i (by omega)
theorem arena_yes {l : List Nd} {n : Nat} (hl : l.length = n) (hn : n ≤ 200) (h : NdAll l n) : arenaOkR l = true := by
  subst hl
  simp [arenaOkR, hn, h]
theorem arena_no {l : List Nd} {n k : Nat} (hl : l.length = n) (hk : k < n) (h : ¬ (ndOk (l.getD k nd0) k = true ∧ l.getD k nd0 ∉ l.take k)) : arenaOkR l = false := by
  subst hl
  unfold arenaOkR
  rw [Bool.and_eq_false_iff]
  right
  rw [decide_eq_false_iff_not]
  intro h'
  exact h (h' k hk)
theorem arena_big {l : List Nd} {n : Nat} (hl : l.length = n) (hn : 200 < n) : arenaOkR l = false := by
  subst hl
  unfold arenaOkR
  rw [decide_eq_false (by omega)]
  rfl
theorem take_succ_getD {l : List Nd} {k : Nat} (hk : k < l.length) : l.take (k + 1) = l.take k ++ [l.getD k nd0] := by
  rw [List.take_add_one, List.getElem?_eq_getElem hk]
  simp [List.getD_eq_getElem?_getD, hk]
theorem ndOk_wf {o u a b : Int} {k : Nat} (hk : k ≤ 1048576) (h : ndOk (o, u, a, b) k = true) : ndWf (o, u, a, b) := by
  unfold ndOk at h
  rw [Bool.and_eq_true, Bool.and_eq_true] at h
  obtain ⟨⟨h1, h2⟩, h3⟩ := h
  have hx : ∀ x t, opdB x t k = true → -1 ≤ x ∧ x ≤ 1048576 := by
    intro x t hx
    unfold opdB at hx
    split at hx <;> simp at hx <;> omega
  have a1 : -1 ≤ a ∧ a ≤ 1048576 := hx _ _ h2
  have a2 : -1 ≤ b ∧ b ≤ 1048576 := hx _ _ h3
  have a3 : (0 ≤ o ∧ o ≤ 4) ∧ (0 ≤ u ∧ u ≤ 5) := by
    simp only [tokB] at h1
    split at h1 <;> simp at h1 <;> omega
  exact ⟨WalkArith.wf_i64 (show -9223372036854775808 ≤ o ∧ o ≤ 9223372036854775807 by omega), WalkArith.wf_i64 (show -9223372036854775808 ≤ u ∧ u ≤ 9223372036854775807 by omega), WalkArith.wf_i64 (show -9223372036854775808 ≤ a ∧ a ≤ 9223372036854775807 by omega), WalkArith.wf_i64 (show -9223372036854775808 ≤ b ∧ b ≤ 9223372036854775807 by omega)⟩
/-- what arenaWith answers -/
def awV (g : Nat) (ok : Bool) : Value := .tuple #[.pointer (if ok = true then some ⟨g, 0, none⟩ else none), .bool ok]

set_option maxHeartbeats 800000 in
theorem newArena_any (w : World) : Calls Tryd.prog 82 #[] w fun e w' => e = .returned (.pointer (some ⟨w.heap.size + 1, 0, none⟩)) ∧ Below w.heap.size w w' ∧ ArO w' w.heap.size (w.heap.size + 1) w.heap.size none 0 0 (.map []) [] := by
  have hmm := @run_makeMap Tryd.prog
  have hbox : Blk ((w.alloc (.map #[] 0)).alloc (.cells #[.slice none 0 0, .map (some w.heap.size)] 85)) (w.heap.size + 1) 85 #[.slice none 0 0, .map (some w.heap.size)] := by
    have h := Blk.made (w.alloc (.map #[] 0)) 85 #[.slice none 0 0, .map (some w.heap.size)]
    simpa using h
  have HA : Hid (ArO ((w.alloc (.map #[] 0)).alloc (.cells #[.slice none 0 0, .map (some w.heap.size)] 85)) w.heap.size (w.heap.size + 1) w.heap.size none 0 0 (.map []) []) :=
    ⟨by omega, Nat.le_refl _, hbox, World.ownsRow_nil _ _ _ _, (World.ownsMap_made _ _ _ _).alloc _, gn_start⟩
  clear hbox
  go_enter Tryd.func82, Tryd.ntmps82
  go_wp2
  go_ret
  exact ⟨rfl, ((Below.refl _ _).alloc (Nat.le_refl _) _).alloc (by simp) _, HA.out⟩
end Go.Proofs.YtfmhmnpmdjpmeaaDoor

namespace Go.Proofs.YtfmhmnpmdjpmeaaDoor
open Go.RowKit Go.Maps

set_option maxRecDepth 100000 in
set_option maxHeartbeats 4000000 in
theorem arenaWith_any (w : World) (B B2 : Nat) (A A2 : Option Addr) (n c n2 c2 : Nat) (l : List Nd) (is : List Int) (hB : B ≤ w.heap.size) (hB2 : B2 ≤ w.heap.size) (hl : NodR w B A n l) (his : IntR w B2 A2 n2 is) (hn : n ≤ 1048576) (hn2 : n2 ≤ 1048576) :
    Calls Tryd.prog 56 #[.slice A n c, .slice A2 n2 c2] w fun e w' => e = .returned (awV (w.heap.size + 1) (arenaOkR l && idxR n is)) ∧ Below w.heap.size w w' ∧ ((arenaOkR l && idxR n is) = true → ∃ A' c' D', ArO w' w.heap.size (w.heap.size + 1) w.heap.size A' n c' D' l) := by
  by_cases hbig : (200 : Int) < n
  · have HF : Hid ((arenaOkR l && idxR n is) = false) := by show _ = _; rw [arena_big hl.1 (by omega)]; rfl
    clear hl his
    go_enter Tryd.func56, Tryd.ntmps56
    go_wp2
    go_ret2
    refine ⟨by rw [HF.out]; rfl, Below.refl _ _, fun h => ?_⟩
    rw [HF.out] at h
    cases h
  · have hn3 : n ≤ 200 := by omega
    have HL := Lib.hid hl
    have HIS := Lib.hid his
    clear hl his
    go_enter Tryd.func56, Tryd.ntmps56
    go_wp2_with fail
    refine (newArena_any w).mono ?_
    rintro e w1 ⟨rfl, hb1, hA1⟩
    have HB1 := Lib.hid hb1
    have HA1 := Lib.hid hA1
    have hs1 := hb1.size
    clear hb1 hA1
    go_wp2
    go_loopw [17] (fun i wr => ∃ (k : Nat) (A' : Option Addr) (c' : Nat) (D' : DataW Unit), k ≤ n ∧ i = .int .i64 k ∧ Hid (NdAll l k) ∧ Hid (ArO wr w.heap.size (w.heap.size + 1) w.heap.size A' k c' D' (l.take k)) ∧ Below w.heap.size w wr) (fun i _ => n - (intOf i).toNat)
    case atStart => exact ⟨0, none, 0, .map [], Nat.zero_le _, rfl, ndAll_zero l, HA1.out, HB1.out⟩
    case round =>
      obtain ⟨k, A', c', D', hk, rfl, HN, HA, hbel⟩ := hrel
      by_cases hlt : k < n
      · obtain ⟨b, off, rfl, hb, hc⟩ := HL.out.2 (by omega)
        obtain ⟨x1, x2, x3, x4⟩ := hc k hlt
        obtain ⟨t, ht⟩ : ∃ t, l.getD k nd0 = t := ⟨_, rfl⟩
        rw [ht] at x1 x2 x3 x4
        obtain ⟨o, u, a, z⟩ := t
        have HT := Lib.hid ht
        have k1 := (hbel.cell (p := ⟨b, off + k * 4, none⟩) (by show b < _; omega)).trans x1
        have k2 := (hbel.cell (p := ⟨b, off + k * 4 + 1, none⟩) (by show b < _; omega)).trans x2
        have k3 := (hbel.cell (p := ⟨b, off + k * 4 + 2, none⟩) (by show b < _; omega)).trans x3
        have k4 := (hbel.cell (p := ⟨b, off + k * 4 + 3, none⟩) (by show b < _; omega)).trans x4
        have hsr := hbel.size
        have HBEL := Lib.hid hbel
        clear x1 x2 x3 x4 hc ht hbel
        go_wp2_with fail
        refine (okAt_any _ o u a z k).mono ?_
        rintro e w2 ⟨rfl, hb2⟩
        have hbw : Below wr.heap.size wr w2 := ((Below.refl _ wr).alloc (Nat.le_refl _) _).trans (hb2.mono (by simp))
        have blk2 : Blk w2 wr.heap.size 72 #[.int .i64 o, .int .i64 u, .int .i64 a, .int .i64 z] := (Blk.made _ _ _).below hb2 (by simp)
        have HA2 := Lib.hid (HA.out.below hbw)
        have HB2 := Lib.hid (HBEL.out.trans (hbw.mono hsr))
        have hs2 : w.heap.size ≤ w2.heap.size := HB2.out.size
        clear hb2 hbw HA HBEL k1 k2 k3 k4 HB1 HA1 hsr hs1
        cases hok : ndOk (o, u, a, z) k with
        | false =>
          have HF : Hid ((arenaOkR l && idxR n is) = false) := by
            show _ = _
            rw [arena_no HL.out.1 hlt (by rw [HT.out, hok]; rintro ⟨h, _⟩; cases h)]
            rfl
          clear hok blk2
          go_wp2
          go_ret2
          refine ⟨by rw [HF.out]; rfl, HB2.out, fun h => ?_⟩
          rw [HF.out] at h
          cases h
        | true =>
          have j0 := blk2.cell 0
          have j1 := blk2.cell 1
          have j2 := blk2.cell 2
          have j3 := blk2.cell 3
          simp at j0 j1 j2 j3
          have hwf : ndWf (o, u, a, z) := ndOk_wf (by omega) hok
          have HOK := Lib.hid hok
          clear hok blk2
          by_cases hmem : (o, u, a, z) ∈ l.take k
          · have HF : Hid ((arenaOkR l && idxR n is) = false) := by
              show _ = _
              rw [arena_no HL.out.1 hlt (by rw [HT.out]; rintro ⟨_, h⟩; exact h hmem)]
              rfl
            obtain ⟨q, hq⟩ : ∃ q : Nat, (l.take k).idxOf (o, u, a, z) = q := ⟨_, rfl⟩
            have hqk : q < k := by
              have h := List.idxOf_lt_length_of_mem hmem
              rw [hq] at h
              simp at h
              omega
            have hne : ((q : Int) != (k : Int)) = true := by simp; omega
            go_wp2_with fail
            refine (index_in w2 w.heap.size (w.heap.size + 1) w.heap.size A' k c' D' (l.take k) o u a z HA2.out hwf hmem).mono ?_
            rintro e w3 ⟨rfl, hb3⟩
            rw [hq]
            have HB3 := Lib.hid (HB2.out.trans (hb3.mono hs2))
            clear hb3 hq hmem hwf j0 j1 j2 j3
            go_wp2
            go_ret2
            refine ⟨by rw [HF.out]; rfl, HB3.out, fun h => ?_⟩
            rw [HF.out] at h
            cases h
          · have HN2 : Hid (NdAll l (k + 1)) := ndAll_step HN.out (by rw [HT.out]; exact HOK.out) (by rw [HT.out]; exact hmem)
            have hne : ((k : Int) != (k : Int)) = false := by simp
            go_wp2_with fail
            refine (index_new w2 w.heap.size (w.heap.size + 1) w.heap.size A' k c' D' (l.take k) o u a z HA2.out hwf hmem (by omega) hs2).mono ?_
            rintro e w3 ⟨rfl, hb3, ⟨A3, c3, D3, hA3⟩, -⟩
            have HB3 := Lib.hid (HB2.out.trans hb3)
            have HA3 : Hid (ArO w3 w.heap.size (w.heap.size + 1) w.heap.size A3 (k + 1) c3 D3 (l.take (k + 1))) := by
              show ArO _ _ _ _ _ _ _ _ _
              rw [take_succ_getD (by rw [HL.out.1]; exact hlt), HT.out]
              exact hA3
            clear hb3 hA3 hmem hwf j0 j1 j2 j3
            go_wp2
            go_roundw
            case rel => exact ⟨k + 1, A3, c3, D3, by omega, by go_num, HN2.out, HA3.out, HB3.out⟩
            case measure => simp [intOf]; omega
      · obtain rfl : k = n := by omega
        have HOK : Hid (arenaOkR l = true) := arena_yes HL.out.1 hn3 HN.out
        have HA2 : Hid (ArO wr w.heap.size (w.heap.size + 1) w.heap.size A' k c' D' l) := by
          have h := HA.out
          rwa [List.take_of_length_le (by rw [HL.out.1]; exact Nat.le_refl _)] at h
        have HB2 := Lib.hid hbel
        clear HA hbel HN HA1 HB1 hs1
        obtain ⟨ws, hws⟩ : ∃ X, X = wr := ⟨_, rfl⟩
        subst hws
        go_wp2
        go_loopw [36] (fun i wy => ∃ j : Nat, j ≤ n2 ∧ i = .int .i64 j ∧ Hid (∀ q, q < j → 0 ≤ is.getD q 0 ∧ is.getD q 0 < k) ∧ wy = ws) (fun i _ => n2 - (intOf i).toNat)
        case atStart => exact ⟨0, Nat.zero_le _, rfl, (fun q hq => absurd hq (by omega)), rfl⟩
        case round =>
          obtain ⟨j, hj, rfl, HQ, rfl⟩ := hrel
          by_cases hjl : j < n2
          · obtain ⟨b, off, rfl, hb, hc⟩ := HIS.out.2 (by omega)
            have c1 := hc j hjl
            obtain ⟨x, hx⟩ : ∃ x, is.getD j 0 = x := ⟨_, rfl⟩
            rw [hx] at c1
            have k1 := (HB2.out.cell (p := ⟨b, off + j, none⟩) (by show b < _; omega)).trans c1
            have HX := Lib.hid hx
            have hfail : ¬ (0 ≤ x ∧ x < k) → Hid ((arenaOkR l && idxR k is) = false) := by
              intro hno
              show _ = _
              rw [Bool.and_eq_false_iff]
              right
              rw [Bool.eq_false_iff]
              intro h
              apply hno
              unfold idxR at h
              rw [List.all_eq_true] at h
              have hm : x ∈ is := by
                rw [← HX.out, List.getD_eq_getElem?_getD, List.getElem?_eq_getElem (by rw [HIS.out.1]; exact hjl)]
                simp
              simpa using h x hm
            clear c1 hc hx
            by_cases h0 : 0 ≤ x
            · have d0 : decide (x < 0) = false := by simp; omega
              by_cases h1 : x < k
              · have d1 : decide ((k : Int) ≤ x) = false := by simp; omega
                have HQ2 : Hid (∀ q, q < j + 1 → 0 ≤ is.getD q 0 ∧ is.getD q 0 < k) := by
                  intro q hq
                  by_cases e : q = j
                  · subst e; rw [HX.out]; exact ⟨h0, h1⟩
                  · exact HQ.out q (by omega)
                clear hfail h0 h1
                go_wp2
                go_roundw
                case rel => exact ⟨j + 1, by omega, by go_num, HQ2.out, trivial⟩
                case measure => simp [intOf]; omega
              · have d1 : decide ((k : Int) ≤ x) = true := by simp; omega
                have HF := hfail (by rintro ⟨_, h⟩; exact h1 h)
                clear hfail h0 h1
                go_wp2
                go_ret2
                refine ⟨by rw [HF.out]; rfl, HB2.out, fun h => ?_⟩
                rw [HF.out] at h
                cases h
            · have d0 : decide (x < 0) = true := by simp; omega
              have HF := hfail (by rintro ⟨h, _⟩; exact h0 h)
              clear hfail h0
              go_wp2
              go_ret2
              refine ⟨by rw [HF.out]; rfl, HB2.out, fun h => ?_⟩
              rw [HF.out] at h
              cases h
          · have HF : Hid ((arenaOkR l && idxR k is) = true) := by
              show _ = _
              rw [HOK.out, Bool.true_and]
              unfold idxR
              rw [List.all_eq_true]
              intro x hx
              obtain ⟨q, hq, rfl⟩ := List.getElem_of_mem hx
              have h := HQ.out q (by have := HIS.out.1; omega)
              rw [List.getD_eq_getElem?_getD, List.getElem?_eq_getElem hq] at h
              simpa using h
            go_wp2
            go_ret2
            exact ⟨by rw [HF.out]; rfl, HB2.out, fun _ => ⟨_, _, _, HA2.out⟩⟩
end Go.Proofs.YtfmhmnpmdjpmeaaDoor
