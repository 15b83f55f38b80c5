/- Inside a fence (the body of a range over a function): an operation as everywhere; a region that draws its order, by an invariant. -/
import Derived.OrdersIn
import Derived.RangeFuncCalls
import Derived.OwnWalkIn
import Derived.Laws.Tables
import Derived.Test.YtgebjnoicgmdoaaGreatDoorRegInv2

namespace Go.Proofs.YtgebjnoicgmdoaaGreatDoor
open Go

theorem act_tmI (a : Array Value) (N : Nat) (h : a.size = N) : ({ tmps := a, defers := [] } : Act) = tm N (fun t => a.getD t undef) := by
  subst h
  unfold tm
  congr 1
  apply Array.ext (by simp)
  intro i h1 h2
  simp [Array.getD, h1]

theorem tm_getI {N t : Nat} (h : t < N) (f : Nat → Value) : (tm N f).tmps[t]?.getD undef = f t := by simp [tm, h]
section
variable {F : Fence} {n : Nat} {P : Program} {ops : Array Oper} {Q : Exit → Act → World → Prop}
/-- whatever order is picked, an invariant that each operation keeps holds at the end -/
theorem wpAnyIn_inv {md : Region.Mode} (I : Nat → Array Bool → Act → World → Prop)
    (hstep : ∀ k listed a w, k < ops.size → I k listed a w → ∀ i ∈ Region.ready md ops listed, wpOpIn F n P ops Q i (I (k + 1) (listed.setIfInBounds i true)) a w)
    (hend : ∀ k listed a w, k ≤ ops.size → I k listed a w → Region.ready md ops listed = [] → Q .normal a w) :
    ∀ (fuel k : Nat) (listed : Array Bool) (a : Act) (w : World), fuel + k = ops.size → listed.toList.count false ≤ fuel → I k listed a w → wpAnyIn F n P md ops Q fuel listed a w := by
  intro fuel
  induction fuel with
  | zero =>
    intro k listed a w hk hc hI
    have hr : Region.ready md ops listed = [] := by
      cases h : Region.ready md ops listed with
      | nil => rfl
      | cons x xs =>
        have := ready_pos (md := md) (ops := ops) (listed := listed) (i := x) (by rw [h]; simp)
        omega
    exact ⟨hr, hend k listed a w (by omega) hI hr⟩
  | succ fuel ih =>
    intro k listed a w hk hc hI
    refine ⟨hend k listed a w (by omega) hI, fun i hi => ?_⟩
    refine wpOpIn_mono (fun a' w' h => ih (k + 1) _ a' w' (by omega) ?_ h) (hstep k listed a w (by omega) hI i hi)
    have := count_listed (mem_ready.1 hi).1
    omega
theorem region_slots_in {id : Nat} (N : Nat) (f0 : Nat → Value) (G : Nat → (Nat → Bool) → (Nat → Value) → World → Prop) (C : Nat → Value → World → Prop) (R : World → World → Prop) {w : World}
    (hm : P.follows .mixedOrders = true) (hok : slotsOk ops = true) (h0 : G 0 (fun _ => false) f0 w.drew)
    (hkeep : ∀ i v w w', R w w' → C i v w → C i v w')
    (hstep : ∀ i o, ops[i]? = some o → ∀ k d f w, k < ops.size → d i = false → (∀ i j, d i = true → waitsFor ops i j = true → d j = true) → (∀ j, waitsFor ops i j = true → d j = true) → G k d f w → (∀ t, (∀ j, dstOf ops j = some t → d j = false) → f t = f0 t) → (∀ j, waitsFor ops i j = true → C j (slotV ops f j) w) →
      wpOpIn F n P ops Q i (fun a' w' => ∃ v, a' = (tm N f).put o.dst v ∧ R w w' ∧ G (k + 1) (mark d i) (upd f o.dst v) w' ∧ C i (match o.dst with | some _ => v | none => undef) w') (tm N f) w)
    (hend : ∀ k d f w, k ≤ ops.size → (∀ j, j < ops.size → d j = true) → G k d f w → (∀ t, (∀ j, dstOf ops j = some t → d j = false) → f t = f0 t) → (∀ j, j < ops.size → C j (slotV ops f j) w) → Q .normal (tm N f) w) :
    (Code.region id ops true).wpIn F n P Q (tm N f0) w := by
  refine wpIn_region_any hm ?_
  refine wpAnyIn_inv (fun k listed a w => listed.size = ops.size ∧ ∃ f, a = tm N f ∧ G k (fun j => listed.getD j false) f w ∧ (∀ i j, listed.getD i false = true → waitsFor ops i j = true → listed.getD j false = true) ∧ (∀ t, (∀ j, dstOf ops j = some t → listed.getD j false = false) → f t = f0 t) ∧ ∀ j, listed.getD j false = true → C j (slotV ops f j) w) ?_ ?_ ops.size 0 _ _ _ (by omega) ?_ ?_
  · rintro k listed a w hk ⟨hs, f, rfl, hG, hcl, hf, hC⟩ i hi
    obtain ⟨hun, o, ho, hdep⟩ := mem_ready.1 hi
    have hi' : i < ops.size := (Array.getElem?_eq_some_iff.1 ho).1
    have hun' : listed.getD i false = false := by simpa [Array.getD, hs, hi'] using hun
    have hw : ∀ j, waitsFor ops i j = true → listed.getD j false = true := fun j hj => by
      unfold waitsFor at hj
      rw [ho] at hj
      obtain ⟨e, he, hb⟩ := Array.any_eq_true'.1 hj
      simp only [Bool.and_eq_true, beq_iff_eq] at hb
      rw [← hb.2]
      exact hdep e he hb.1
    refine wpOpIn_mono ?_ (hstep i o ho k _ f w hk hun' hcl hw hG hf fun j hj => hC j (hw j hj))
    · rintro a' w' ⟨v, rfl, hR, hG', hCi⟩
      have hmk : mark (fun j => listed.getD j false) i = fun j => (listed.setIfInBounds i true).getD j false := by
        funext j
        unfold mark
        by_cases e : j = i
        · subst e; rw [if_pos rfl]; simp [Array.getD, hs, hi']
        · rw [if_neg e, getD_set_ne false (Ne.symm e)]
      rw [hmk] at hG'
      refine ⟨by simpa using hs, upd f o.dst v, tm_put N f o.dst v, hG', fun i' j' h1 h2 => ?_, fun t ht => ?_, fun j hj => ?_⟩
      · refine getD_set_true ?_
        by_cases e : i' = i
        · subst e
          unfold waitsFor at h2
          rw [ho] at h2
          obtain ⟨e, he, hb⟩ := Array.any_eq_true'.1 h2
          simp only [Bool.and_eq_true, beq_iff_eq] at hb
          rw [← hb.2]
          exact hdep e he hb.1
        · rw [getD_set_ne false (Ne.symm e)] at h1
          exact hcl i' j' h1 h2
      · have hti : o.dst ≠ some t := fun e => by
          have h1 := ht i (by simp [dstOf, ho, e])
          rw [show (listed.setIfInBounds i true).getD i false = true by simp [Array.getD, hs, hi']] at h1
          cases h1
        refine (upd_other f v hti).trans (hf t fun j hj => ?_)
        have h1 := ht j hj
        by_cases e : j = i
        · subst e; exact hun'
        · rwa [getD_set_ne false (Ne.symm e)] at h1
      · by_cases e : j = i
        · subst e
          have : slotV ops (upd f o.dst v) j = (match o.dst with | some _ => v | none => undef) := by
            unfold slotV dstOf
            rw [ho]
            simp only [Option.bind_some]
            cases hd : o.dst with
            | none => rfl
            | some t => exact upd_same f t v
          rw [this]
          exact hCi
        · rw [getD_set_ne false (Ne.symm e)] at hj
          have hj' : j < ops.size := by
            rcases Nat.lt_or_ge j listed.size with h | h
            · omega
            · simp [Array.getD, Nat.not_lt.2 h] at hj
          have : slotV ops (upd f o.dst v) j = slotV ops f j := by
            unfold slotV
            cases hd : dstOf ops j with
            | none => rfl
            | some t =>
              refine upd_other f v fun e' => ?_
              exact slotsOk_apart hok hj' hi' e hd (by simp [dstOf, ho, e'])
          rw [this]
          exact hkeep j _ w w' hR (hC j hj)
  · rintro k listed a w hk ⟨hs, f, rfl, hG, _, hf, hC⟩ hr
    have hall := ready_none hok hs hr
    exact hend k _ f w hk hall hG hf fun j hj => hC j (hall j hj)
  · simp
  · have hrep : ∀ j, (Array.replicate ops.size false).getD j false = false := fun j => by
      rcases Nat.lt_or_ge j ops.size with h | h
      · simp [Array.getD, h]
      · simp [Array.getD, Nat.not_lt.2 h]
    refine ⟨by simp, f0, rfl, ?_, (fun i j hi _ => by rw [hrep i] at hi; cases hi), fun _ _ => rfl, fun j hj => ?_⟩
    · rw [show (fun j => (Array.replicate ops.size false).getD j false) = fun _ => false from funext hrep]
      exact h0
    · rw [hrep j] at hj
      cases hj


end
section
variable {l n : Nat} {P : Program} {ops : Array Oper} {Q : Exit → Act → World → Prop}
/-- in a round behind the wide fence an operation that is no defer statement is carried out as everywhere -/
theorem oper_wi {o : Oper} {a : Act} {w : World} {K : Act → World → Prop} (hd : ∀ c, o.op ≠ .defer c) (h : o.wp P a w K Q) : o.wpIn (Fence.wide.inRound l) n P a w K Q := by
  refine ⟨fun _ _ => trivial, ?_⟩
  rw [Oper.semAt_plain _ _ _ hd]
  unfold Oper.wp at h
  generalize (execOp a.eval o).run P w = r at *
  cases r with
  | ok x w' =>
    cases x <;> simp only [Oper.upon] at h <;> simp only [Oper.uponIn]
    case value => exact h
    case skip => exact h
    case defer => exact h
    case enter f args => exact ⟨fun h0 => (by cases h0), CallsIn.inRound l (callsIn_wide.2 h)⟩
    case row row args =>
      refine ⟨fun h0 => (by cases h0), fun c cs _ => ?_⟩
      obtain ⟨v, w2, r, s⟩ := h c cs
      exact ⟨v, w2, r, stepsIn_wide.2 s⟩
  | halt x w' => cases x <;> simp only [Oper.upon] at h <;> simp only [Oper.uponIn] <;> exact h
theorem op_wi {i : Nat} {o : Oper} {a : Act} {w : World} {K : Act → World → Prop} (hi : ops[i]? = some o) (hg : o.guard = none) (hd : ∀ c, o.op ≠ .defer c)
    (h : ∀ K' : Act → World → Prop, (∀ a w, K a w → K' a w) → o.wp P a w K' Q) : wpOpIn (Fence.wide.inRound l) n P ops Q i K a w := by
  unfold wpOpIn
  rw [hi]
  simp only [Region.wanted, hg, if_true]
  exact oper_wi hd (h K fun _ _ h => h)
/-- a whole row stored in a round -/
theorem wpListIn_store_row {rest : List Oper} {o : Oper} {a : Act} {w : World} (hgd : o.guard = none) (ty : TypeId) (x y : Operand) (ho : o.op = .store ty x y)
    (g : Nat) (cells : Array Value) (hx : a.eval x = .pointer (some ⟨g, 0, none⟩)) (hy : a.eval y = .agg cells)
    (t : TypeId) (old : Array Value) (hg : w.heap[g]? = some (.cells old t (0, 0))) (hi : (P.info? ty).map (·.size) = some cells.size)
    (hold : old.size = cells.size) (h1 : cells.all (·.oneCell') = true)
    (h : wpListIn (Fence.wide.inRound l) n P ops Q rest (a.put o.dst undef) (w.setRow g cells)) : wpListIn (Fence.wide.inRound l) n P ops Q (o :: rest) a w :=
  wpListIn_plain hgd fun _ hK => oper_wi (by rw [ho]; intro c e; cases e) (wp_store_row ty x y ho g cells hx hy t old hg hi hold h1 (hK _ _ h))
end
end Go.Proofs.YtgebjnoicgmdoaaGreatDoor
