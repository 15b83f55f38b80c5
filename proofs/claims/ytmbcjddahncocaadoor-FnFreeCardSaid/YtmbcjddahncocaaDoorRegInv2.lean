/- A region that draws its order, by an invariant that speaks of the slots, too. -/
import Derived.Test.YtmbcjddahncocaaDoorCon

namespace Go.Proofs.YtmbcjddahncocaaDoor
open Go

section
variable {P : Program} {ops : Array Oper} {Q : Exit → Act → World → Prop}
theorem region_slots2 {id : Nat} (N : Nat) (f0 : Nat → Value) (G : Nat → (Nat → Bool) → (Nat → Value) → World → Prop) (C : Nat → Value → World → Prop) (R : World → World → Prop) {w : World}
    (hm : P.follows .mixedOrders = true) (hok : slotsOk ops = true) (h0 : G 0 (fun _ => false) f0 w.drew)
    (hkeep : ∀ i v w w', R w w' → C i v w → C i v w')
    (hstep : ∀ i o, ops[i]? = some o → ∀ k d f w, k < ops.size → d i = false → (∀ i j, d i = true → waitsFor ops i j = true → d j = true) → (∀ j, waitsFor ops i j = true → d j = true) → G k d f w → (∀ t, (∀ j, dstOf ops j = some t → d j = false) → f t = f0 t) → (∀ j, waitsFor ops i j = true → C j (slotV ops f j) w) →
      wpOp P ops Q i (fun a' w' => ∃ v, a' = (tm N f).put o.dst v ∧ R w w' ∧ G (k + 1) (mark d i) (upd f o.dst v) w' ∧ C i (match o.dst with | some _ => v | none => undef) w') (tm N f) w)
    (hend : ∀ k d f w, k ≤ ops.size → (∀ j, j < ops.size → d j = true) → G k d f w → (∀ t, (∀ j, dstOf ops j = some t → d j = false) → f t = f0 t) → (∀ j, j < ops.size → C j (slotV ops f j) w) → Q .normal (tm N f) w) :
    (Code.region id ops true).wp P Q (tm N f0) w := by
  refine wp_region_any hm ?_
  refine wpAny_inv (fun k listed a w => listed.size = ops.size ∧ ∃ f, a = tm N f ∧ G k (fun j => listed.getD j false) f w ∧ (∀ i j, listed.getD i false = true → waitsFor ops i j = true → listed.getD j false = true) ∧ (∀ t, (∀ j, dstOf ops j = some t → listed.getD j false = false) → f t = f0 t) ∧ ∀ j, listed.getD j false = true → C j (slotV ops f j) w) ?_ ?_ ops.size 0 _ _ _ (by omega) ?_ ?_
  · rintro k listed a w hk ⟨hs, f, rfl, hG, hcl, hf, hC⟩ i hi
    obtain ⟨hun, o, ho, hdep⟩ := mem_ready.1 hi
    have hi' : i < ops.size := (Array.getElem?_eq_some_iff.1 ho).1
    have hun' : listed.getD i false = false := by simpa [Array.getD, hs, hi'] using hun
    have hw : ∀ j, waitsFor ops i j = true → listed.getD j false = true := fun j hj => by
      unfold waitsFor at hj
      rw [ho] at hj
      obtain ⟨e, he, hb⟩ := Array.any_eq_true'.1 hj
      simp only [Bool.and_eq_true, beq_iff_eq] at hb
      rw [← hb.2]
      exact hdep e he hb.1
    refine wpOp_mono ?_ (hstep i o ho k _ f w hk hun' hcl hw hG hf fun j hj => hC j (hw j hj))
    · rintro a' w' ⟨v, rfl, hR, hG', hCi⟩
      have hmk : mark (fun j => listed.getD j false) i = fun j => (listed.setIfInBounds i true).getD j false := by
        funext j
        unfold mark
        by_cases e : j = i
        · subst e; rw [if_pos rfl]; simp [Array.getD, hs, hi']
        · rw [if_neg e, getD_set_ne false (Ne.symm e)]
      rw [hmk] at hG'
      refine ⟨by simpa using hs, upd f o.dst v, tm_put N f o.dst v, hG', fun i' j' h1 h2 => ?_, fun t ht => ?_, fun j hj => ?_⟩
      · refine getD_set_true ?_
        by_cases e : i' = i
        · subst e
          unfold waitsFor at h2
          rw [ho] at h2
          obtain ⟨e, he, hb⟩ := Array.any_eq_true'.1 h2
          simp only [Bool.and_eq_true, beq_iff_eq] at hb
          rw [← hb.2]
          exact hdep e he hb.1
        · rw [getD_set_ne false (Ne.symm e)] at h1
          exact hcl i' j' h1 h2
      · have hti : o.dst ≠ some t := fun e => by
          have h1 := ht i (by simp [dstOf, ho, e])
          rw [show (listed.setIfInBounds i true).getD i false = true by simp [Array.getD, hs, hi']] at h1
          cases h1
        refine (upd_other f v hti).trans (hf t fun j hj => ?_)
        have h1 := ht j hj
        by_cases e : j = i
        · subst e; exact hun'
        · rwa [getD_set_ne false (Ne.symm e)] at h1
      · by_cases e : j = i
        · subst e
          have : slotV ops (upd f o.dst v) j = (match o.dst with | some _ => v | none => undef) := by
            unfold slotV dstOf
            rw [ho]
            simp only [Option.bind_some]
            cases hd : o.dst with
            | none => rfl
            | some t => exact upd_same f t v
          rw [this]
          exact hCi
        · rw [getD_set_ne false (Ne.symm e)] at hj
          have hj' : j < ops.size := by
            rcases Nat.lt_or_ge j listed.size with h | h
            · omega
            · simp [Array.getD, Nat.not_lt.2 h] at hj
          have : slotV ops (upd f o.dst v) j = slotV ops f j := by
            unfold slotV
            cases hd : dstOf ops j with
            | none => rfl
            | some t =>
              refine upd_other f v fun e' => ?_
              exact slotsOk_apart hok hj' hi' e hd (by simp [dstOf, ho, e'])
          rw [this]
          exact hkeep j _ w w' hR (hC j hj)
  · rintro k listed a w hk ⟨hs, f, rfl, hG, _, hf, hC⟩ hr
    have hall := ready_none hok hs hr
    exact hend k _ f w hk hall hG hf fun j hj => hC j (hall j hj)
  · simp
  · have hrep : ∀ j, (Array.replicate ops.size false).getD j false = false := fun j => by
      rcases Nat.lt_or_ge j ops.size with h | h
      · simp [Array.getD, h]
      · simp [Array.getD, Nat.not_lt.2 h]
    refine ⟨by simp, f0, rfl, ?_, (fun i j hi _ => by rw [hrep i] at hi; cases hi), fun _ _ => rfl, fun j hj => ?_⟩
    · rw [show (fun j => (Array.replicate ops.size false).getD j false) = fun _ => false from funext hrep]
      exact h0
    · rw [hrep j] at hj
      cases hj

/-- all operations come up ahead of this one -/
def feeds (ops : Array Oper) (top : Nat) : Bool := (List.range top).all fun i => (List.range (top + 1)).any fun j => decide (i < j) && waitsFor ops j i
theorem feeds_all {top : Nat} {d : Nat → Bool} (h : feeds ops top = true) (hcl : ∀ i j, d i = true → waitsFor ops i j = true → d j = true) (ht : d top = true) : ∀ n i, top - i ≤ n → i ≤ top → d i = true := by
  intro n
  induction n with
  | zero => intro i h1 h2; rw [show i = top by omega]; exact ht
  | succ n ih =>
    intro i h1 h2
    by_cases e : i = top
    · rw [e]; exact ht
    · unfold feeds at h
      have h3 := List.all_eq_true.1 h i (List.mem_range.2 (by omega))
      obtain ⟨j, hj, hb⟩ := List.any_eq_true.1 h3
      rw [List.mem_range] at hj
      simp only [Bool.and_eq_true, decide_eq_true_eq] at hb
      exact hcl j i (ih j (by omega) (by omega)) hb.2
theorem not_fed {top i : Nat} {d : Nat → Bool} (h : feeds ops top = true) (hcl : ∀ i j, d i = true → waitsFor ops i j = true → d j = true) (hi : i ≤ top) (hun : d i = false) : d top = false := by
  cases e : d top with
  | false => rfl
  | true => rw [feeds_all h hcl e _ i (Nat.le_refl _) hi] at hun; cases hun
/-- a slot that one operation alone writes -/
def onlyDst (ops : Array Oper) (t j0 : Nat) : Bool := (List.range ops.size).all fun j => dstOf ops j != some t || j == j0
theorem only_dst {t j0 : Nat} {d : Nat → Bool} (h : onlyDst ops t j0 = true) (hd : d j0 = false) : ∀ j, dstOf ops j = some t → d j = false := fun j hj => by
  have hj' : j < ops.size := by
    rcases Nat.lt_or_ge j ops.size with q | q
    · exact q
    · simp [dstOf, Array.getElem?_eq_none q] at hj
  have h1 := List.all_eq_true.1 h j (List.mem_range.2 hj')
  rw [hj] at h1
  simp at h1
  rw [h1]
  exact hd
/-- the slots after a region, on the slots before it -/
theorem tm_frame (N : Nat) (f : Nat → Value) : ∀ (L : List Nat) (f0 : Nat → Value), (∀ t, t ∉ L → f t = f0 t) → tm N f = L.foldl (fun a t => a.put (some t) (f t)) (tm N f0)
  | [], f0, h => by
    have : f = f0 := funext fun t => h t (by simp)
    rw [this]
    rfl
  | x :: L, f0, h => by
    rw [List.foldl_cons, tm_put]
    refine tm_frame N f L (upd f0 (some x) (f x)) fun t ht => ?_
    by_cases e : t = x
    · subst e; exact (upd_same _ _ _).symm
    · rw [upd_other _ _ (fun q => e (Option.some.inj q).symm)]
      exact h t (by simp [e, ht])
/-- these are all slots that the region writes -/
def covers (ops : Array Oper) (L : List Nat) : Bool := (List.range ops.size).all fun j => match dstOf ops j with | some t => L.contains t | none => true
theorem covers_not {L : List Nat} {t : Nat} {d : Nat → Bool} (h : covers ops L = true) (ht : t ∉ L) : ∀ j, dstOf ops j = some t → d j = false := fun j hj => by
  have hj' : j < ops.size := by
    rcases Nat.lt_or_ge j ops.size with q | q
    · exact q
    · simp [dstOf, Array.getElem?_eq_none q] at hj
  have h1 := List.all_eq_true.1 h j (List.mem_range.2 hj')
  rw [hj] at h1
  simp at h1
  exact absurd h1 ht
end
end Go.Proofs.YtmbcjddahncocaaDoor
