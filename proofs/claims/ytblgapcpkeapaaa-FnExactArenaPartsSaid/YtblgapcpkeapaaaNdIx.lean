/- The arena: its box, its row of nodes and its map. -/
/- A region that draws its order, by an invariant: each operation by itself, in whatever order they come up. -/
/- A region that draws its order, by an invariant that speaks of the slots, too. -/
/- The arena's index: a node that is not there yet is appended. -/
import Derived.Test.YtblgapcpkeapaaaLawN
import Derived.RegionTactic

namespace Go.Proofs.Ytblgapcpkeapaaa
open Go.RowKit Go.Maps

/-- block g is the box of an arena with the nodes l (row A n c, map m); what belongs to it lies from base on -/
structure ArO (w : World) (base g m : Nat) (A : Option Addr) (n c : Nat) (D : DataW Unit) (l : List Nd) : Prop where
  bg : base ≤ g
  bm : base ≤ m
  box : Blk w g 73 #[.slice A n c, .map (some m)]
  row : OwnN w base A n c l
  map : w.ownsMap Try.prog 58 (plainElem Try.prog 3) m n D
  gn : GN D l
theorem ArO.len {w : World} {base g m n c : Nat} {A : Option Addr} {D : DataW Unit} {l : List Nd} (h : ArO w base g m A n c D l) : l.length = n := (OwnN.reads h.row).1
theorem map_below {w w' : World} {m n B : Nat} {D : DataW Unit} (h : w.ownsMap Try.prog 58 (plainElem Try.prog 3) m n D) (hb : Below B w w') (hm : m < B) : w'.ownsMap Try.prog 58 (plainElem Try.prog 3) m n D := by
  obtain ⟨es, clock, h1, h2, h3, h4⟩ := h
  exact ⟨es, clock, (hb.block m hm).trans h1, h2, h3, h4⟩
theorem map_apart {w : World} {m n g : Nat} {D : DataW Unit} {t : TypeId} {cs : Array Value} (h : w.ownsMap Try.prog 58 (plainElem Try.prog 3) m n D) (hb : Blk w g t cs) : g ≠ m := by
  rintro rfl
  obtain ⟨es, clock, h1, _⟩ := h
  have e := Eq.trans (Eq.symm h1) hb
  injection e with e
  cases e
theorem map_row {w : World} {m n base k : Nat} {D : DataW Unit} {v : Value} {xs : List Value} (h : w.ownsMap Try.prog 58 (plainElem Try.prog 3) m n D) (hb : w.ownsRow base 58 4 v k xs) : some m ≠ v.ownBlock := by
  rcases hb.2 with ⟨rfl, _⟩ | ⟨g', cap, cur, rfl, _, hh, _⟩
  · simp [Value.ownBlock]
  · intro he
    have hgg : m = g' := by simpa [Value.ownBlock] using he
    subst hgg
    obtain ⟨es, clock, h1, _⟩ := h
    have e := Eq.trans (Eq.symm h1) hh
    injection e with e
    cases e
theorem ArO.below {w w' : World} {base g m n c : Nat} {A : Option Addr} {D : DataW Unit} {l : List Nd} (h : ArO w base g m A n c D l) (hb : Below w.heap.size w w') : ArO w' base g m A n c D l :=
  ⟨h.bg, h.bm, h.box.below hb h.box.lt, own_below' h.row hb, map_below h.map hb h.map.lt, h.gn⟩

set_option maxRecDepth 100000 in
set_option maxHeartbeats 1600000 in
/-- a node that is there already -/
theorem index_in (w : World) (base g m : Nat) (A : Option Addr) (n c : Nat) (D : DataW Unit) (l : List Nd) (o u a b : Int) (h : ArO w base g m A n c D l) (hw : ndWf (o, u, a, b)) (hm : (o, u, a, b) ∈ l) :
    Calls Try.prog 45 #[.pointer (some ⟨g, 0, none⟩), .agg #[.int .i64 o, .int .i64 u, .int .i64 a, .int .i64 b]] w fun e w' => e = .returned (.int .i64 (l.idxOf (o, u, a, b) : Nat)) ∧ Below w.heap.size w w' := by
  obtain ⟨i, hi⟩ : ∃ i : Nat, l.idxOf (o, u, a, b) = i := ⟨_, rfl⟩
  rw [hi]
  have hB : Below w.heap.size w (w.alloc (.cells #[.int .i64 o, .int .i64 u, .int .i64 a, .int .i64 b] 58)) := (Below.refl _ _).alloc (Nat.le_refl _) _
  obtain ⟨v, ps, hrun, hv⟩ := (h.map.alloc (.cells #[.int .i64 o, .int .i64 u, .int .i64 a, .int .i64 b] 58)).drew.look_ok lawNd Try.underlying71 (zeroNd _) (plainElem_int Try.underlying3 (a := 0) (by decide)) (nk_key hw)
  obtain ⟨hhas, hat⟩ := h.gn _ hw
  rw [hhas, decide_eq_true hm] at hrun
  rw [hat hm, hi] at hv
  obtain ⟨z, rfl, hz, _⟩ := plainElem_int_inv Try.underlying3 hv
  simp at hz
  obtain ⟨hz, -⟩ := hz
  subst hz
  have k1 := (h.box.below hB h.box.lt).cell 1
  simp at k1
  have hgl := h.box.lt
  have HB := Lib.hid hB
  clear hv hhas hat hi hm h hB
  go_enter Try.func45, Try.ntmps45
  go_wp2_with fail
  go_region
  go_wp2
  go_ret
  exact ⟨rfl, HB.out.drew⟩
end Go.Proofs.Ytblgapcpkeapaaa

namespace Go.Proofs.Ytblgapcpkeapaaa
open Go

/-- the slots of a call as a function -/
def tm (N : Nat) (f : Nat → Value) : Act := { tmps := ((List.range N).map f).toArray, defers := [] }
def upd (f : Nat → Value) (d : Option Nat) (v : Value) : Nat → Value := fun t => if d = some t then v else f t
theorem tm_put (N : Nat) (f : Nat → Value) (d : Option Nat) (v : Value) : (tm N f).put d v = tm N (upd f d v) := by
  cases d with
  | none =>
    have : upd f none v = f := funext fun t => if_neg (by intro h; cases h)
    rw [this]; rfl
  | some d =>
    show ({ tmps := ((List.range N).map f).toArray.setIfInBounds d v, defers := [] } : Act) = { tmps := ((List.range N).map (upd f (some d) v)).toArray, defers := [] }
    congr 1
    rw [List.setIfInBounds_toArray]
    congr 1
    apply List.ext_getElem (by simp)
    intro i h1 h2
    rw [List.getElem_set]
    simp only [List.getElem_map, List.getElem_range, upd]
    by_cases e : d = i
    · subst e; rw [if_pos rfl, if_pos rfl]
    · rw [if_neg e, if_neg (fun h => e (by injection h))]
theorem tm_eval {N t : Nat} (h : t < N) (f : Nat → Value) : (tm N f).eval (.tmp t) = f t := by
  simp [tm, Act.eval, Array.getD, h]
theorem upd_same (f : Nat → Value) (t : Nat) (v : Value) : upd f (some t) v t = v := if_pos rfl
theorem upd_other (f : Nat → Value) {d : Option Nat} {t : Nat} (v : Value) (h : d ≠ some t) : upd f d v t = f t := if_neg h

section
variable {P : Program} {ops : Array Oper} {Q : Exit → Act → World → Prop} {md : Region.Mode}

theorem count_listed {listed : Array Bool} {i : Nat} (h : listed.getD i true = false) : (listed.setIfInBounds i true).toList.count false + 1 = listed.toList.count false := by
  obtain ⟨l⟩ := listed
  have hl : i < l.length := by
    rcases Nat.lt_or_ge i l.length with h' | h'
    · exact h'
    · simp [Array.getD, Nat.not_lt.2 h'] at h
  have hi : l[i] = false := by simpa [Array.getD, hl] using h
  simp only [List.setIfInBounds_toArray]
  clear h
  induction l generalizing i with
  | nil => simp at hl
  | cons x l ih =>
    cases i with
    | zero =>
      simp only [List.getElem_cons_zero] at hi
      subst hi
      simp
    | succ i =>
      simp only [List.length_cons] at hl
      simp only [List.getElem_cons_succ] at hi
      have := ih (by omega) hi
      simp only [List.set_cons_succ, List.count_cons]
      omega
theorem ready_pos {listed : Array Bool} {i : Nat} (h : i ∈ Region.ready md ops listed) : 0 < listed.toList.count false := by
  have := count_listed (mem_ready.1 h).1
  omega
/-- whatever order is picked, an invariant that each operation keeps holds at the end -/
theorem wpAny_inv (I : Nat → Array Bool → Act → World → Prop)
    (hstep : ∀ k listed a w, k < ops.size → I k listed a w → ∀ i ∈ Region.ready md ops listed, wpOp P ops Q i (I (k + 1) (listed.setIfInBounds i true)) a w)
    (hend : ∀ k listed a w, k ≤ ops.size → I k listed a w → Region.ready md ops listed = [] → Q .normal a w) :
    ∀ (fuel k : Nat) (listed : Array Bool) (a : Act) (w : World), fuel + k = ops.size → listed.toList.count false ≤ fuel → I k listed a w → wpAny P md ops Q fuel listed a w := by
  intro fuel
  induction fuel with
  | zero =>
    intro k listed a w hk hc hI
    have hr : Region.ready md ops listed = [] := by
      cases h : Region.ready md ops listed with
      | nil => rfl
      | cons x xs =>
        have := ready_pos (md := md) (ops := ops) (listed := listed) (i := x) (by rw [h]; simp)
        omega
    exact ⟨hr, hend k listed a w (by omega) hI hr⟩
  | succ fuel ih =>
    intro k listed a w hk hc hI
    refine ⟨hend k listed a w (by omega) hI, fun i hi => ?_⟩
    refine wpOp_mono (fun a' w' h => ih (k + 1) _ a' w' (by omega) ?_ h) (hstep k listed a w (by omega) hI i hi)
    have := count_listed (mem_ready.1 hi).1
    omega

/-- the slot of an operation, what lies in it, and that an operation waits for another one -/
def dstOf (ops : Array Oper) (j : Nat) : Option Nat := (ops[j]?).bind (·.dst)
def slotV (ops : Array Oper) (f : Nat → Value) (j : Nat) : Value := match dstOf ops j with | some t => f t | none => undef
def waitsFor (ops : Array Oper) (i j : Nat) : Bool := match ops[i]? with | some o => o.after.any (fun e => Region.binds .any e && e.on == j) | none => false
def slotsOk (ops : Array Oper) : Bool :=
  (List.range ops.size).all fun i => (match ops[i]? with | some o => o.after.all (fun e => !Region.binds .any e || decide (e.on < i)) | none => true) && (List.range ops.size).all fun j => i == j || dstOf ops i == none || dstOf ops i != dstOf ops j
def isDst (ops : Array Oper) (t : Nat) : Bool := (List.range ops.size).any fun i => dstOf ops i == some t

theorem slotsOk_before (h : slotsOk ops = true) {i : Nat} {o : Oper} (ho : ops[i]? = some o) : ∀ e ∈ o.after, Region.binds .any e = true → e.on < i := by
  have hi : i < ops.size := (Array.getElem?_eq_some_iff.1 ho).1
  unfold slotsOk at h
  have h1 := List.all_eq_true.1 h i (List.mem_range.2 hi)
  rw [Bool.and_eq_true, ho] at h1
  intro e he hb
  have := Array.all_eq_true_iff_forall_mem.1 h1.1 e he
  rw [hb] at this
  simpa using this
theorem slotsOk_apart (h : slotsOk ops = true) {i j : Nat} (hi : i < ops.size) (hj : j < ops.size) (hne : i ≠ j) {t : Nat} (hd : dstOf ops i = some t) : dstOf ops j ≠ some t := by
  unfold slotsOk at h
  have h1 := List.all_eq_true.1 h i (List.mem_range.2 hi)
  rw [Bool.and_eq_true] at h1
  have h2 := List.all_eq_true.1 h1.2 j (List.mem_range.2 hj)
  rw [hd] at h2
  simp [hne] at h2
  exact fun e => h2 e.symm
theorem ready_none (h : slotsOk ops = true) {listed : Array Bool} (hs : listed.size = ops.size) (hr : Region.ready .any ops listed = []) : ∀ i, i < ops.size → listed.getD i false = true := by
  intro i
  induction i using Nat.strongRecOn with
  | ind i ih =>
    intro hi
    obtain ⟨o, ho⟩ : ∃ o, ops[i]? = some o := ⟨ops[i], by simp [hi]⟩
    cases hl : listed.getD i true with
    | true => simpa [Array.getD, hs, hi] using hl
    | false =>
      have : i ∈ Region.ready .any ops listed := by
        rw [mem_ready]
        refine ⟨hl, o, ho, fun e he hb => ?_⟩
        have := slotsOk_before h ho e he hb
        exact ih e.on this (by omega)
      rw [hr] at this
      cases this

/-- A REGION BY ITS OPERATIONS: C says of each what lies in its slot once it has come up; each keeps what is said of the others (R, hkeep); G goes along, counted, with what has come up. -/
def mark (d : Nat → Bool) (i : Nat) : Nat → Bool := fun j => if j = i then true else d j
/-- a slot that no operation writes -/
theorem frame_of {d : Nat → Bool} {t : Nat} (h : isDst ops t = false) : ∀ j, dstOf ops j = some t → d j = false := fun j hj => by
  have hj' : j < ops.size := by
    rcases Nat.lt_or_ge j ops.size with q | q
    · exact q
    · simp [dstOf, Array.getElem?_eq_none q] at hj
  have : isDst ops t = true := by
    unfold isDst
    rw [List.any_eq_true]
    exact ⟨j, List.mem_range.2 hj', by simp [hj]⟩
  rw [h] at this
  cases this
/-- the operations one by one -/
def AllFrom (p : Nat → Oper → Prop) : Nat → List Oper → Prop
  | _, [] => True
  | i, o :: os => p i o ∧ AllFrom p (i + 1) os
theorem AllFrom.cons {p : Nat → Oper → Prop} {i : Nat} {o : Oper} {os : List Oper} (h : p i o) (hs : AllFrom p (i + 1) os) : AllFrom p i (o :: os) := ⟨h, hs⟩
theorem AllFrom.nil {p : Nat → Oper → Prop} {i : Nat} : AllFrom p i [] := trivial
theorem AllFrom.at {p : Nat → Oper → Prop} : ∀ {os : List Oper} {s : Nat}, AllFrom p s os → ∀ i o, os[i]? = some o → p (s + i) o
  | [], _, _, i, o, h => by simp at h
  | x :: os, s, h, i, o, ho => by
    cases i with
    | zero => simp at ho; subst ho; exact h.1
    | succ i =>
      have := AllFrom.at h.2 i o (by simpa using ho)
      rw [show s + (i + 1) = s + 1 + i by omega]
      exact this
theorem AllFrom.all {p : Nat → Oper → Prop} {os : List Oper} (h : AllFrom p 0 os) : ∀ i o, os.toArray[i]? = some o → p i o := fun i o ho => by
  have := AllFrom.at h i o (by simpa using ho)
  rwa [Nat.zero_add] at this

theorem op_wp {i : Nat} {o : Oper} {a : Act} {w : World} {K : Act → World → Prop} (hi : ops[i]? = some o) (hg : o.guard = none) (h : ∀ K' : Act → World → Prop, (∀ a w, K a w → K' a w) → o.wp P a w K' Q) : wpOp P ops Q i K a w := by
  refine wpOp_step hi fun K' hK => ?_
  rw [if_pos (by simp [Region.wanted, hg])]
  exact h K' hK
end
end Go.Proofs.Ytblgapcpkeapaaa

namespace Go.Proofs.Ytblgapcpkeapaaa
open Go

section
variable {P : Program} {ops : Array Oper} {Q : Exit → Act → World → Prop}
theorem region_slots2 {id : Nat} (N : Nat) (f0 : Nat → Value) (G : Nat → (Nat → Bool) → (Nat → Value) → World → Prop) (C : Nat → Value → World → Prop) (R : World → World → Prop) {w : World}
    (hm : P.follows .mixedOrders = true) (hok : slotsOk ops = true) (h0 : G 0 (fun _ => false) f0 w.drew)
    (hkeep : ∀ i v w w', R w w' → C i v w → C i v w')
    (hstep : ∀ i o, ops[i]? = some o → ∀ k d f w, k < ops.size → d i = false → (∀ i j, d i = true → waitsFor ops i j = true → d j = true) → (∀ j, waitsFor ops i j = true → d j = true) → G k d f w → (∀ t, (∀ j, dstOf ops j = some t → d j = false) → f t = f0 t) → (∀ j, waitsFor ops i j = true → C j (slotV ops f j) w) →
      wpOp P ops Q i (fun a' w' => ∃ v, a' = (tm N f).put o.dst v ∧ R w w' ∧ G (k + 1) (mark d i) (upd f o.dst v) w' ∧ C i (match o.dst with | some _ => v | none => undef) w') (tm N f) w)
    (hend : ∀ k d f w, k ≤ ops.size → (∀ j, j < ops.size → d j = true) → G k d f w → (∀ t, (∀ j, dstOf ops j = some t → d j = false) → f t = f0 t) → (∀ j, j < ops.size → C j (slotV ops f j) w) → Q .normal (tm N f) w) :
    (Code.region id ops true).wp P Q (tm N f0) w := by
  refine wp_region_any hm ?_
  refine wpAny_inv (fun k listed a w => listed.size = ops.size ∧ ∃ f, a = tm N f ∧ G k (fun j => listed.getD j false) f w ∧ (∀ i j, listed.getD i false = true → waitsFor ops i j = true → listed.getD j false = true) ∧ (∀ t, (∀ j, dstOf ops j = some t → listed.getD j false = false) → f t = f0 t) ∧ ∀ j, listed.getD j false = true → C j (slotV ops f j) w) ?_ ?_ ops.size 0 _ _ _ (by omega) ?_ ?_
  · rintro k listed a w hk ⟨hs, f, rfl, hG, hcl, hf, hC⟩ i hi
    obtain ⟨hun, o, ho, hdep⟩ := mem_ready.1 hi
    have hi' : i < ops.size := (Array.getElem?_eq_some_iff.1 ho).1
    have hun' : listed.getD i false = false := by simpa [Array.getD, hs, hi'] using hun
    have hw : ∀ j, waitsFor ops i j = true → listed.getD j false = true := fun j hj => by
      unfold waitsFor at hj
      rw [ho] at hj
      obtain ⟨e, he, hb⟩ := Array.any_eq_true'.1 hj
      simp only [Bool.and_eq_true, beq_iff_eq] at hb
      rw [← hb.2]
      exact hdep e he hb.1
    refine wpOp_mono ?_ (hstep i o ho k _ f w hk hun' hcl hw hG hf fun j hj => hC j (hw j hj))
    · rintro a' w' ⟨v, rfl, hR, hG', hCi⟩
      have hmk : mark (fun j => listed.getD j false) i = fun j => (listed.setIfInBounds i true).getD j false := by
        funext j
        unfold mark
        by_cases e : j = i
        · subst e; rw [if_pos rfl]; simp [Array.getD, hs, hi']
        · rw [if_neg e, getD_set_ne false (Ne.symm e)]
      rw [hmk] at hG'
      refine ⟨by simpa using hs, upd f o.dst v, tm_put N f o.dst v, hG', fun i' j' h1 h2 => ?_, fun t ht => ?_, fun j hj => ?_⟩
      · refine getD_set_true ?_
        by_cases e : i' = i
        · subst e
          unfold waitsFor at h2
          rw [ho] at h2
          obtain ⟨e, he, hb⟩ := Array.any_eq_true'.1 h2
          simp only [Bool.and_eq_true, beq_iff_eq] at hb
          rw [← hb.2]
          exact hdep e he hb.1
        · rw [getD_set_ne false (Ne.symm e)] at h1
          exact hcl i' j' h1 h2
      · have hti : o.dst ≠ some t := fun e => by
          have h1 := ht i (by simp [dstOf, ho, e])
          rw [show (listed.setIfInBounds i true).getD i false = true by simp [Array.getD, hs, hi']] at h1
          cases h1
        refine (upd_other f v hti).trans (hf t fun j hj => ?_)
        have h1 := ht j hj
        by_cases e : j = i
        · subst e; exact hun'
        · rwa [getD_set_ne false (Ne.symm e)] at h1
      · by_cases e : j = i
        · subst e
          have : slotV ops (upd f o.dst v) j = (match o.dst with | some _ => v | none => undef) := by
            unfold slotV dstOf
            rw [ho]
            simp only [Option.bind_some]
            cases hd : o.dst with
            | none => rfl
            | some t => exact upd_same f t v
          rw [this]
          exact hCi
        · rw [getD_set_ne false (Ne.symm e)] at hj
          have hj' : j < ops.size := by
            rcases Nat.lt_or_ge j listed.size with h | h
            · omega
            · simp [Array.getD, Nat.not_lt.2 h] at hj
          have : slotV ops (upd f o.dst v) j = slotV ops f j := by
            unfold slotV
            cases hd : dstOf ops j with
            | none => rfl
            | some t =>
              refine upd_other f v fun e' => ?_
              exact slotsOk_apart hok hj' hi' e hd (by simp [dstOf, ho, e'])
          rw [this]
          exact hkeep j _ w w' hR (hC j hj)
  · rintro k listed a w hk ⟨hs, f, rfl, hG, _, hf, hC⟩ hr
    have hall := ready_none hok hs hr
    exact hend k _ f w hk hall hG hf fun j hj => hC j (hall j hj)
  · simp
  · have hrep : ∀ j, (Array.replicate ops.size false).getD j false = false := fun j => by
      rcases Nat.lt_or_ge j ops.size with h | h
      · simp [Array.getD, h]
      · simp [Array.getD, Nat.not_lt.2 h]
    refine ⟨by simp, f0, rfl, ?_, (fun i j hi _ => by rw [hrep i] at hi; cases hi), fun _ _ => rfl, fun j hj => ?_⟩
    · rw [show (fun j => (Array.replicate ops.size false).getD j false) = fun _ => false from funext hrep]
      exact h0
    · rw [hrep j] at hj
      cases hj

/-- all operations come up ahead of this one -/
def feeds (ops : Array Oper) (top : Nat) : Bool := (List.range top).all fun i => (List.range (top + 1)).any fun j => decide (i < j) && waitsFor ops j i
theorem feeds_all {top : Nat} {d : Nat → Bool} (h : feeds ops top = true) (hcl : ∀ i j, d i = true → waitsFor ops i j = true → d j = true) (ht : d top = true) : ∀ n i, top - i ≤ n → i ≤ top → d i = true := by
  intro n
  induction n with
  | zero => intro i h1 h2; rw [show i = top by omega]; exact ht
  | succ n ih =>
    intro i h1 h2
    by_cases e : i = top
    · rw [e]; exact ht
    · unfold feeds at h
      have h3 := List.all_eq_true.1 h i (List.mem_range.2 (by omega))
      obtain ⟨j, hj, hb⟩ := List.any_eq_true.1 h3
      rw [List.mem_range] at hj
      simp only [Bool.and_eq_true, decide_eq_true_eq] at hb
      exact hcl j i (ih j (by omega) (by omega)) hb.2
theorem not_fed {top i : Nat} {d : Nat → Bool} (h : feeds ops top = true) (hcl : ∀ i j, d i = true → waitsFor ops i j = true → d j = true) (hi : i ≤ top) (hun : d i = false) : d top = false := by
  cases e : d top with
  | false => rfl
  | true => rw [feeds_all h hcl e _ i (Nat.le_refl _) hi] at hun; cases hun
/-- the slots after a region, on the slots before it -/
theorem tm_frame (N : Nat) (f : Nat → Value) : ∀ (L : List Nat) (f0 : Nat → Value), (∀ t, t ∉ L → f t = f0 t) → tm N f = L.foldl (fun a t => a.put (some t) (f t)) (tm N f0)
  | [], f0, h => by
    have : f = f0 := funext fun t => h t (by simp)
    rw [this]
    rfl
  | x :: L, f0, h => by
    rw [List.foldl_cons, tm_put]
    refine tm_frame N f L (upd f0 (some x) (f x)) fun t ht => ?_
    by_cases e : t = x
    · subst e; exact (upd_same _ _ _).symm
    · rw [upd_other _ _ (fun q => e (Option.some.inj q).symm)]
      exact h t (by simp [e, ht])
/-- these are all slots that the region writes -/
def covers (ops : Array Oper) (L : List Nat) : Bool := (List.range ops.size).all fun j => match dstOf ops j with | some t => L.contains t | none => true
theorem covers_not {L : List Nat} {t : Nat} {d : Nat → Bool} (h : covers ops L = true) (ht : t ∉ L) : ∀ j, dstOf ops j = some t → d j = false := fun j hj => by
  have hj' : j < ops.size := by
    rcases Nat.lt_or_ge j ops.size with q | q
    · exact q
    · simp [dstOf, Array.getElem?_eq_none q] at hj
  have h1 := List.all_eq_true.1 h j (List.mem_range.2 hj')
  rw [hj] at h1
  simp at h1
  exact absurd h1 ht
theorem mark_eq {d : Nat → Bool} {i j : Nat} (h : i ≠ j) : mark d i j = d j := by unfold mark; rw [if_neg h.symm]
theorem mark_self (d : Nat → Bool) (i : Nat) : mark d i i = true := by unfold mark; rw [if_pos rfl]
end
end Go.Proofs.Ytblgapcpkeapaaa

namespace Go.Proofs.Ytblgapcpkeapaaa
open Go.RowKit Go.Maps

theorem nod_more {w : World} {base n : Nat} {v : Value} {xs : List Value} (h : w.ownsRow base 58 4 v (n + 1) xs) : ∃ g c, v = .slice (some ⟨g, 0, none⟩) (n + 1) c := by
  rcases h.2 with ⟨_, h0⟩ | ⟨g', cap', _, h0, _⟩
  · omega
  · exact ⟨g', cap', h0⟩
theorem nod_snoc {w : World} {base n g c : Nat} {l : List Nd} {t : Nd} (h : w.ownsRow base 58 4 (.slice (some ⟨g, 0, none⟩) (n + 1) c) (n + 1) (nodCells l ++ nodCells [t])) : OwnN w base (some ⟨g, 0, none⟩) (n + 1) c (l ++ [t]) := by
  show w.ownsRow _ _ _ _ _ _
  rw [nodCells_append]
  exact h
theorem nod_blk {w : World} {g : Nat} {o u a b : Int} (h : Blk w g 58 #[.int .i64 o, .int .i64 u, .int .i64 a, .int .i64 b]) : ∀ j y, (nodCells [(o, u, a, b)])[j]? = some y → w.cell? ((⟨g, 0, none⟩ : Addr).add j) = some y := fun j y hy => by
  rw [own_adds, Blk.cell h j, ← hy]
  match j with
  | 0 => rfl
  | 1 => rfl
  | 2 => rfl
  | 3 => rfl
  | _ + 4 => rfl
theorem act_tmN (a : Array Value) (N : Nat) (h : a.size = N) : ({ tmps := a, defers := [] } : Act) = tm N (fun t => a.getD t undef) := by
  subst h
  unfold tm
  congr 1
  apply Array.ext (by simp)
  intro i h1 h2
  simp [Array.getD, h1]
theorem tm_getN {N t : Nat} (h : t < N) (f : Nat → Value) : (tm N f).tmps[t]?.getD undef = f t := by simp [tm, h]
structure IxG (base g m bx : Nat) (A : Option Addr) (n c : Nat) (l : List Nd) (o u a b : Int) (D : DataW Unit) (W : World) (d : Nat → Bool) (f : Nat → Value) (w : World) : Prop where
  bel : Below base W w
  map : w.ownsMap Try.prog 58 (plainElem Try.prog 3) m (n + 1) D
  bxb : d 5 = false → Blk w bx 58 #[.int .i64 o, .int .i64 u, .int .i64 a, .int .i64 b]
  box : d 10 = false → Blk w g 73 #[.slice A n c, .map (some m)]
  row : d 7 = false → OwnN w base A n c l
  one : d 6 = true → d 7 = false → ∃ h, f 35 = .slice (some ⟨h, 0, none⟩) 1 1 ∧ Blk w h 58 #[.int .i64 o, .int .i64 u, .int .i64 a, .int .i64 b]
  new : d 7 = true → ∃ q k, f 36 = .slice (some ⟨q, 0, none⟩) (n + 1) k ∧ OwnN w base (some ⟨q, 0, none⟩) (n + 1) k (l ++ [(o, u, a, b)])
  fin : d 10 = true → ∃ q k, f 36 = .slice (some ⟨q, 0, none⟩) (n + 1) k ∧ Blk w g 73 #[.slice (some ⟨q, 0, none⟩) (n + 1) k, .map (some m)]
section
variable {base g m bx n c j : Nat} {A : Option Addr} {l : List Nd} {o u a b : Int} {D : DataW Unit} {W w w' : World} {d : Nat → Bool} {f : Nat → Value} {s : Option Nat} {v : Value}
theorem IxG.same (h : IxG base g m bx A n c l o u a b D W d f w) (j5 : j ≠ 6) (j7 : j ≠ 7) (j10 : j ≠ 10) (s35 : s ≠ some 35) (s36 : s ≠ some 36) : IxG base g m bx A n c l o u a b D W (mark d j) (upd f s v) w := by
  refine ⟨h.bel, h.map, fun e => ?_, fun e => ?_, fun e => ?_, fun e e7 => ?_, fun e => ?_, fun e => ?_⟩
  · by_cases h5 : j = 5
    · subst h5; rw [mark_self] at e; cases e
    · rw [mark_eq h5] at e; exact h.bxb e
  · rw [mark_eq j10] at e; exact h.box e
  · rw [mark_eq j7] at e; exact h.row e
  · rw [mark_eq j5] at e; rw [mark_eq j7] at e7; rw [upd_other f v s35]; exact h.one e e7
  · rw [mark_eq j7] at e; rw [upd_other f v s36]; exact h.new e
  · rw [mark_eq j10] at e; rw [upd_other f v s36]; exact h.fin e
theorem IxG.made (h : IxG base g m bx A n c l o u a b D W d f w) (d7 : d 7 = false) (d10 : d 10 = false) (hb : base ≤ w.heap.size) : IxG base g m bx A n c l o u a b D W (mark d 6) (upd f (some 35) (.slice (some ⟨w.heap.size, 0, none⟩) 1 1)) (w.alloc (.cells #[.int .i64 o, .int .i64 u, .int .i64 a, .int .i64 b] 58)) := by
  refine ⟨h.bel.alloc hb _, h.map.alloc _, fun e => ?_, fun e => ?_, fun e => ?_, fun _ _ => ⟨w.heap.size, upd_same _ _ _, Blk.made _ _ _⟩, fun e => ?_, fun e => ?_⟩
  · rw [mark_eq (by decide)] at e; exact (h.bxb e).alloc _
  · exact (h.box d10).alloc _
  · exact World.ownsRow.alloc (h.row d7) _
  · rw [mark_eq (by decide), d7] at e; cases e
  · rw [mark_eq (by decide), d10] at e; cases e
theorem IxG.added {q k : Nat} (h : IxG base g m bx A n c l o u a b D W d f w) (d5 : d 5 = true) (d7 : d 7 = false) (d10 : d 10 = false) (hb : base ≤ w.heap.size) (hg : w.grownBy w' (Value.slice A n c).ownBlock) (ho : OwnN w' base (some ⟨q, 0, none⟩) (n + 1) k (l ++ [(o, u, a, b)])) : IxG base g m bx A n c l o u a b D W (mark d 7) (upd f (some 36) (.slice (some ⟨q, 0, none⟩) (n + 1) k)) w' := by
  have hrow := h.row d7
  refine ⟨h.bel.grown hg hb (fun x hx => (hrow.lt x hx).1), h.map.kept hg (map_row h.map hrow), fun e => ?_, fun e => ?_, fun e => ?_, fun _ e => ?_, fun _ => ⟨q, k, upd_same _ _ _, ho⟩, fun e => ?_⟩
  · rw [mark_eq (by decide), d5] at e; cases e
  · exact (h.box d10).grown hg (fun x => own_apart hrow (h.box d10) (by decide) x.symm)
  · rw [mark_self] at e; cases e
  · rw [mark_self] at e; cases e
  · rw [mark_eq (by decide), d10] at e; cases e
theorem IxG.put {q k : Nat} (h : IxG base g m bx A n c l o u a b D W d f w) (d5 : d 5 = true) (d7 : d 7 = true) (d10 : d 10 = false) (hg : base ≤ g) (hf : f 36 = .slice (some ⟨q, 0, none⟩) (n + 1) k) : IxG base g m bx A n c l o u a b D W (mark d 10) (upd f none v) (w.setCell ⟨g, 0, none⟩ (.slice (some ⟨q, 0, none⟩) (n + 1) k)) := by
  have hbx := h.box d10
  obtain ⟨q', k', hq, hown⟩ := h.new d7
  have e36 : (upd f none v) 36 = f 36 := upd_other f v (by intro x; cases x)
  refine ⟨h.bel.setCell (p := ⟨g, 0, none⟩) hg _, h.map.setCell (a := ⟨g, 0, none⟩) (fun x => map_apart h.map hbx x.symm) _, fun e => ?_, fun e => ?_, fun e => ?_, fun _ e => ?_, fun _ => ⟨q', k', e36.trans hq, own_store hown (p := ⟨g, 0, none⟩) (own_apart hown hbx (by decide)) _⟩, fun _ => ⟨q, k, e36.trans hf, hbx.put 0 _⟩⟩
  · rw [mark_eq (by decide), d5] at e; cases e
  · rw [mark_self] at e; cases e
  · rw [mark_eq (by decide), d7] at e; cases e
  · rw [mark_eq (by decide), d7] at e; cases e
end
/-- what stands in the slots -/
def IxC (g : Nat) (A : Option Addr) (n c : Nat) (o u a b : Int) (j : Nat) (v : Value) : Prop :=
  match j with
  | 0 | 1 | 2 | 3 | 8 | 9 => v = .pointer (some ⟨g, 0, none⟩)
  | 4 => v = .slice A n c
  | 5 => v = .agg #[.int .i64 o, .int .i64 u, .int .i64 a, .int .i64 b]
  | _ => True
end Go.Proofs.Ytblgapcpkeapaaa
