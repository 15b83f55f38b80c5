/- A region that draws its order, by an invariant that speaks of the slots, too. -/
/- The arena's index: a node that is not there yet is appended. -/
/- The arena's index: the walk for a node that is not there yet. -/
/- A region that draws its order, whose own operations only read and whose callees may make memory but turn none that was there: one walk, in the order of the text, over the class of all later worlds. -/
import Derived.Test.YtfmhmnpmdjpmeaaDoorRegInv
import Derived.Test.YtfmhmnpmdjpmeaaDoorCsMath3

namespace Go.Proofs.YtfmhmnpmdjpmeaaDoor
open Go

section
variable {P : Program} {ops : Array Oper} {Q : Exit → Act → World → Prop}
theorem region_slots2 {id : Nat} (N : Nat) (f0 : Nat → Value) (G : Nat → (Nat → Bool) → (Nat → Value) → World → Prop) (C : Nat → Value → World → Prop) (R : World → World → Prop) {w : World}
    (hm : P.follows .mixedOrders = true) (hok : slotsOk ops = true) (h0 : G 0 (fun _ => false) f0 w.drew)
    (hkeep : ∀ i v w w', R w w' → C i v w → C i v w')
    (hstep : ∀ i o, ops[i]? = some o → ∀ k d f w, k < ops.size → d i = false → (∀ i j, d i = true → waitsFor ops i j = true → d j = true) → (∀ j, waitsFor ops i j = true → d j = true) → G k d f w → (∀ t, (∀ j, dstOf ops j = some t → d j = false) → f t = f0 t) → (∀ j, waitsFor ops i j = true → C j (slotV ops f j) w) →
      wpOp P ops Q i (fun a' w' => ∃ v, a' = (tm N f).put o.dst v ∧ R w w' ∧ G (k + 1) (mark d i) (upd f o.dst v) w' ∧ C i (match o.dst with | some _ => v | none => undef) w') (tm N f) w)
    (hend : ∀ k d f w, k ≤ ops.size → (∀ j, j < ops.size → d j = true) → G k d f w → (∀ t, (∀ j, dstOf ops j = some t → d j = false) → f t = f0 t) → (∀ j, j < ops.size → C j (slotV ops f j) w) → Q .normal (tm N f) w) :
    (Code.region id ops true).wp P Q (tm N f0) w := by
  refine wp_region_any hm ?_
  refine wpAny_inv (fun k listed a w => listed.size = ops.size ∧ ∃ f, a = tm N f ∧ G k (fun j => listed.getD j false) f w ∧ (∀ i j, listed.getD i false = true → waitsFor ops i j = true → listed.getD j false = true) ∧ (∀ t, (∀ j, dstOf ops j = some t → listed.getD j false = false) → f t = f0 t) ∧ ∀ j, listed.getD j false = true → C j (slotV ops f j) w) ?_ ?_ ops.size 0 _ _ _ (by omega) ?_ ?_
  · rintro k listed a w hk ⟨hs, f, rfl, hG, hcl, hf, hC⟩ i hi
    obtain ⟨hun, o, ho, hdep⟩ := mem_ready.1 hi
    have hi' : i < ops.size := (Array.getElem?_eq_some_iff.1 ho).1
    have hun' : listed.getD i false = false := by simpa [Array.getD, hs, hi'] using hun
    have hw : ∀ j, waitsFor ops i j = true → listed.getD j false = true := fun j hj => by
      unfold waitsFor at hj
      rw [ho] at hj
      obtain ⟨e, he, hb⟩ := Array.any_eq_true'.1 hj
      simp only [Bool.and_eq_true, beq_iff_eq] at hb
      rw [← hb.2]
      exact hdep e he hb.1
    refine wpOp_mono ?_ (hstep i o ho k _ f w hk hun' hcl hw hG hf fun j hj => hC j (hw j hj))
    · rintro a' w' ⟨v, rfl, hR, hG', hCi⟩
      have hmk : mark (fun j => listed.getD j false) i = fun j => (listed.setIfInBounds i true).getD j false := by
        funext j
        unfold mark
        by_cases e : j = i
        · subst e; rw [if_pos rfl]; simp [Array.getD, hs, hi']
        · rw [if_neg e, getD_set_ne false (Ne.symm e)]
      rw [hmk] at hG'
      refine ⟨by simpa using hs, upd f o.dst v, tm_put N f o.dst v, hG', fun i' j' h1 h2 => ?_, fun t ht => ?_, fun j hj => ?_⟩
      · refine getD_set_true ?_
        by_cases e : i' = i
        · subst e
          unfold waitsFor at h2
          rw [ho] at h2
          obtain ⟨e, he, hb⟩ := Array.any_eq_true'.1 h2
          simp only [Bool.and_eq_true, beq_iff_eq] at hb
          rw [← hb.2]
          exact hdep e he hb.1
        · rw [getD_set_ne false (Ne.symm e)] at h1
          exact hcl i' j' h1 h2
      · have hti : o.dst ≠ some t := fun e => by
          have h1 := ht i (by simp [dstOf, ho, e])
          rw [show (listed.setIfInBounds i true).getD i false = true by simp [Array.getD, hs, hi']] at h1
          cases h1
        refine (upd_other f v hti).trans (hf t fun j hj => ?_)
        have h1 := ht j hj
        by_cases e : j = i
        · subst e; exact hun'
        · rwa [getD_set_ne false (Ne.symm e)] at h1
      · by_cases e : j = i
        · subst e
          have : slotV ops (upd f o.dst v) j = (match o.dst with | some _ => v | none => undef) := by
            unfold slotV dstOf
            rw [ho]
            simp only [Option.bind_some]
            cases hd : o.dst with
            | none => rfl
            | some t => exact upd_same f t v
          rw [this]
          exact hCi
        · rw [getD_set_ne false (Ne.symm e)] at hj
          have hj' : j < ops.size := by
            rcases Nat.lt_or_ge j listed.size with h | h
            · omega
            · simp [Array.getD, Nat.not_lt.2 h] at hj
          have : slotV ops (upd f o.dst v) j = slotV ops f j := by
            unfold slotV
            cases hd : dstOf ops j with
            | none => rfl
            | some t =>
              refine upd_other f v fun e' => ?_
              exact slotsOk_apart hok hj' hi' e hd (by simp [dstOf, ho, e'])
          rw [this]
          exact hkeep j _ w w' hR (hC j hj)
  · rintro k listed a w hk ⟨hs, f, rfl, hG, _, hf, hC⟩ hr
    have hall := ready_none hok hs hr
    exact hend k _ f w hk hall hG hf fun j hj => hC j (hall j hj)
  · simp
  · have hrep : ∀ j, (Array.replicate ops.size false).getD j false = false := fun j => by
      rcases Nat.lt_or_ge j ops.size with h | h
      · simp [Array.getD, h]
      · simp [Array.getD, Nat.not_lt.2 h]
    refine ⟨by simp, f0, rfl, ?_, (fun i j hi _ => by rw [hrep i] at hi; cases hi), fun _ _ => rfl, fun j hj => ?_⟩
    · rw [show (fun j => (Array.replicate ops.size false).getD j false) = fun _ => false from funext hrep]
      exact h0
    · rw [hrep j] at hj
      cases hj

/-- all operations come up ahead of this one -/
def feeds (ops : Array Oper) (top : Nat) : Bool := (List.range top).all fun i => (List.range (top + 1)).any fun j => decide (i < j) && waitsFor ops j i
theorem feeds_all {top : Nat} {d : Nat → Bool} (h : feeds ops top = true) (hcl : ∀ i j, d i = true → waitsFor ops i j = true → d j = true) (ht : d top = true) : ∀ n i, top - i ≤ n → i ≤ top → d i = true := by
  intro n
  induction n with
  | zero => intro i h1 h2; rw [show i = top by omega]; exact ht
  | succ n ih =>
    intro i h1 h2
    by_cases e : i = top
    · rw [e]; exact ht
    · unfold feeds at h
      have h3 := List.all_eq_true.1 h i (List.mem_range.2 (by omega))
      obtain ⟨j, hj, hb⟩ := List.any_eq_true.1 h3
      rw [List.mem_range] at hj
      simp only [Bool.and_eq_true, decide_eq_true_eq] at hb
      exact hcl j i (ih j (by omega) (by omega)) hb.2
theorem not_fed {top i : Nat} {d : Nat → Bool} (h : feeds ops top = true) (hcl : ∀ i j, d i = true → waitsFor ops i j = true → d j = true) (hi : i ≤ top) (hun : d i = false) : d top = false := by
  cases e : d top with
  | false => rfl
  | true => rw [feeds_all h hcl e _ i (Nat.le_refl _) hi] at hun; cases hun
/-- the slots after a region, on the slots before it -/
theorem tm_frame (N : Nat) (f : Nat → Value) : ∀ (L : List Nat) (f0 : Nat → Value), (∀ t, t ∉ L → f t = f0 t) → tm N f = L.foldl (fun a t => a.put (some t) (f t)) (tm N f0)
  | [], f0, h => by
    have : f = f0 := funext fun t => h t (by simp)
    rw [this]
    rfl
  | x :: L, f0, h => by
    rw [List.foldl_cons, tm_put]
    refine tm_frame N f L (upd f0 (some x) (f x)) fun t ht => ?_
    by_cases e : t = x
    · subst e; exact (upd_same _ _ _).symm
    · rw [upd_other _ _ (fun q => e (Option.some.inj q).symm)]
      exact h t (by simp [e, ht])
/-- these are all slots that the region writes -/
def covers (ops : Array Oper) (L : List Nat) : Bool := (List.range ops.size).all fun j => match dstOf ops j with | some t => L.contains t | none => true
theorem covers_not {L : List Nat} {t : Nat} {d : Nat → Bool} (h : covers ops L = true) (ht : t ∉ L) : ∀ j, dstOf ops j = some t → d j = false := fun j hj => by
  have hj' : j < ops.size := by
    rcases Nat.lt_or_ge j ops.size with q | q
    · exact q
    · simp [dstOf, Array.getElem?_eq_none q] at hj
  have h1 := List.all_eq_true.1 h j (List.mem_range.2 hj')
  rw [hj] at h1
  simp at h1
  exact absurd h1 ht
theorem mark_eq {d : Nat → Bool} {i j : Nat} (h : i ≠ j) : mark d i j = d j := by unfold mark; rw [if_neg h.symm]
theorem mark_self (d : Nat → Bool) (i : Nat) : mark d i i = true := by unfold mark; rw [if_pos rfl]
end
end Go.Proofs.YtfmhmnpmdjpmeaaDoor

namespace Go.Proofs.YtfmhmnpmdjpmeaaDoor
open Go.RowKit Go.Maps

theorem nod_more {w : World} {base n : Nat} {v : Value} {xs : List Value} (h : w.ownsRow base 72 4 v (n + 1) xs) : ∃ g c, v = .slice (some ⟨g, 0, none⟩) (n + 1) c := by
  rcases h.2 with ⟨_, h0⟩ | ⟨g', cap', _, h0, _⟩
  · omega
  · exact ⟨g', cap', h0⟩
theorem nod_snoc {w : World} {base n g c : Nat} {l : List Nd} {t : Nd} (h : w.ownsRow base 72 4 (.slice (some ⟨g, 0, none⟩) (n + 1) c) (n + 1) (nodCells l ++ nodCells [t])) : OwnN w base (some ⟨g, 0, none⟩) (n + 1) c (l ++ [t]) := by
  show w.ownsRow _ _ _ _ _ _
  rw [nodCells_append]
  exact h
theorem nod_blk {w : World} {g : Nat} {o u a b : Int} (h : Blk w g 72 #[.int .i64 o, .int .i64 u, .int .i64 a, .int .i64 b]) : ∀ j y, (nodCells [(o, u, a, b)])[j]? = some y → w.cell? ((⟨g, 0, none⟩ : Addr).add j) = some y := fun j y hy => by
  rw [own_adds, Blk.cell h j, ← hy]
  match j with
  | 0 => rfl
  | 1 => rfl
  | 2 => rfl
  | 3 => rfl
  | _ + 4 => rfl
theorem act_tmN (a : Array Value) (N : Nat) (h : a.size = N) : ({ tmps := a, defers := [] } : Act) = tm N (fun t => a.getD t undef) := by
  subst h
  unfold tm
  congr 1
  apply Array.ext (by simp)
  intro i h1 h2
  simp [Array.getD, h1]
theorem tm_getN {N t : Nat} (h : t < N) (f : Nat → Value) : (tm N f).tmps[t]?.getD undef = f t := by simp [tm, h]
structure IxG (base g m bx : Nat) (A : Option Addr) (n c : Nat) (l : List Nd) (o u a b : Int) (D : DataW Unit) (W : World) (d : Nat → Bool) (f : Nat → Value) (w : World) : Prop where
  bel : Below base W w
  map : w.ownsMap Tryd.prog 72 (plainElem Tryd.prog 3) m (n + 1) D
  bxb : d 5 = false → Blk w bx 72 #[.int .i64 o, .int .i64 u, .int .i64 a, .int .i64 b]
  box : d 10 = false → Blk w g 85 #[.slice A n c, .map (some m)]
  row : d 7 = false → OwnN w base A n c l
  one : d 6 = true → d 7 = false → ∃ h, f 35 = .slice (some ⟨h, 0, none⟩) 1 1 ∧ Blk w h 72 #[.int .i64 o, .int .i64 u, .int .i64 a, .int .i64 b]
  new : d 7 = true → ∃ q k, f 36 = .slice (some ⟨q, 0, none⟩) (n + 1) k ∧ OwnN w base (some ⟨q, 0, none⟩) (n + 1) k (l ++ [(o, u, a, b)])
  frm : ∀ k, k < W.heap.size → k ≠ g → k ≠ m → (Value.slice A n c).ownBlock ≠ some k → w.heap[k]? = W.heap[k]?
  fin : d 10 = true → ∃ q k, f 36 = .slice (some ⟨q, 0, none⟩) (n + 1) k ∧ Blk w g 85 #[.slice (some ⟨q, 0, none⟩) (n + 1) k, .map (some m)]
section
variable {base g m bx n c j : Nat} {A : Option Addr} {l : List Nd} {o u a b : Int} {D : DataW Unit} {W w w' : World} {d : Nat → Bool} {f : Nat → Value} {s : Option Nat} {v : Value}
theorem IxG.same (h : IxG base g m bx A n c l o u a b D W d f w) (j5 : j ≠ 6) (j7 : j ≠ 7) (j10 : j ≠ 10) (s35 : s ≠ some 35) (s36 : s ≠ some 36) : IxG base g m bx A n c l o u a b D W (mark d j) (upd f s v) w := by
  refine ⟨h.bel, h.map, fun e => ?_, fun e => ?_, fun e => ?_, fun e e7 => ?_, fun e => ?_, h.frm, fun e => ?_⟩
  · by_cases h5 : j = 5
    · subst h5; rw [mark_self] at e; cases e
    · rw [mark_eq h5] at e; exact h.bxb e
  · rw [mark_eq j10] at e; exact h.box e
  · rw [mark_eq j7] at e; exact h.row e
  · rw [mark_eq j5] at e; rw [mark_eq j7] at e7; rw [upd_other f v s35]; exact h.one e e7
  · rw [mark_eq j7] at e; rw [upd_other f v s36]; exact h.new e
  · rw [mark_eq j10] at e; rw [upd_other f v s36]; exact h.fin e
theorem IxG.made (h : IxG base g m bx A n c l o u a b D W d f w) (d7 : d 7 = false) (d10 : d 10 = false) (hb : base ≤ w.heap.size) : IxG base g m bx A n c l o u a b D W (mark d 6) (upd f (some 35) (.slice (some ⟨w.heap.size, 0, none⟩) 1 1)) (w.alloc (.cells #[.int .i64 o, .int .i64 u, .int .i64 a, .int .i64 b] 72)) := by
  refine ⟨h.bel.alloc hb _, h.map.alloc _, fun e => ?_, fun e => ?_, fun e => ?_, fun _ _ => ⟨w.heap.size, upd_same _ _ _, Blk.made _ _ _⟩, fun e => ?_, fun k hk h1 h2 h3 => (Below.heap_alloc _ _ _ (Nat.lt_of_lt_of_le hk h.bel.size)).trans (h.frm k hk h1 h2 h3), fun e => ?_⟩
  · rw [mark_eq (by decide)] at e; exact (h.bxb e).alloc _
  · exact (h.box d10).alloc _
  · exact World.ownsRow.alloc (h.row d7) _
  · rw [mark_eq (by decide), d7] at e; cases e
  · rw [mark_eq (by decide), d10] at e; cases e
theorem IxG.added {q k : Nat} (h : IxG base g m bx A n c l o u a b D W d f w) (d5 : d 5 = true) (d7 : d 7 = false) (d10 : d 10 = false) (hb : base ≤ w.heap.size) (hg : w.grownBy w' (Value.slice A n c).ownBlock) (ho : OwnN w' base (some ⟨q, 0, none⟩) (n + 1) k (l ++ [(o, u, a, b)])) : IxG base g m bx A n c l o u a b D W (mark d 7) (upd f (some 36) (.slice (some ⟨q, 0, none⟩) (n + 1) k)) w' := by
  have hrow := h.row d7
  refine ⟨h.bel.grown hg hb (fun x hx => (hrow.lt x hx).1), h.map.kept hg (map_row h.map hrow), fun e => ?_, fun e => ?_, fun e => ?_, fun _ e => ?_, fun _ => ⟨q, k, upd_same _ _ _, ho⟩, fun k hk h1 h2 h3 => (hg.block k (Nat.lt_of_lt_of_le hk h.bel.size) (fun x => h3 x.symm)).trans (h.frm k hk h1 h2 h3), fun e => ?_⟩
  · rw [mark_eq (by decide), d5] at e; cases e
  · exact (h.box d10).grown hg (fun x => own_apart hrow (h.box d10) (by decide) x.symm)
  · rw [mark_self] at e; cases e
  · rw [mark_self] at e; cases e
  · rw [mark_eq (by decide), d10] at e; cases e
theorem IxG.put {q k : Nat} (h : IxG base g m bx A n c l o u a b D W d f w) (d5 : d 5 = true) (d7 : d 7 = true) (d10 : d 10 = false) (hg : base ≤ g) (hf : f 36 = .slice (some ⟨q, 0, none⟩) (n + 1) k) : IxG base g m bx A n c l o u a b D W (mark d 10) (upd f none v) (w.setCell ⟨g, 0, none⟩ (.slice (some ⟨q, 0, none⟩) (n + 1) k)) := by
  have hbx := h.box d10
  obtain ⟨q', k', hq, hown⟩ := h.new d7
  have e36 : (upd f none v) 36 = f 36 := upd_other f v (by intro x; cases x)
  refine ⟨h.bel.setCell (p := ⟨g, 0, none⟩) hg _, h.map.setCell (a := ⟨g, 0, none⟩) (fun x => map_apart h.map hbx x.symm) _, fun e => ?_, fun e => ?_, fun e => ?_, fun _ e => ?_, fun _ => ⟨q', k', e36.trans hq, own_store hown (p := ⟨g, 0, none⟩) (own_apart hown hbx (by decide)) _⟩, fun k hk h1 h2 h3 => (Below.heap_setCell _ _ _ _ h1).trans (h.frm k hk h1 h2 h3), fun _ => ⟨q, k, e36.trans hf, hbx.put 0 _⟩⟩
  · rw [mark_eq (by decide), d5] at e; cases e
  · rw [mark_self] at e; cases e
  · rw [mark_eq (by decide), d7] at e; cases e
  · rw [mark_eq (by decide), d7] at e; cases e
end
/-- what stands in the slots -/
def IxC (g : Nat) (A : Option Addr) (n c : Nat) (o u a b : Int) (j : Nat) (v : Value) : Prop :=
  match j with
  | 0 | 1 | 2 | 3 | 8 | 9 => v = .pointer (some ⟨g, 0, none⟩)
  | 4 => v = .slice A n c
  | 5 => v = .agg #[.int .i64 o, .int .i64 u, .int .i64 a, .int .i64 b]
  | _ => True
end Go.Proofs.YtfmhmnpmdjpmeaaDoor

namespace Go.Proofs.YtfmhmnpmdjpmeaaDoor
open Go.RowKit Go.Maps

set_option maxRecDepth 100000 in
set_option maxHeartbeats 4000000 in
theorem index_new (w : World) (base g m : Nat) (A : Option Addr) (n c : Nat) (D : DataW Unit) (l : List Nd) (o u a b : Int) (h : ArO w base g m A n c D l) (hw : ndWf (o, u, a, b)) (hm : (o, u, a, b) ∉ l) (hn : n ≤ 1048576) (hbase : base ≤ w.heap.size) :
    Calls Tryd.prog 83 #[.pointer (some ⟨g, 0, none⟩), .agg #[.int .i64 o, .int .i64 u, .int .i64 a, .int .i64 b]] w fun e w' => e = .returned (.int .i64 (n : Int)) ∧ Below base w w' ∧ (∃ A' c' D', ArO w' base g m A' (n + 1) c' D' (l ++ [(o, u, a, b)])) ∧ ∀ k, k < w.heap.size → k ≠ g → k ≠ m → (Value.slice A n c).ownBlock ≠ some k → w'.heap[k]? = w.heap[k]? := by
  obtain ⟨i0, hi, hz0, hz1, hz2⟩ := info_parts info_nod
  obtain ⟨W, hW⟩ : ∃ W, W = w.alloc (.cells #[.int .i64 o, .int .i64 u, .int .i64 a, .int .i64 b] 72) := ⟨_, rfl⟩
  have hB : Below w.heap.size w W := by rw [hW]; exact (Below.refl _ _).alloc (Nat.le_refl _) _
  have hA : ArO W base g m A n c D l := h.below hB
  have hbx : Blk W w.heap.size 72 #[.int .i64 o, .int .i64 u, .int .i64 a, .int .i64 b] := by rw [hW]; exact Blk.made _ _ _
  obtain ⟨v, ps, hrun, hv⟩ := hA.map.drew.look_ok lawNd Tryd.underlying83 (zeroNd _) (plainElem_int Tryd.underlying3 (a := 0) (by decide)) (nk_key hw)
  obtain ⟨hhas, -⟩ := h.gn _ hw
  rw [decide_eq_false hm] at hhas
  rw [hhas] at hrun
  rw [atKey_of_not_has hhas] at hv
  obtain ⟨z, rfl, hz, _⟩ := plainElem_int_inv Tryd.underlying3 hv
  simp at hz
  obtain ⟨hz, -⟩ := hz
  subst hz
  have k0 := hA.box.cell 0
  have k1 := hA.box.cell 1
  simp at k0 k1
  have x0 := hbx.cell 0
  have x1 := hbx.cell 1
  have x2 := hbx.cell 2
  have x3 := hbx.cell 3
  simp at x0 x1 x2 x3
  have hkey := nk_key hw
  have hwn : (Lit.int .i64 (n : Int)).wf = true := WalkArith.wf_i64 (by omega)
  have hownA : W.drew.drew.ownsMap Tryd.prog 72 (plainElem Tryd.prog 3) m n D := hA.map.drew.drew
  have HA := Lib.hid hA
  have HBX := Lib.hid hbx
  have HGN : Hid (GN (D.put (nk (o, u, a, b)) (.lit (.int .i64 (n : Int)))) (l ++ [(o, u, a, b)])) := by
    show GN _ _
    rw [← h.len]
    exact gn_step h.gn h.map.isMap hw hm
  have HB := Lib.hid hB
  have HW := Lib.hid hW
  have HBASE : Hid (base ≤ W.heap.size) := Nat.le_trans hbase hB.size
  clear hv hhas hm h hB hA hbx hW
  go_enter Tryd.func83, Tryd.ntmps83
  go_wp2_with fail
  rw [← HW.out]
  go_region
  go_wp2_with fail
  refine region_tail 6 (by kernel_rfl) (by kernel_rfl) ?_
  simp only [List.take_succ_cons, List.take_zero, List.drop_succ_cons, List.drop_zero]
  repeat still_step
  refine wpStill_nil ?_
  refine wpList_mapUpdate_own _ rfl _ _ _ 83 rfl 72 3 lawNd Tryd.underlying83 _ m n _ rfl hownA (by unfold maxLen; omega) _ _ _ rfl rfl hkey _ [] (plainElem_int Tryd.underlying3 hwn) ?_
  intro w1 hown1 hgrow1
  obtain ⟨D1, hD1⟩ : ∃ X, X = D.put (nk (o, u, a, b)) (.lit (.int .i64 (n : Int))) := ⟨_, rfl⟩
  rw [← hD1] at hown1 HGN
  have box1 : Blk w1 g 85 #[.slice A n c, .map (some m)] := Blk.grown (show Blk W.drew.drew g _ _ from HA.out.box) hgrow1 (fun x => map_apart HA.out.map HA.out.box (Option.some.inj x))
  have row1 : OwnN w1 base A n c l := World.ownsRow.kept (show W.drew.drew.ownsRow _ _ _ _ _ _ from HA.out.row) hgrow1 (.inr (fun x => map_row HA.out.map HA.out.row x.symm))
  have bx1 : Blk w1 w.heap.size 72 #[.int .i64 o, .int .i64 u, .int .i64 a, .int .i64 b] := Blk.grown (show Blk W.drew.drew _ _ _ from HBX.out) hgrow1 (fun x => map_apart HA.out.map HBX.out (Option.some.inj x))
  have hbel1 : Below base w w1 := (HB.out.mono hbase).drew.drew.grown hgrow1 HBASE.out (fun k e => by have e' := Option.some.inj e; have := HA.out.bm; omega)
  have hfr1 : ∀ k, k < w.heap.size → k ≠ m → w1.heap[k]? = w.heap[k]? := fun k hk hkm => (hgrow1.block k (by show k < W.heap.size; have := HB.out.size; omega) (fun x => hkm (Option.some.inj x))).trans (HB.out.block k hk)
  have HFR := Lib.hid hfr1
  have hws : w.heap.size ≤ w1.heap.size := Nat.le_trans HB.out.size hgrow1.size
  have HWS := Lib.hid hws
  clear hfr1 hws
  have hs1 : base ≤ w1.heap.size := Nat.le_trans hbase hbel1.size
  have HB1 := Lib.hid hbel1
  have HBG := Lib.hid HA.out.bg
  have HBM := Lib.hid HA.out.bm
  have HDR : Hid (IxG base g m w.heap.size A n c l o u a b D1 w1 (fun _ => false) (fun _ => undef) w1.drew) := ⟨(Below.refl _ _).drew, hown1.drew, fun _ => bx1, fun _ => box1, fun _ => row1, (fun e => by cases e), (fun e => by cases e), fun _ _ _ _ _ => rfl, (fun e => by cases e)⟩
  clear hbel1 box1 row1 bx1 hown1 hgrow1 hownA hrun k0 k1 x0 x1 x2 x3 HA HBX HB HW hwn hkey hD1
  go_wp2_with fail
  rw [act_tmN _ 40 rfl]
  refine region_slots2 40 _ (fun _ d f w' => IxG base g m w.heap.size A n c l o u a b D1 w1 d f w') (fun j v _ => IxC g A n c o u a b j v) (fun _ _ => True) (by kernel_rfl) (by kernel_rfl) ⟨HDR.out.bel, HDR.out.map, HDR.out.bxb, HDR.out.box, HDR.out.row, (fun e => by cases e), (fun e => by cases e), HDR.out.frm, (fun e => by cases e)⟩ (fun _ _ _ _ _ hx => hx) (AllFrom.all (AllFrom.cons ?o0 (AllFrom.cons ?o1 (AllFrom.cons ?o2 (AllFrom.cons ?o3 (AllFrom.cons ?o4 (AllFrom.cons ?o5 (AllFrom.cons ?o6 (AllFrom.cons ?o7 (AllFrom.cons ?o8 (AllFrom.cons ?o9 (AllFrom.cons ?o10 AllFrom.nil)))))))))))) ?fin
  case o0 =>
    intro k d f wy hk hun hcl hwt hG hf hC
    have e0 : (tm 40 f).tmps[0]?.getD undef = .pointer (some ⟨g, 0, none⟩) := (tm_getN (by omega) f).trans (hf 0 (frame_of (by kernel_rfl)))
    refine op_wp rfl rfl fun K' hK' => ?_
    go_simp
    exact hK' _ _ ⟨_, rfl, trivial, hG.same (by decide) (by decide) (by decide) (by decide) (by decide), rfl⟩
  case o1 =>
    intro k d f wy hk hun hcl hwt hG hf hC
    have e0 : (tm 40 f).tmps[0]?.getD undef = .pointer (some ⟨g, 0, none⟩) := (tm_getN (by omega) f).trans (hf 0 (frame_of (by kernel_rfl)))
    refine op_wp rfl rfl fun K' hK' => ?_
    go_simp
    exact hK' _ _ ⟨_, rfl, trivial, hG.same (by decide) (by decide) (by decide) (by decide) (by decide), rfl⟩
  case o2 =>
    intro k d f wy hk hun hcl hwt hG hf hC
    have e30 : (tm 40 f).tmps[30]?.getD undef = .pointer (some ⟨g, 0, none⟩) := (tm_getN (by omega) f).trans (hC 1 (by kernel_rfl))
    refine op_wp rfl rfl fun K' hK' => ?_
    go_simp
    exact hK' _ _ ⟨_, rfl, trivial, hG.same (by decide) (by decide) (by decide) (by decide) (by decide), rfl⟩
  case o3 =>
    intro k d f wy hk hun hcl hwt hG hf hC
    have e31 : (tm 40 f).tmps[31]?.getD undef = .pointer (some ⟨g, 0, none⟩) := (tm_getN (by omega) f).trans (hC 2 (by kernel_rfl))
    refine op_wp rfl rfl fun K' hK' => ?_
    go_simp
    exact hK' _ _ ⟨_, rfl, trivial, hG.same (by decide) (by decide) (by decide) (by decide) (by decide), rfl⟩
  case o4 =>
    intro k d f wy hk hun hcl hwt hG hf hC
    have e32 : (tm 40 f).tmps[32]?.getD undef = .pointer (some ⟨g, 0, none⟩) := (tm_getN (by omega) f).trans (hC 3 (by kernel_rfl))
    have d10 := not_fed (top := 10) (by kernel_rfl) hcl (i := 4) (by omega) hun
    have c0 := (hG.box d10).cell 0
    simp at c0
    refine op_wp rfl rfl fun K' hK' => ?_
    go_simp
    exact hK' _ _ ⟨_, rfl, trivial, hG.same (by decide) (by decide) (by decide) (by decide) (by decide), rfl⟩
  case o5 =>
    intro k d f wy hk hun hcl hwt hG hf hC
    have e3 : (tm 40 f).eval (.tmp 3) = .pointer (some ⟨w.heap.size, 0, none⟩) := (tm_eval (by omega) f).trans (hf 3 (frame_of (by kernel_rfl)))
    have hk2 := hG.bxb hun
    refine op_wp rfl rfl fun K' hK' => ?_
    refine wp_load_row 72 _ rfl w.heap.size e3 72 #[.int .i64 o, .int .i64 u, .int .i64 a, .int .i64 b] (0, 0) _ hk2 Tryd.underlying72 rfl (by kernel_rfl) ?_
    exact hK' _ _ ⟨_, rfl, trivial, hG.same (by decide) (by decide) (by decide) (by decide) (by decide), rfl⟩
  case o6 =>
    intro k d f wy hk hun hcl hwt hG hf hC
    have d7 : d 7 = false := by
      cases hd : d 7 with
      | false => rfl
      | true =>
        have h7 := hcl 7 6 hd (by kernel_rfl)
        rw [hun] at h7
        cases h7
    have d10 := not_fed (top := 10) (by kernel_rfl) hcl (i := 6) (by omega) hun
    have hsy : base ≤ wy.heap.size := Nat.le_trans hs1 hG.bel.size
    have e34 : (tm 40 f).tmps[34]?.getD undef = .agg #[.int .i64 o, .int .i64 u, .int .i64 a, .int .i64 b] := (tm_getN (by omega) f).trans (hC 5 (by kernel_rfl))
    refine op_wp rfl rfl fun K' hK' => ?_
    go_simp
    exact hK' _ _ ⟨.slice (some ⟨wy.heap.size, 0, none⟩) 1 1, rfl, trivial, hG.made d7 d10 hsy, trivial⟩
  case o7 =>
    intro k d f wy hk hun hcl hwt hG hf hC
    have d10 := not_fed (top := 10) (by kernel_rfl) hcl (i := 7) (by omega) hun
    have d6 : d 6 = true := hwt 6 (by kernel_rfl)
    have d5 : d 5 = true := hcl 6 5 d6 (by kernel_rfl)
    have hsy : base ≤ wy.heap.size := Nat.le_trans hs1 hG.bel.size
    obtain ⟨h1, hh1, hblk⟩ := hG.one d6 hun
    have hown := hG.row hun
    have e1 : (tm 40 f).eval (.tmp 33) = .slice A n c := (tm_eval (by omega) f).trans (hC 4 (by kernel_rfl))
    have e2 : (tm 40 f).eval (.tmp 35) = .slice (some ⟨h1, 0, none⟩) 1 1 := (tm_eval (by omega) f).trans hh1
    refine op_wp rfl rfl fun K' hK' => ?_
    refine wp_append_own wy (.tmp 33) (.tmp 35) 26 rfl base 72 i0 (.agg #[.int .i64 0, .int .i64 0, .int .i64 0, .int .i64 0]) 4 32 Tryd.underlying26 hi hz0 hz1 hz2 rfl (by decide) (.slice A n c) n (nodCells l) e1 hown ⟨h1, 0, none⟩ 1 1 (nodCells [(o, u, a, b)]) e2 rfl (nod_blk hblk) (nodCells_one _) (by unfold maxLen; omega) (by omega) hsy ?_
    intro v' w5 hown' hgrow hnil
    obtain ⟨g5, c5, rfl⟩ := nod_more hown'
    exact hK' _ _ ⟨_, rfl, trivial, hG.added d5 hun d10 hsy hgrow (nod_snoc hown'), trivial⟩
  case o8 =>
    intro k d f wy hk hun hcl hwt hG hf hC
    have e29 : (tm 40 f).tmps[29]?.getD undef = .pointer (some ⟨g, 0, none⟩) := (tm_getN (by omega) f).trans (hC 0 (by kernel_rfl))
    refine op_wp rfl rfl fun K' hK' => ?_
    go_simp
    exact hK' _ _ ⟨_, rfl, trivial, hG.same (by decide) (by decide) (by decide) (by decide) (by decide), rfl⟩
  case o9 =>
    intro k d f wy hk hun hcl hwt hG hf hC
    have e37 : (tm 40 f).tmps[37]?.getD undef = .pointer (some ⟨g, 0, none⟩) := (tm_getN (by omega) f).trans (hC 8 (by kernel_rfl))
    refine op_wp rfl rfl fun K' hK' => ?_
    go_simp
    exact hK' _ _ ⟨_, rfl, trivial, hG.same (by decide) (by decide) (by decide) (by decide) (by decide), rfl⟩
  case o10 =>
    intro k d f wy hk hun hcl hwt hG hf hC
    have d7 : d 7 = true := hwt 7 (by kernel_rfl)
    have d6 : d 6 = true := hcl 7 6 d7 (by kernel_rfl)
    have d5 : d 5 = true := hcl 6 5 d6 (by kernel_rfl)
    obtain ⟨q, kq, hq, _⟩ := hG.new d7
    have hbox := hG.box hun
    have c0 := hbox.cell 0
    simp at c0
    have f0 := hbox.thawed 0
    have e38 : (tm 40 f).tmps[38]?.getD undef = .pointer (some ⟨g, 0, none⟩) := (tm_getN (by omega) f).trans (hC 9 (by kernel_rfl))
    have e36 : (tm 40 f).tmps[36]?.getD undef = .slice (some ⟨q, 0, none⟩) (n + 1) kq := (tm_getN (by omega) f).trans hq
    refine op_wp rfl rfl fun K' hK' => ?_
    go_simp
    exact hK' _ _ ⟨undef, rfl, trivial, hG.put d5 d7 hun HBG.out hq, trivial⟩
  case fin =>
    intro k d f wy hk hall hG hf hC
    obtain ⟨q, kq, hq, hown⟩ := hG.new (hall 7 (by decide))
    obtain ⟨q', kq', hq', hbox⟩ := hG.fin (hall 10 (by decide))
    rw [hq] at hq'
    injection hq' with e1 e2 e3
    injection e1 with e1
    injection e1 with e1
    subst e1; subst e3
    have hfr : ∀ t, t ∉ [29, 30, 31, 32, 33, 34, 35, 36, 37, 38] → f t = _ := fun t ht => hf t (covers_not (by kernel_rfl) ht)
    have HO : Hid (Below base w wy ∧ ArO wy base g m (some ⟨q, 0, none⟩) (n + 1) kq D1 (l ++ [(o, u, a, b)])) := ⟨HB1.out.trans hG.bel, HBG.out, HBM.out, hbox, hown, hG.map, HGN.out⟩
    have HFF : Hid (∀ k, k < w.heap.size → k ≠ g → k ≠ m → (Value.slice A n c).ownBlock ≠ some k → wy.heap[k]? = w.heap[k]?) := fun k hk h1 h2 h3 => (hG.frm k (Nat.lt_of_lt_of_le hk HWS.out) h1 h2 h3).trans (HFR.out k hk h2)
    rw [tm_frame 40 f _ _ hfr, ← act_tmN _ 40 rfl]
    simp only [List.foldl_cons, List.foldl_nil, Act.put, List.setIfInBounds_toArray, List.set_cons_succ, List.set_cons_zero]
    generalize f 29 = y29
    generalize f 30 = y30
    generalize f 31 = y31
    generalize f 32 = y32
    generalize f 33 = y33
    generalize f 34 = y34
    generalize f 35 = y35
    generalize f 36 = y36
    generalize f 37 = y37
    generalize f 38 = y38
    clear hG hf hC hall hfr hq hown hbox HDR
    go_wp2
    go_ret
    exact ⟨rfl, HO.out.1, ⟨_, _, _, HO.out.2⟩, HFF.out⟩
end Go.Proofs.YtfmhmnpmdjpmeaaDoor

namespace Go.Proofs.YtfmhmnpmdjpmeaaDoor
open Go.RowKit

/-- a world in which all that w holds is as it was -/
structure Later (w : World) : Type where
  out : World
  bel : Below w.heap.size w out
instance (w : World) : Nonempty (Later w) := ⟨⟨w, Below.refl _ _⟩⟩
theorem Later.cell {w : World} (d : Later w) {p : Addr} {v : Value} (hp : p.block < w.heap.size) (h : w.cell? p = some v) : d.out.cell? p = some v := (d.bel.cell hp).trans h

theorem region_later {P : Program} {id : Nat} {Q : Exit → Act → World → Prop} {a : Act} {w : World} {l : List Oper} (hm : P.follows .mixedOrders = true) (hB : Region.lexB .any l.toArray = true)
    (h : wpQuiet P l.toArray (fun w' => ∃ d : Later w, w' = d.out) (fun a' => ∀ w', Below w.heap.size w w' → Q .normal a' w') l a) : (Code.region id l.toArray true).wp P Q a w := by
  have e : (fun a' => ∀ w', (∃ d : Later w, w' = d.out) → Q .normal a' w') = fun a' => ∀ w', Below w.heap.size w w' → Q .normal a' w' := by
    funext a'
    apply propext
    constructor
    · intro h w' hb
      exact h w' ⟨⟨w', hb⟩, rfl⟩
    · rintro h w' ⟨d, rfl⟩
      exact h d.out d.bel
  refine wp_region_quiet (C := fun w' => ∃ d : Later w, w' = d.out) hm hB ⟨⟨w.drew, (Below.refl _ _).drew⟩, rfl⟩ ?_
  rw [e]
  exact h

/-- a callee's contract, met in a later world -/
theorem calls_later {P : Program} {f : FuncId} {args : Array Value} {w : World} {d : Later w} {v : Value} (h : Calls P f args d.out fun e w' => e = .returned v ∧ Below d.out.heap.size d.out w') :
    Calls P f args d.out fun e w'' => e = .returned v ∧ ∃ d' : Later w, w'' = d'.out :=
  h.mono fun _ w'' ⟨he, hb⟩ => ⟨he, ⟨w'', d.bel.trans (hb.mono d.bel.size)⟩, rfl⟩
theorem calls_later_same {P : Program} {f : FuncId} {args : Array Value} {w : World} {d : Later w} {v : Value} (h : Calls P f args d.out fun e w' => e = .returned v ∧ d.out = w') :
    Calls P f args d.out fun e w'' => e = .returned v ∧ ∃ d' : Later w, w'' = d'.out :=
  h.mono fun _ _ ⟨he, hb⟩ => ⟨he, d, hb.symm⟩
end Go.Proofs.YtfmhmnpmdjpmeaaDoor
