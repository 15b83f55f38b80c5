/- What is left of an arena: the mathematics. -/
/- ArenaKeep of the program: words and contracts ahead of the walk. -/
/- What is kept of an arena is an arena, and each kept node has its level and its values. -/
/- The machine's struct with its stack. -/
import Derived.Test.YtfmhmnpmdjpmeaaDoorNdKeep
import Derived.Test.YtfmhmnpmdjpmeaaDoorNdMv
import Derived.Test.YtfmhmnpmdjpmeaaDoorNdPtI
import Derived.Test.YtfmhmnpmdjpmeaaDoorCsMath3

namespace Go.Proofs.YtfmhmnpmdjpmeaaDoor
open Go.RowKit

/-- how many are kept below i -/
def cntK (R : Nat → Bool) (i : Nat) : Nat := (pickTo R i).length
theorem cntK_succ (R : Nat → Bool) (i : Nat) : cntK R (i + 1) = if R i = true then cntK R i + 1 else cntK R i := by
  unfold cntK
  rw [pickTo]
  split <;> simp
theorem cntK_le {R : Nat → Bool} {i j : Nat} (h : i ≤ j) : cntK R i ≤ cntK R j := by
  induction j with
  | zero =>
    obtain rfl : i = 0 := by omega
    exact Nat.le_refl _
  | succ j ih =>
    by_cases e : i = j + 1
    · rw [e]; exact Nat.le_refl _
    · have h1 := ih (by omega)
      rw [cntK_succ]
      split <;> omega
theorem cntK_lt {R : Nat → Bool} {i j : Nat} (h : i < j) (hi : R i = true) : cntK R i < cntK R j := by
  have h1 : cntK R (i + 1) ≤ cntK R j := cntK_le (by omega)
  rw [cntK_succ, if_pos hi] at h1
  omega
theorem cntK_inj {R : Nat → Bool} {i j : Nat} (hi : R i = true) (hj : R j = true) (h : cntK R i = cntK R j) : i = j := by
  rcases Nat.lt_trichotomy i j with h1 | h1 | h1
  · have := cntK_lt h1 hi; omega
  · exact h1
  · have := cntK_lt h1 hj; omega
/-- an operand's new index -/
def newOp (R : Nat → Bool) (x : Int) : Int := if 0 ≤ x then (cntK R x.toNat : Nat) else x
def newNd (R : Nat → Bool) (t : Nd) : Nd := (t.1, t.2.1, newOp R t.2.2.1, newOp R t.2.2.2)
theorem newOp_inj {R : Nat → Bool} {x y : Int} (hx : 0 ≤ x → R x.toNat = true) (hy : 0 ≤ y → R y.toNat = true) (h1 : -1 ≤ x) (h2 : -1 ≤ y) (h : newOp R x = newOp R y) : x = y := by
  unfold newOp at h
  split at h <;> split at h
  · rename_i a b
    have := cntK_inj (hx a) (hy b) (by omega)
    omega
  · omega
  · omega
  · exact h
theorem needN_at (l : List Nd) (k : Nat) (f : Nat → Bool) (i : Nat) : needN l k f i = (f i || (f k && (decide ((i : Int) = (l.getD k nd0).2.2.1) || decide ((i : Int) = (l.getD k nd0).2.2.2)))) := by
  unfold needN
  cases h : f k with
  | false => rw [if_neg (by decide)]; simp
  | true => rw [if_pos rfl]; simp [bit1, Bool.or_assoc]
/-- what has been marked stays marked -/
theorem needD_keeps {l : List Nd} {n : Nat} {f : Nat → Bool} {i c d : Nat} (hcd : c ≤ d) (h : needD l n f c i = true) : needD l n f d i = true := by
  induction d with
  | zero =>
    obtain rfl : c = 0 := by omega
    exact h
  | succ d ih =>
    by_cases e : c = d + 1
    · rw [← e]; exact h
    · unfold needD
      rw [needN_at, ih (by omega)]
      rfl
theorem needD_late {l : List Nd} {n : Nat} {f : Nat → Bool} (hall : NdAll l n) {j : Nat} (hj : j < n) (c : Nat) (hc : c ≤ j + 1) : needD l n f (n - (j + 1) + c) j = needD l n f (n - (j + 1)) j := by
  induction c with
  | zero => rfl
  | succ c ih =>
    have e : needD l n f ((n - (j + 1) + c) + 1) = needN l (n - 1 - (n - (j + 1) + c)) (needD l n f (n - (j + 1) + c)) := rfl
    show needD l n f ((n - (j + 1) + c) + 1) j = _
    rw [e, needN_high (hall _ (by omega)).1 (by omega)]
    exact ih (by omega)
/-- what is kept is closed under what it consists of -/
theorem need_closed {l : List Nd} {n : Nat} {f : Nat → Bool} (hall : NdAll l n) {j : Nat} (hj : j < n) (h : needD l n f n j = true) :
    (0 ≤ (l.getD j nd0).2.2.1 → needD l n f n (l.getD j nd0).2.2.1.toNat = true) ∧ (0 ≤ (l.getD j nd0).2.2.2 → needD l n f n (l.getD j nd0).2.2.2.toNat = true) := by
  have h1 := needD_late (f := f) hall hj (j + 1) (Nat.le_refl _)
  rw [show n - (j + 1) + (j + 1) = n by omega, h] at h1
  have h2 : needD l n f (n - j) = needN l j (needD l n f (n - (j + 1))) := kept_step hj
  constructor
  · intro h0
    refine needD_keeps (c := n - j) (by omega) ?_
    rw [h2, needN_at, ← h1]
    have e : (((l.getD j nd0).2.2.1.toNat : Nat) : Int) = (l.getD j nd0).2.2.1 := by omega
    rw [decide_eq_true e]
    simp
  · intro h0
    refine needD_keeps (c := n - j) (by omega) ?_
    rw [h2, needN_at, ← h1]
    have e : (((l.getD j nd0).2.2.2.toNat : Nat) : Int) = (l.getD j nd0).2.2.2 := by omega
    rw [decide_eq_true e]
    simp
/-- .. so two kept nodes stay unlike -/
theorem newNd_ne {l : List Nd} {n : Nat} {f : Nat → Bool} (hl : l.length = n) (hall : NdAll l n) {i j : Nat} (hi : i < n) (hj : j < n) (hij : i ≠ j) (ri : needD l n f n i = true) (rj : needD l n f n j = true) :
    newNd (needD l n f n) (l.getD i nd0) ≠ newNd (needD l n f n) (l.getD j nd0) := by
  intro e
  apply nd_ne hl hall hi hj hij
  obtain ⟨a1, a2⟩ := need_closed hall hi ri
  obtain ⟨b1, b2⟩ := need_closed hall hj rj
  have oi := (hall i hi).1
  have oj := (hall j hj).1
  obtain ⟨s, hs⟩ : ∃ s, l.getD i nd0 = s := ⟨_, rfl⟩
  obtain ⟨t, ht⟩ : ∃ t, l.getD j nd0 = t := ⟨_, rfl⟩
  rw [hs] at e a1 a2 oi ⊢
  rw [ht] at e b1 b2 oj ⊢
  obtain ⟨o, u, a, b⟩ := s
  obtain ⟨o', u', a', b'⟩ := t
  obtain ⟨p1, p2⟩ := ndOk_ops oi
  obtain ⟨q1, q2⟩ := ndOk_ops oj
  unfold newNd at e
  injection e with e1 e
  injection e with e2 e
  injection e with e3 e4
  have g3 : a = a' := newOp_inj a1 b1 (by omega) (by omega) e3
  have g4 : b = b' := newOp_inj a2 b2 (by omega) (by omega) e4
  simp only at e1 e2
  rw [e1, e2, g3, g4]
/-- the program's moved node is the model's -/
theorem mvR_new {R : Nat → Bool} {is : List Int} {o u a b : Int} {k : Nat} (h : ndOk (o, u, a, b) k = true) (h1 : 0 ≤ a → is.getD a.toNat 0 = (cntK R a.toNat : Nat)) (h2 : 0 ≤ b → is.getD b.toNat 0 = (cntK R b.toNat : Nat)) :
    mvOp (tkA o) is a = newOp R a ∧ mvOp (tkB o) is b = newOp R b := by
  unfold ndOk at h
  rw [Bool.and_eq_true, Bool.and_eq_true] at h
  obtain ⟨⟨_, ha⟩, hb⟩ := h
  have key : ∀ (x : Int) (t : Bool), opdB x t k = true → (0 ≤ x → is.getD x.toNat 0 = (cntK R x.toNat : Nat)) → mvOp t is x = newOp R x := by
    intro x t hx hv
    unfold opdB at hx
    unfold mvOp newOp
    split at hx
    · rename_i ht
      have h0 : 0 ≤ x := by simp at hx; omega
      rw [if_pos ht, if_pos h0]
      exact hv h0
    · rename_i ht
      have h0 : ¬ 0 ≤ x := by simp at hx; omega
      rw [if_neg ht, if_neg h0]
  exact ⟨key a _ ha h1, key b _ hb h2⟩
end Go.Proofs.YtfmhmnpmdjpmeaaDoor

namespace Go.Proofs.YtfmhmnpmdjpmeaaDoor
open Go.RowKit Go.Maps

/-- the cells of a row of ints -/
def intA (f : Nat → Int) (n : Nat) : Array Value := ((List.range n).map fun i => Value.int .i64 (f i)).toArray
theorem intA_size (f : Nat → Int) (n : Nat) : (intA f n).size = n := by simp [intA]
theorem intA_get (f : Nat → Int) {n i : Nat} (hi : i < n) : (intA f n)[i]? = some (.int .i64 (f i)) := by simp [intA, hi]
def setI (f : Nat → Int) (i : Nat) (v : Int) : Nat → Int := fun j => if j = i then v else f j
theorem intA_set (f : Nat → Int) (n i : Nat) (v : Int) : (intA f n).setIfInBounds i (.int .i64 v) = intA (setI f i v) n := by
  apply Array.ext_getElem?
  intro k
  by_cases hk : k < n
  · rw [Array.getElem?_setIfInBounds, intA_get _ hk, intA_get _ hk, intA_size]
    unfold setI
    by_cases e : i = k
    · subst e
      rw [if_pos rfl, if_pos (by omega), if_pos rfl]
    · rw [if_neg e, if_neg (fun h => e h.symm)]
  · rw [Array.getElem?_eq_none (by rw [Array.size_setIfInBounds, intA_size]; omega), Array.getElem?_eq_none (by rw [intA_size]; omega)]
theorem intA_reads {w : World} {g n : Nat} {f : Nat → Int} (h : Blk w g 3 (intA f n)) : IntR w (g + 1) (some ⟨g, 0, none⟩) n ((List.range n).map f) := by
  refine ⟨by simp, fun _ => ⟨g, 0, rfl, by omega, fun k hk => ?_⟩⟩
  rw [Nat.zero_add, h.cell, intA_get _ hk]
  simp [List.getD_eq_getElem?_getD, hk]
theorem intL_at {n k : Nat} {f : Nat → Int} (hk : k < n) : ((List.range n).map f).getD k 0 = f k := by simp [List.getD_eq_getElem?_getD, hk]
theorem make_ints (n : Nat) (hn : n ≤ 1000) : ∀ wx, (Instr.makeSlice 40 (.int .i64 (n : Int)) (.int .i64 (n : Int))).run Tryd.prog wx = .ok (.slice (some ⟨wx.heap.size, 0, none⟩) n n) (wx.alloc (.cells (madeCells #[Value.int .i64 0] n) 3)) := by
  obtain ⟨i0, hi, hz0, hz1, hz2⟩ := info_parts info_int
  intro wx
  have hr := run_make (P := Tryd.prog) wx 40 3 i0 _ Tryd.underlying40 hi hz0 .i64 .i64 n n (by omega) (by omega) (by rw [hz2]; omega) (by omega)
  simp only [Int.toNat_natCast, hz1, Nat.mul_one] at hr
  exact hr
theorem ints_made (n : Nat) : madeCells #[Value.int .i64 0] n = intA (fun _ => 0) n := by
  apply Array.ext_getElem?
  intro k
  by_cases hk : k < n
  · rw [intA_get _ hk]
    simp [madeCells, hk, Nat.mod_one]
  · rw [Array.getElem?_eq_none (by simp [madeCells]; omega), Array.getElem?_eq_none (by rw [intA_size]; omega)]
/-- the index at place q of those kept -/
theorem pickTo_at {R : Nat → Bool} {n q : Nat} (hq : q < (pickTo R n).length) : ∃ i : Nat, i < n ∧ R i = true ∧ cntK R i = q ∧ (pickTo R n).getD q 0 = (i : Int) := by
  induction n with
  | zero => simp [pickTo] at hq
  | succ n ih =>
    cases h : R n with
    | false =>
      rw [pickTo, if_neg (by rw [h]; decide)] at hq ⊢
      obtain ⟨i, h1, h2⟩ := ih hq
      exact ⟨i, by omega, h2⟩
    | true =>
      rw [pickTo, if_pos h] at hq ⊢
      by_cases e : q < (pickTo R n).length
      · obtain ⟨i, h1, h2, h3, h4⟩ := ih e
        refine ⟨i, by omega, h2, h3, ?_⟩
        rw [← h4, List.getD_eq_getElem?_getD, List.getD_eq_getElem?_getD, List.getElem?_append_left e]
      · have hq' : q = (pickTo R n).length := by simp at hq; omega
        refine ⟨n, by omega, h, hq'.symm, ?_⟩
        subst hq'
        simp [List.getD_eq_getElem?_getD]
/-- the nodes that are left -/
def leftN (l : List Nd) (R : Nat → Bool) (n : Nat) : List Nd := (pickTo R n).map fun i => newNd R (l.getD i.toNat nd0)
theorem leftN_len (l : List Nd) (R : Nat → Bool) (n : Nat) : (leftN l R n).length = (pickTo R n).length := by simp [leftN]
theorem leftN_take {l : List Nd} {R : Nat → Bool} {n q i : Nat} (hq : q < (pickTo R n).length) (hi : (pickTo R n).getD q 0 = (i : Int)) : (leftN l R n).take (q + 1) = (leftN l R n).take q ++ [newNd R (l.getD i nd0)] := by
  rw [List.take_add_one]
  have h : (leftN l R n)[q]? = some (newNd R (l.getD i nd0)) := by
    unfold leftN
    rw [List.getElem?_map, List.getElem?_eq_getElem hq]
    have e : (pickTo R n)[q] = (i : Int) := by
      rw [List.getD_eq_getElem?_getD, List.getElem?_eq_getElem hq] at hi
      simpa using hi
    rw [e]
    simp
  rw [h]
  rfl
/-- the next of them is unlike those before -/
theorem leftN_new {l : List Nd} {n q i : Nat} {f : Nat → Bool} (hl : l.length = n) (hall : NdAll l n) (hi : i < n) (ri : needD l n f n i = true) (hc : cntK (needD l n f n) i = q) : newNd (needD l n f n) (l.getD i nd0) ∉ (leftN l (needD l n f n) n).take q := by
  intro hm
  obtain ⟨p, hp, e⟩ := List.mem_take_iff_getElem.1 hm
  have hpl : p < (pickTo (needD l n f n) n).length := by rw [leftN_len] at hp; omega
  obtain ⟨j, h1, h2, h3, h4⟩ := pickTo_at hpl
  have ej : (leftN l (needD l n f n) n)[p]'(by rw [leftN_len]; exact hpl) = newNd (needD l n f n) (l.getD j nd0) := by
    unfold leftN
    rw [List.getElem_map]
    have e' : (pickTo (needD l n f n) n)[p] = (j : Int) := by
      rw [List.getD_eq_getElem?_getD, List.getElem?_eq_getElem hpl] at h4
      simpa using h4
    rw [e']
    simp
  rw [ej] at e
  have hne : j ≠ i := by
    rintro rfl
    omega
  exact newNd_ne hl hall h1 hi hne h2 ri e
/-- an arena whose three blocks stay stays -/
theorem ArK.stay {w w' : World} {base g m n c : Nat} {A : Option Addr} {D : DataW Unit} {l : List Nd} (h : ArK w base g m A n c D l) (hg : w'.heap[g]? = w.heap[g]?) (hm : w'.heap[m]? = w.heap[m]?) (hr : ∀ b, (Value.slice A n c).ownBlock = some b → w'.heap[b]? = w.heap[b]?) : ArK w' base g m A n c D l := by
  refine ⟨hg.trans h.box, ?_, ?_⟩
  · refine ⟨h.row.1, ?_⟩
    rcases h.row.2 with hn | ⟨b, cap, cur, hv, h1, h2, h3⟩
    · exact .inl hn
    · exact .inr ⟨b, cap, cur, hv, h1, (hr b (by rw [hv]; rfl)).trans h2, h3⟩
  · obtain ⟨es, clock, h1, h2, h3, h4⟩ := h.map
    exact ⟨es, clock, hm.trans h1, h2, h3, h4⟩
theorem own_stay {w w' : World} {base n size : Nat} {e : TypeId} {v : Value} {xs : List Value} (h : w.ownsRow base e size v n xs) (hr : ∀ b, v.ownBlock = some b → w'.heap[b]? = w.heap[b]?) : w'.ownsRow base e size v n xs := by
  refine ⟨h.1, ?_⟩
  rcases h.2 with hn | ⟨b, cap, cur, hv, h1, h2, h3⟩
  · exact .inl hn
  · exact .inr ⟨b, cap, cur, hv, h1, (hr b (by rw [hv]; rfl)).trans h2, h3⟩
theorem newNd_wf {l : List Nd} {n i : Nat} {R : Nat → Bool} (hall : NdAll l n) (hn : n ≤ 200) (hi : i < n) : ndWf (newNd R (l.getD i nd0)) := by
  have hw := nd_wf hall hn hi
  have hok := (hall i hi).1
  obtain ⟨t, ht⟩ : ∃ t, l.getD i nd0 = t := ⟨_, rfl⟩
  rw [ht] at hw hok ⊢
  obtain ⟨o, u, a, b⟩ := t
  obtain ⟨p1, p2⟩ := ndOk_ops hok
  have key : ∀ x : Int, (x = -1 ∨ (0 ≤ x ∧ x < i)) → (Lit.int .i64 (newOp R x)).wf = true := by
    intro x hx
    unfold newOp
    split
    · have h1 := pickTo_len R x.toNat
      refine WalkArith.wf_i64 ?_
      unfold cntK
      omega
    · exact WalkArith.wf_i64 (by omega)
  exact ⟨hw.1, hw.2.1, key a p1, key b p2⟩
end Go.Proofs.YtfmhmnpmdjpmeaaDoor

namespace Go.Proofs.YtfmhmnpmdjpmeaaDoor
open Go.RowKit

/-- the value of node k -/
def avN (env : List Int) (l : List Nd) (k : Nat) : Int := (avR env l (k + 1)).getD k 0
theorem avN_eq (env : List Int) (l : List Nd) (k : Nat) : avN env l k = nodeV env (avR env l k) (l.getD k nd0).1 (l.getD k nd0).2.1 (l.getD k nd0).2.2.1 (l.getD k nd0).2.2.2 := by
  unfold avN
  rw [avR]
  exact last_getD _ _ _ _ (avR_len env l k)
theorem avN_get (env : List Int) (l : List Nd) {j k : Nat} (h : j < k) : (avR env l k).getD j 0 = avN env l j := avR_get l j k h
theorem nodeV_cases {env vals : List Int} {o u a b : Int} {k : Nat} (h : ndOk (o, u, a, b) k = true) :
    ((o = 0 ∨ o = 4) ∧ nodeV env vals o u a b = (if o = 4 then env.getD u.toNat 0 else 0)) ∨ (o = 1 ∧ a = -1 ∧ 0 ≤ b ∧ b < k ∧ nodeV env vals o u a b = vals.getD b.toNat 0 + 1) ∨
    ((o = 2 ∨ o = 3) ∧ 0 ≤ a ∧ a < k ∧ 0 ≤ b ∧ b < k ∧ nodeV env vals o u a b = (if o = 2 then max (vals.getD a.toNat 0) (vals.getD b.toNat 0) else if vals.getD b.toNat 0 = 0 then 0 else max (vals.getD a.toNat 0) (vals.getD b.toNat 0))) := by
  rcases ndOk_cases h with ⟨rfl, rfl, rfl, rfl⟩ | ⟨rfl, h0, h1, rfl, rfl⟩ | ⟨rfl, rfl, rfl, h0, h1⟩ | ⟨ho, rfl, h0, h1, h2, h3⟩
  · exact .inl ⟨.inl rfl, rfl⟩
  · exact .inl ⟨.inr rfl, rfl⟩
  · exact .inr (.inl ⟨rfl, rfl, h0, h1, rfl⟩)
  · rcases ho with rfl | rfl
    · exact .inr (.inr ⟨.inl rfl, h0, h1, h2, h3, rfl⟩)
    · exact .inr (.inr ⟨.inr rfl, h0, h1, h2, h3, rfl⟩)
section
variable {l : List Nd} {n : Nat} {f : Nat → Bool}
theorem kp_at (l : List Nd) {n i : Nat} {R : Nat → Bool} (hi : i < n) (ri : R i = true) : (leftN l R n).getD (cntK R i) nd0 = newNd R (l.getD i nd0) ∧ cntK R i < (leftN l R n).length := by
  have hlt : cntK R i < (pickTo R n).length := cntK_lt hi ri
  obtain ⟨j, h1, h2, h3, h4⟩ := pickTo_at hlt
  obtain rfl : j = i := cntK_inj h2 ri h3
  have hlen : cntK R j < (leftN l R n).length := by rw [leftN_len]; exact hlt
  refine ⟨?_, hlen⟩
  have hq : (leftN l R n)[cntK R j]? = some (newNd R (l.getD j nd0)) := by
    unfold leftN
    rw [List.getElem?_map, List.getElem?_eq_getElem hlt]
    have e : (pickTo R n)[cntK R j] = (j : Int) := by
      rw [List.getD_eq_getElem?_getD, List.getElem?_eq_getElem hlt] at h4
      simpa using h4
    rw [e]
    simp
  rw [List.getD_eq_getElem?_getD, hq]
  rfl
/-- a kept node is right at its new place -/
theorem kp_nd (hall : NdAll l n) {i : Nat} (hi : i < n) (ri : needD l n f n i = true) : ndOk (newNd (needD l n f n) (l.getD i nd0)) (cntK (needD l n f n) i) = true := by
  have hok := (hall i hi).1
  obtain ⟨c1, c2⟩ := need_closed hall hi ri
  generalize needD l n f n = R at ri c1 c2
  obtain ⟨t, ht⟩ : ∃ t, l.getD i nd0 = t := ⟨_, rfl⟩
  rw [ht] at hok c1 c2 ⊢
  obtain ⟨o, u, a, b⟩ := t
  simp only at c1 c2
  have hop : ∀ x : Int, 0 ≤ x → x < i → (0 ≤ x → R x.toNat = true) → newOp R x = (cntK R x.toNat : Nat) ∧ cntK R x.toNat < cntK R i := fun x h0 h1 h2 => ⟨by unfold newOp; rw [if_pos h0], cntK_lt (by omega) (h2 h0)⟩
  show ndOk (o, u, newOp R a, newOp R b) (cntK R i) = true
  rcases ndOk_cases hok with ⟨rfl, rfl, rfl, rfl⟩ | ⟨rfl, h0, h1, rfl, rfl⟩ | ⟨rfl, rfl, rfl, h0, h1⟩ | ⟨ho, rfl, h0, h1, h2, h3⟩
  · rfl
  · simp [ndOk, tokB, opdB, tkA, tkB, newOp]; omega
  · obtain ⟨e1, e2⟩ := hop b h0 h1 c2
    rw [e1]
    simp [ndOk, tokB, opdB, tkA, tkB, newOp]; omega
  · obtain ⟨e1, e2⟩ := hop a h0 h1 c1
    obtain ⟨e3, e4⟩ := hop b h2 h3 c2
    rw [e1, e3]
    rcases ho with rfl | rfl
    · simp [ndOk, tokB, opdB, tkA, tkB]; omega
    · simp [ndOk, tokB, opdB, tkA, tkB]; omega
/-- what is kept is an arena -/
theorem kp_arena (hl : l.length = n) (hn : n ≤ 200) (hall : NdAll l n) : NdAll (leftN l (needD l n f n) n) (leftN l (needD l n f n) n).length ∧ arenaOkR (leftN l (needD l n f n) n) = true ∧ (leftN l (needD l n f n) n).length ≤ n := by
  have hA : NdAll (leftN l (needD l n f n) n) (leftN l (needD l n f n) n).length := by
    intro q hq
    rw [leftN_len] at hq
    obtain ⟨i, h1, h2, h3, _⟩ := pickTo_at hq
    obtain ⟨e, _⟩ := kp_at l h1 h2
    rw [h3] at e
    rw [e]
    have := kp_nd hall h1 h2
    rw [h3] at this
    exact ⟨this, leftN_new hl hall h1 h2 h3⟩
  have hle : (leftN l (needD l n f n) n).length ≤ n := by rw [leftN_len]; exact pickTo_len _ _
  exact ⟨hA, arena_yes rfl (by omega) hA, hle⟩
/-- .. in which each kept node has its values -/
theorem kp_av (env : List Int) (hall : NdAll l n) : ∀ i, i < n → needD l n f n i = true → avN env (leftN l (needD l n f n) n) (cntK (needD l n f n) i) = avN env l i := by
  intro i
  induction i using Nat.strongRecOn with
  | ind i ih =>
    intro hi ri
    have hok := (hall i hi).1
    have hnew := kp_nd hall hi ri
    obtain ⟨c1, c2⟩ := need_closed hall hi ri
    obtain ⟨e, _⟩ := kp_at l hi ri
    have h1 := avN_eq env (leftN l (needD l n f n) n) (cntK (needD l n f n) i)
    have h2 := avN_eq env l i
    rw [e] at h1
    generalize hR : needD l n f n = R at *
    obtain ⟨t, ht⟩ : ∃ t, l.getD i nd0 = t := ⟨_, rfl⟩
    rw [ht] at hok hnew h1 h2 c1 c2
    obtain ⟨o, u, a, b⟩ := t
    simp only [newNd] at hnew h1 h2 c1 c2
    have hop : ∀ x : Int, 0 ≤ x → x < i → (0 ≤ x → R x.toNat = true) → (avR env (leftN l R n) (cntK R i)).getD (newOp R x).toNat 0 = avN env l x.toNat := by
      intro x h0 h1 h2
      have hlt := cntK_lt (R := R) (i := x.toNat) (j := i) (by omega) (h2 h0)
      unfold newOp
      rw [if_pos h0, Int.toNat_natCast, avN_get env _ hlt]
      exact ih _ (by omega) (by omega) (h2 h0)
    rw [h1, h2]
    rcases nodeV_cases (env := env) (vals := avR env l i) hok with ⟨ho, e1⟩ | ⟨rfl, rfl, h0, h1', e1⟩ | ⟨ho, ha0, ha1, hb0, hb1, e1⟩
    · rcases nodeV_cases (env := env) (vals := avR env (leftN l R n) (cntK R i)) hnew with ⟨_, e2⟩ | ⟨rfl, _⟩ | ⟨h, _⟩
      · rw [e1, e2]
      · omega
      · omega
    · rcases nodeV_cases (env := env) (vals := avR env (leftN l R n) (cntK R i)) hnew with ⟨h, _⟩ | ⟨_, _, _, _, e2⟩ | ⟨h, _⟩
      · omega
      · rw [e1, e2, hop b h0 h1' c2, avN_get env l (by omega)]
      · omega
    · rcases nodeV_cases (env := env) (vals := avR env (leftN l R n) (cntK R i)) hnew with ⟨h, _⟩ | ⟨rfl, _⟩ | ⟨_, _, _, _, _, e2⟩
      · omega
      · omega
      · rw [e1, e2, hop a ha0 ha1 c1, hop b hb0 hb1 c2, avN_get env l (by omega), avN_get env l (by omega)]
/-- .. and its level -/
theorem kp_fl (hall : NdAll l n) : ∀ i, i < n → needD l n f n i = true → flN (leftN l (needD l n f n) n) (cntK (needD l n f n) i) = flN l i := by
  intro i
  induction i using Nat.strongRecOn with
  | ind i ih =>
    intro hi ri
    have hok := (hall i hi).1
    have hnew := kp_nd hall hi ri
    obtain ⟨c1, c2⟩ := need_closed hall hi ri
    obtain ⟨e, _⟩ := kp_at l hi ri
    have h1 := flN_eq (leftN l (needD l n f n) n) (cntK (needD l n f n) i)
    have h2 := flN_eq l i
    rw [e] at h1
    generalize hR : needD l n f n = R at *
    obtain ⟨t, ht⟩ : ∃ t, l.getD i nd0 = t := ⟨_, rfl⟩
    rw [ht] at hok hnew h1 h2 c1 c2
    obtain ⟨o, u, a, b⟩ := t
    simp only [newNd] at hnew h1 h2 c1 c2
    have hop : ∀ x : Int, 0 ≤ x → x < i → (0 ≤ x → R x.toNat = true) → (flR (leftN l R n) (cntK R i)).getD (newOp R x).toNat [] = flN l x.toNat := by
      intro x h0 h1 h2
      have hlt := cntK_lt (R := R) (i := x.toNat) (j := i) (by omega) (h2 h0)
      unfold newOp
      rw [if_pos h0, Int.toNat_natCast, flR_get _ _ _ hlt]
      exact ih _ (by omega) (by omega) (h2 h0)
    have hnd := ndOk_cases hok
    rw [h1, h2]
    rcases lvlT_cases (vals := flR l i) hok with ⟨ho, e1, _⟩ | ⟨rfl, rfl, hb, e1⟩ | ⟨ho, rfl, ha, hb, e1⟩
    · rcases lvlT_cases (vals := flR (leftN l R n) (cntK R i)) hnew with ⟨_, e2, _⟩ | ⟨rfl, _⟩ | ⟨h, _⟩
      · rw [e1, e2]
      · omega
      · omega
    · rcases lvlT_cases (vals := flR (leftN l R n) (cntK R i)) hnew with ⟨h, _⟩ | ⟨_, _, _, e2⟩ | ⟨h, _⟩
      · omega
      · rw [e1, e2, hop b (by omega) (by omega) c2, flR_get l _ i hb]
      · omega
    · rcases lvlT_cases (vals := flR (leftN l R n) (cntK R i)) hnew with ⟨h, _⟩ | ⟨rfl, _⟩ | ⟨_, _, _, _, e2⟩
      · omega
      · omega
      · rw [e1, e2, hop a (by omega) (by omega) c1, hop b (by omega) (by omega) c2, flR_get l _ i ha, flR_get l _ i hb]
end
end Go.Proofs.YtfmhmnpmdjpmeaaDoor

namespace Go.Proofs.YtfmhmnpmdjpmeaaDoor
open Go.RowKit

/-- every block of another element type than int and machine is as it was -/
def Keeps (w w' : World) : Prop := ∀ (k : Nat) (cs : Array Value) (t : TypeId) (fr : Nat × Nat), w.heap[k]? = some (.cells cs t fr) → t ≠ 3 → t ≠ 96 → w'.heap[k]? = some (.cells cs t fr)

section
variable {w w' w'' : World}
theorem Keeps.refl (w : World) : Keeps w w := fun _ _ _ _ h _ _ => h
theorem Keeps.trans (h : Keeps w w') (h' : Keeps w' w'') : Keeps w w'' := fun k cs t fr hk h1 h2 => h' k cs t fr (h k cs t fr hk h1 h2) h1 h2
theorem Keeps.alloc (h : Keeps w w') (o : Obj) : Keeps w (w'.alloc o) := fun k cs t fr hk h1 h2 => by
  have h3 := h k cs t fr hk h1 h2
  rw [Below.heap_alloc w' o k (Array.getElem?_eq_some_iff.1 h3).1]
  exact h3
theorem Keeps.grown {row : Option Nat} (h : Keeps w w') (hg : w'.grownBy w'' row) (hr : ∀ g, row = some g → ∃ cs, Blk w' g 3 cs) : Keeps w w'' := fun k cs t fr hk h1 h2 => by
  have h3 := h k cs t fr hk h1 h2
  rw [hg.block k (Array.getElem?_eq_some_iff.1 h3).1 (fun e => by
    obtain ⟨cs', hb⟩ := hr k e.symm
    have e := Eq.trans (Eq.symm h3) hb
    injection e with e
    injection e with _ e2
    exact h1 e2)]
  exact h3
theorem Keeps.store (h : Keeps w w') {p : Addr} {cs' : Array Value} (hb : Blk w' p.block 96 cs') (u : Value) : Keeps w (w'.setCell p u) := fun k cs t fr hk h1 h2 => by
  have h3 := h k cs t fr hk h1 h2
  rw [Below.heap_setCell w' p u k (fun e => by
    subst e
    have e := Eq.trans (Eq.symm h3) hb
    injection e with e
    injection e with _ e2
    exact h2 e2)]
  exact h3
theorem Keeps.blk {g : Nat} {t : TypeId} {cs : Array Value} (h : Keeps w w') (hb : Blk w g t cs) (h1 : t ≠ 3) (h2 : t ≠ 96) : Blk w' g t cs := h g cs t (0, 0) hb h1 h2
end

/-- the cells of the machine's struct -/
def machCells (env : List Int) (sv : Value) : Array Value := (env.map (Value.int .i64) ++ [sv]).toArray

/-- block bm holds the machine: its env, and a stack of its own above B (its top first in st) -/
def Mach (w : World) (B bm : Nat) (env st : List Int) : Prop :=
  B ≤ bm ∧ env.length = 5 ∧ ∃ (A : Option Addr) (c : Nat), Blk w bm 96 (machCells env (.slice A st.length c)) ∧
    w.ownsRow B 3 1 (.slice A st.length c) st.length (st.reverse.map (Value.int .i64))

theorem mach_stack (env : List Int) (sv : Value) (h : env.length = 5) : (machCells env sv)[5]? = some sv := by
  simp [machCells, h]
theorem mach_env (env : List Int) (sv : Value) (h : env.length = 5) (i : Nat) (hi : i < 5) : (machCells env sv)[i]? = some (.int .i64 (env.getD i 0)) := by
  have hl : i < env.length := by omega
  simp [machCells, List.getElem?_append, hl]
theorem mach_put (env : List Int) (sv sv' : Value) (h : env.length = 5) : (machCells env sv).setIfInBounds 5 sv' = machCells env sv' := by
  simp [machCells, h]

/-- what the variable errLevel holds -/
def ErrAt (w : World) (T : TypeId) (pv : Value) : Prop := w.cell? ⟨0, 0, none⟩ = some (.iface T pv)
theorem ErrAt.below {w w' : World} {B : Nat} {T : TypeId} {pv : Value} (h : ErrAt w T pv) (hb : Below B w w') (hB : 0 < B) : ErrAt w' T pv := (hb.cell (p := ⟨0, 0, none⟩) hB).trans h

set_option maxHeartbeats 400000 in
theorem push_any (w : World) (B bm : Nat) (env st : List Int) (v : Int) (hm : Mach w B bm env st) (hs : st.length ≤ 1000) :
    Calls Tryd.prog 69 #[.pointer (some ⟨bm, 0, none⟩), .int .i64 v] w fun e w' => e = .returned (.tuple #[]) ∧ Mach w' B bm env (v :: st) ∧ Below B w w' ∧ Keeps w w' := by
  obtain ⟨hB, he, A, c, hblk, hown⟩ := hm
  have hlt := hblk.lt
  have hc5 : w.cell? ⟨bm, 5, none⟩ = some (.slice A st.length c) := (hblk.cell 5).trans (mach_stack env _ he)
  obtain ⟨i0, hi, hz0, hz1, hz2⟩ := info_parts info_int
  have HE := Lib.hid he
  clear he
  go_enter Tryd.func69, Tryd.ntmps69
  go_wp2_with (at_builtin; refine wpList_append_own _ rfl (.tmp 8) (.tmp 10) 40 rfl B 3 i0 (.int .i64 0) 1 8 Tryd.underlying40 hi hz0 hz1 hz2 rfl (by decide) (.slice A st.length c) st.length (st.reverse.map (Value.int .i64)) rfl (hown.alloc _) ⟨w.heap.size, 0, none⟩ 1 1 [.int .i64 v] rfl rfl ?c1 ?c2 ?c3 ?c4 ?c5 ?c6)
  case c1 => exact cell_one_new _ _ _
  case c2 => intro u hu; simp at hu; subst hu; rfl
  case c3 => unfold maxLen; omega
  case c4 => omega
  case c5 => simp; omega
  case c6 =>
    intro v' w1 hown' hgrow _
    obtain ⟨g, cap', rfl⟩ : ∃ g cap', v' = .slice (some ⟨g, 0, none⟩) (st.length + 1) cap' := by
      rcases hown'.2 with ⟨_, h⟩ | ⟨g, cap', _, h, _⟩
      · omega
      · exact ⟨g, cap', h⟩
    have hap := own_apart hown hblk (by decide)
    have hblk1 : Blk w1 bm 96 (machCells env (.slice A st.length c)) := (hblk.alloc _).grown hgrow (fun h => hap h.symm)
    have hk : w1.cell? ⟨bm, 5, none⟩ = some (.slice A st.length c) := (hblk1.cell 5).trans (mach_stack env _ HE.out)
    have hf := hblk1.thawed 5
    have hbel : Below B w w1 := (((Below.refl _ _).alloc (by omega) _)).grown hgrow (by simp; omega) (fun k h => (hown.lt k h).1)
    have hown2 := own_store (p := ⟨bm, 5, none⟩) hown' (own_apart hown' hblk1 (by decide)) (.slice (some ⟨g, 0, none⟩) (st.length + 1) cap')
    have hblk2 := hblk1.put 5 (.slice (some ⟨g, 0, none⟩) (st.length + 1) cap')
    have hbel2 := hbel.setCell (p := ⟨bm, 5, none⟩) hB (.slice (some ⟨g, 0, none⟩) (st.length + 1) cap')
    have hkp : Keeps w w1 := ((Keeps.refl w).alloc _).grown hgrow (fun g hg => own_blk (hown.alloc _) g hg)
    have hkp2 := hkp.store (p := ⟨bm, 5, none⟩) hblk1 (.slice (some ⟨g, 0, none⟩) (st.length + 1) cap')
    have H2 := Lib.hid hown2
    have H3 := Lib.hid hblk2
    have H4 := Lib.hid hkp2
    clear hkp hkp2
    clear hown2 hblk2 hgrow hown' hown hap
    go_wp2
    go_end0
    refine ⟨rfl, ⟨hB, HE.out, some ⟨g, 0, none⟩, cap', ?_, ?_⟩, hbel2, H4.out⟩
    · have h3 := H3.out
      rw [mach_put env _ _ HE.out] at h3
      exact h3
    · have h2 := H2.out
      simpa using h2
end Go.Proofs.YtfmhmnpmdjpmeaaDoor
