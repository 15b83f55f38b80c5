/- Words for memory: a row of pairs of levels, each level a row of the call's own. -/
/- pairUnder of the program: whether one pair of levels is ordered under a list. -/
/- Words for memory: a row of pairs whose rows of tokens hold whatever; marks upon it, and what stays. -/
/- PairsUnder of the program, over a row of pairs of the call's own. -/
import Derived.Test.YtgebjnoicgmdoaaDoorCoTab
import Derived.Test.YtgebjnoicgmdoaaDoorCoOk
import Derived.Test.YtgebjnoicgmdoaaDoorSide
import Derived.Test.YtgebjnoicgmdoaaDoorNFree2
import Derived.Test.YtgebjnoicgmdoaaDoorSucc
import Derived.Test.YtgebjnoicgmdoaaDoorCsMath
import Derived.Test.YtgebjnoicgmdoaaDoorSgHas
import Derived.Lib.SmallJoins

namespace Go.Proofs.YtgebjnoicgmdoaaDoor
open Go.RowKit
open Cs (Cn)

theorem flatMap_eq {f g : Nat → List Value} : ∀ {l : List Nat}, (∀ i ∈ l, f i = g i) → l.flatMap f = l.flatMap g
  | [], _ => rfl
  | x :: l, h => by rw [List.flatMap_cons, List.flatMap_cons, h x (by simp), flatMap_eq fun i hi => h i (by simp [hi])]
abbrev Pr := List (Int × Int) × Bool × List (Int × Int)
abbrev pr0 : Pr := ([], false, [])
/-- the cells of a row of pairs -/
def pairV (rb rc : Nat → Nat) (ps : List Pr) (i : Nat) : List Value := [.slice (some ⟨rb (2 * i), 0, none⟩) (ps.getD i pr0).1.length (rc (2 * i)), .bool (ps.getD i pr0).2.1, .slice (some ⟨rb (2 * i + 1), 0, none⟩) (ps.getD i pr0).2.2.length (rc (2 * i + 1))]
def pairVs (rb rc : Nat → Nat) (ps : List Pr) : List Value := (List.range ps.length).flatMap (pairV rb rc ps)
structure PairO (w : World) (base : Nat) (A : Option Addr) (cap n : Nat) (ps : List Pr) (rb rc : Nat → Nat) : Prop where
  len : ps.length = n
  out : w.ownsRow base 39 3 (.slice A n cap) n (pairVs rb rc ps)
  rowA : ∀ i, i < n → OwnT w base (some ⟨rb (2 * i), 0, none⟩) (ps.getD i pr0).1.length (rc (2 * i)) (ps.getD i pr0).1
  rowB : ∀ i, i < n → OwnT w base (some ⟨rb (2 * i + 1), 0, none⟩) (ps.getD i pr0).2.2.length (rc (2 * i + 1)) (ps.getD i pr0).2.2
  inj : ∀ i j, i < 2 * n → j < 2 * n → rb i = rb j → i = j
section
variable {w w' : World} {base n cap : Nat} {A : Option Addr} {ps : List Pr} {rb rc : Nat → Nat}
theorem PairO.below (h : PairO w base A cap n ps rb rc) (hb : Below w.heap.size w w') : PairO w' base A cap n ps rb rc :=
  ⟨h.len, own_below' h.out hb, fun i hi => own_below' (h.rowA i hi) hb, fun i hi => own_below' (h.rowB i hi) hb, h.inj⟩
theorem PairO.lt (h : PairO w base A cap n ps rb rc) {i : Nat} (hi : i < 2 * n) : rb i < w.heap.size := by
  rcases Nat.mod_two_eq_zero_or_one i with e | e
  · have := ((h.rowA (i / 2) (by omega)).lt (rb (2 * (i / 2))) rfl).2
    rwa [show 2 * (i / 2) = i by omega] at this
  · have := ((h.rowB (i / 2) (by omega)).lt (rb (2 * (i / 2) + 1)) rfl).2
    rwa [show 2 * (i / 2) + 1 = i by omega] at this
theorem PairO.nil (w : World) (base : Nat) (rb rc : Nat → Nat) : PairO w base none 0 0 [] rb rc :=
  ⟨rfl, World.ownsRow_nil _ _ _ _, fun i hi => absurd hi (by omega), fun i hi => absurd hi (by omega), fun i j hi => absurd hi (by omega)⟩
/-- the blocks and capacities with two more -/
def ins (f : Nat → Nat) (n x y : Nat) : Nat → Nat := fun i => if i = 2 * n then x else if i = 2 * n + 1 then y else f i
theorem ins_a (f : Nat → Nat) (n x y : Nat) : ins f n x y (2 * n) = x := if_pos rfl
theorem ins_b (f : Nat → Nat) (n x y : Nat) : ins f n x y (2 * n + 1) = y := by unfold ins; rw [if_neg (by omega), if_pos rfl]
theorem ins_o (f : Nat → Nat) {n i : Nat} (x y : Nat) (h : i < 2 * n) : ins f n x y i = f i := by unfold ins; rw [if_neg (by omega), if_neg (by omega)]
theorem getP_old {ps : List Pr} {i : Nat} (t : Pr) (h : i < ps.length) : (ps ++ [t]).getD i pr0 = ps.getD i pr0 := by
  simp [List.getD_eq_getElem?_getD, List.getElem?_append_left h]
theorem getP_new (ps : List Pr) (t : Pr) : (ps ++ [t]).getD ps.length pr0 = t := by
  simp [List.getD_eq_getElem?_getD]
theorem pairVs_snoc (rb rc : Nat → Nat) (ps : List Pr) (x y cx cy : Nat) (t : Pr) : pairVs (ins rb ps.length x y) (ins rc ps.length cx cy) (ps ++ [t]) = pairVs rb rc ps ++ [.slice (some ⟨x, 0, none⟩) t.1.length cx, .bool t.2.1, .slice (some ⟨y, 0, none⟩) t.2.2.length cy] := by
  unfold pairVs
  rw [List.length_append, List.length_singleton, List.range_succ, List.flatMap_append]
  congr 1
  · apply flatMap_eq
    intro i hi
    rw [List.mem_range] at hi
    unfold pairV
    rw [getP_old t hi, ins_o _ _ _ (by omega), ins_o _ _ _ (by omega), ins_o _ _ _ (by omega), ins_o _ _ _ (by omega)]
  · simp only [List.flatMap_cons, List.flatMap_nil, List.append_nil, pairV]
    rw [getP_new, ins_a, ins_b, ins_a, ins_b]
/-- one pair more -/
theorem PairO.add {g' cap' x y cx cy : Nat} {t : Pr} {row : Option Nat} (h : PairO w base A cap n ps rb rc) (hr : row = (Value.slice A n cap).ownBlock) (hg : w.grownBy w' row) (hx : OwnT w base (some ⟨x, 0, none⟩) t.1.length cx t.1) (hy : OwnT w base (some ⟨y, 0, none⟩) t.2.2.length cy t.2.2)
    (hxy : x ≠ y) (hxo : ∀ i, i < 2 * n → rb i ≠ x) (hyo : ∀ i, i < 2 * n → rb i ≠ y)
    (hown : w'.ownsRow base 39 3 (.slice (some ⟨g', 0, none⟩) (n + 1) cap') (n + 1) (pairVs rb rc ps ++ [.slice (some ⟨x, 0, none⟩) t.1.length cx, .bool t.2.1, .slice (some ⟨y, 0, none⟩) t.2.2.length cy])) :
    PairO w' base (some ⟨g', 0, none⟩) cap' (n + 1) (ps ++ [t]) (ins rb n x y) (ins rc n cx cy) := by
  have keep : ∀ {z m c : Nat} {l : List (Int × Int)}, OwnT w base (some ⟨z, 0, none⟩) m c l → OwnT w' base (some ⟨z, 0, none⟩) m c l := fun hz => hz.kept hg (by
    rcases own_apartK hz h.out (by decide) with q | q
    · exact .inl q
    · exact .inr (by rw [hr]; exact fun e => q e))
  have hl := h.len
  subst hl
  refine ⟨by simp, by rw [pairVs_snoc]; exact hown, fun i hi => ?_, fun i hi => ?_, fun i j hi hj e => ?_⟩
  · by_cases e : i = ps.length
    · subst e
      rw [getP_new, ins_a, ins_a]
      exact keep hx
    · rw [getP_old t (by omega), ins_o _ _ _ (by omega), ins_o _ _ _ (by omega)]
      exact keep (h.rowA i (by omega))
  · by_cases e : i = ps.length
    · subst e
      rw [getP_new, ins_b, ins_b]
      exact keep hy
    · rw [getP_old t (by omega), ins_o _ _ _ (by omega), ins_o _ _ _ (by omega)]
      exact keep (h.rowB i (by omega))
  · have key : ∀ k, k < 2 * (ps.length + 1) → k < 2 * ps.length ∨ k = 2 * ps.length ∨ k = 2 * ps.length + 1 := fun k hk => by omega
    rcases key i hi with hi' | rfl | rfl <;> rcases key j hj with hj' | rfl | rfl
    · rw [ins_o _ _ _ hi', ins_o _ _ _ hj'] at e
      exact h.inj i j hi' hj' e
    · rw [ins_o _ _ _ hi', ins_a] at e
      exact absurd e (hxo i hi')
    · rw [ins_o _ _ _ hi', ins_b] at e
      exact absurd e (hyo i hi')
    · rw [ins_o _ _ _ hj', ins_a] at e
      exact absurd e.symm (hxo j hj')
    · rfl
    · rw [ins_a, ins_b] at e
      exact absurd e hxy
    · rw [ins_o _ _ _ hj', ins_b] at e
      exact absurd e.symm (hyo j hj')
    · rw [ins_a, ins_b] at e
      exact absurd e.symm hxy
    · rfl
end
theorem info_pair : (Tryd.prog.info? 39).map (fun i => (i.zero, i.size, i.bytes)) = some (some (.agg #[.slice none 0 0, .bool false, .slice none 0 0]), 3, 56) := by kernel_rfl
/-- a pair in a block of its own -/
theorem pair_new (w : World) (u v : Value) (b : Bool) : ∀ j z, [u, .bool b, v][j]? = some z → (w.alloc (.cells #[u, .bool b, v] 39)).cell? ((⟨w.heap.size, 0, none⟩ : Addr).add j) = some z :=
  World.news_of_block (cs := #[u, .bool b, v]) (t := 39) (fr := (0, 0)) (heap_alloc_new w _)

/-- the pairs of one constraint, of the first k, of all -/
def sub1 (ls : List (List (Int × Int))) (c : Cn) : Option (List Pr) := match sdR ls c.1, sdR ls c.2.2 with
  | some u, some v => some ((u, decide (c.2.1 = 1), v) :: if c.2.1 = 2 then [(v, false, u)] else [])
  | _, _ => none
def subTo (l : List Cn) (ls : List (List (Int × Int))) : Nat → Option (List Pr)
  | 0 => some []
  | k + 1 => (subTo l ls k).bind fun ps => (sub1 ls (l.getD k (0, 0, 0))).map (ps ++ ·)
def csubR (l : List Cn) (ls : List (List (Int × Int))) : Option (List Pr) := if consOkR l = true then subTo l ls l.length else none
theorem subTo_stop {l : List Cn} {ls : List (List (Int × Int))} {k : Nat} (h : subTo l ls k = none) : ∀ m, subTo l ls (k + m) = none
  | 0 => h
  | m + 1 => by show (subTo l ls (k + m)).bind _ = none; rw [subTo_stop h m]; rfl
theorem sub1_u {ls : List (List (Int × Int))} {U R V : Int} (h : sdR ls U = none) : sub1 ls (U, R, V) = none := by
  unfold sub1
  rw [h]
theorem sub1_v {ls : List (List (Int × Int))} {U R V : Int} (h : sdR ls V = none) : sub1 ls (U, R, V) = none := by
  unfold sub1
  rw [h]
  cases sdR ls U <;> rfl
theorem sub1_y {ls : List (List (Int × Int))} {U R V : Int} {u v : List (Int × Int)} (h : sdR ls U = some u) (h1 : sdR ls V = some v) : sub1 ls (U, R, V) = some ((u, decide (R = 1), v) :: if R = 2 then [(v, false, u)] else []) := by
  unfold sub1
  rw [h, h1]
end Go.Proofs.YtgebjnoicgmdoaaDoor

namespace Go.Proofs.YtgebjnoicgmdoaaDoor
open Go.RowKit
open Cs (Cn)

/-- whether a pair is ordered under a list -/
noncomputable def pairR (l : List Cn) (p : Pr) : Bool := if p.2.1 = true then (match succR p.1 1 with | some a => leUnR l a p.2.2 | none => false) else leUnR l p.1 p.2.2
theorem pairR_f (l : List Cn) (a b : List (Int × Int)) : pairR l (a, false, b) = leUnR l a b := if_neg (by simp)
theorem pairR_n {l : List Cn} {a b : List (Int × Int)} (h : succR a 1 = none) : pairR l (a, true, b) = false := by unfold pairR; rw [if_pos rfl, h]
theorem pairR_s {l : List Cn} {a b c : List (Int × Int)} (h : succR a 1 = some c) : pairR l (a, true, b) = leUnR l c b := by unfold pairR; rw [if_pos rfl, h]
set_option maxRecDepth 100000 in
set_option maxHeartbeats 3200000 in
theorem pairUnder_any (w : World) (B : Nat) (A : Option Addr) (n c : Nat) (l : List Cn) (A1 : Option Addr) (n1 c1 : Nat) (a : List (Int × Int)) (s : Bool) (A2 : Option Addr) (n2 c2 : Nat) (m : List (Int × Int)) (T : TypeId) (pv : Value) (Tc : TypeId) (pc : Value) (h0 : 0 < B) (h0c : 1 < B) (hB : B ≤ w.heap.size)
    (hA : SlOk A n c) (hl : ConR w B A n l) (hn : (n : Int) ≤ 140737488355328) (ha : TokR w B A1 n1 a) (hn1 : n1 ≤ 1048576) (hm : TokR w B A2 n2 m) (hn2 : n2 ≤ 1048576) (hE : ErrAt w T pv) (hEc : ErrCAt w Tc pc) :
    Calls Tryd.prog 28 #[.slice A n c, .agg #[.slice A1 n1 c1, .bool s, .slice A2 n2 c2]] w fun e w' => e = .returned (.bool (pairR l (a, s, m))) ∧ Below w.heap.size w w' := by
  have hb : Below w.heap.size w (w.alloc (.cells #[.slice A1 n1 c1, .bool s, .slice A2 n2 c2] 39)) := (Below.refl _ _).alloc (Nat.le_refl _) _
  have HE := Lib.hid (hE.below (hb.mono hB) h0)
  have HEc := Lib.hid (hEc.below (hb.mono hB) h0c)
  have HL := Lib.hid (hl.below (hb.mono hB))
  have HA := Lib.hid (ha.below (hb.mono hB))
  have HM := Lib.hid (hm.below (hb.mono hB))
  have HS := Lib.hid hA
  have HK : Hid (Blk (w.alloc (.cells #[.slice A1 n1 c1, .bool s, .slice A2 n2 c2] 39)) w.heap.size 39 #[.slice A1 n1 c1, .bool s, .slice A2 n2 c2]) := Blk.made _ _ _
  have HB := Lib.hid hb
  clear hE hEc hl ha hm hA hb
  cases s with
  | false =>
    have HR := Lib.hid (pairR_f l a m)
    go_enter Tryd.func28, Tryd.ntmps28
    go_wp2_with fail
    refine (implLeUnder_any _ B A n c l A1 n1 c1 a A2 n2 c2 m T pv Tc pc h0 h0c (by simp; omega) HS.out HL.out hn HA.out (by omega) HM.out (by omega) HE.out HEc.out).mono ?_
    rintro e w1 ⟨rfl, hb1⟩
    have HB1 := Lib.hid (HB.out.trans (hb1.mono (by simp)))
    clear hb1
    rw [← HR.out]
    go_wp2
    go_ret
    exact ⟨rfl, HB1.out⟩
  | true =>
    cases hs : succR a 1 with
    | none =>
      have HR := Lib.hid (pairR_n (l := l) (b := m) hs)
      have HSU := Lib.hid hs
      clear hs
      go_enter Tryd.func28, Tryd.ntmps28
      go_wp2_with fail
      refine (implSucc_any _ B A1 n1 c1 a 1 T pv h0 (by simp; omega) HA.out hn1 HE.out).mono ?_
      rw [HSU.out]
      rintro e w1 ⟨A3, c3, rfl, _, hb1⟩
      have HB1 := Lib.hid (HB.out.trans (hb1.mono (by simp)))
      clear hb1
      go_wp2
      go_ret
      exact ⟨by rw [HR.out]; rfl, HB1.out⟩
    | some d =>
      have HR := Lib.hid (pairR_s (l := l) (b := m) hs)
      have hd : d.length ≤ 1048576 := by
        have h := hs
        unfold succR at h
        split at h
        · rename_i h1
          injection h with h
          subst h
          have := h1.2.2
          have h2 : (sxs (1 : Int).toNat).length ≤ 24 := by decide
          rw [List.length_append]
          omega
        · cases h
      have HSU := Lib.hid hs
      clear hs
      go_enter Tryd.func28, Tryd.ntmps28
      go_wp2_with fail
      refine (implSucc_any _ B A1 n1 c1 a 1 T pv h0 (by simp; omega) HA.out hn1 HE.out).mono ?_
      rw [HSU.out]
      rintro e w1 ⟨A3, c3, rfl, ho3, hb1⟩
      have hs1 : w.heap.size + 1 ≤ w1.heap.size := by have := hb1.size; simpa only [World.size_alloc] using this
      have hk := HK.out.below hb1 (by simp)
      have e2 : w1.cell? ⟨w.heap.size, 2, none⟩ = some (.slice A2 n2 c2) := hk.cell 2
      have hbB := hb1.mono (show B ≤ _ by simp; omega)
      have HE1 := Lib.hid (HE.out.below hbB h0)
      have HEc1 := Lib.hid (HEc.out.below hbB h0c)
      have HL1 := Lib.hid ((HL.out.below hbB).more (show B ≤ w1.heap.size by omega))
      have HM1 := Lib.hid ((HM.out.below hbB).more (show B ≤ w1.heap.size by omega))
      have HD := Lib.hid (OwnT.reads ho3)
      have HB1 := Lib.hid (HB.out.trans (hb1.mono (by simp)))
      have hlen : (Option.getD (some d) []).length = d.length := rfl
      obtain ⟨q, hq⟩ : ∃ q, d.length = q := ⟨_, rfl⟩
      rw [hlen, hq] at HD ⊢
      rw [hq] at hd
      clear hb1 hk hbB ho3 hlen hq
      go_wp2_with fail
      refine (implLeUnder_any w1 w1.heap.size A n c l A3 q c3 d A2 n2 c2 m T pv Tc pc (by omega) (by omega) (Nat.le_refl _) HS.out HL1.out hn HD.out (by omega) HM1.out (by omega) HE1.out HEc1.out).mono ?_
      rintro e w2 ⟨rfl, hb2⟩
      have HB2 := Lib.hid (HB1.out.trans (hb2.mono (by omega)))
      clear hb2
      rw [← HR.out]
      go_wp2
      go_ret
      exact ⟨rfl, HB2.out⟩
end Go.Proofs.YtgebjnoicgmdoaaDoor

namespace Go.Proofs.YtgebjnoicgmdoaaDoor
open Go.RowKit

def pwV (rb rc ln : Nat → Nat) (fl : Nat → Bool) (i : Nat) : List Value := [.slice (some ⟨rb (2 * i), 0, none⟩) (ln (2 * i)) (rc (2 * i)), .bool (fl i), .slice (some ⟨rb (2 * i + 1), 0, none⟩) (ln (2 * i + 1)) (rc (2 * i + 1))]
def pwVs (rb rc ln : Nat → Nat) (fl : Nat → Bool) (n : Nat) : List Value := (List.range n).flatMap (pwV rb rc ln fl)
theorem pwVs_succ (rb rc ln : Nat → Nat) (fl : Nat → Bool) (n : Nat) : pwVs rb rc ln fl (n + 1) = pwVs rb rc ln fl n ++ pwV rb rc ln fl n := by
  unfold pwVs
  rw [List.range_succ, List.flatMap_append]
  simp
theorem pwVs_len (rb rc ln : Nat → Nat) (fl : Nat → Bool) : ∀ n, (pwVs rb rc ln fl n).length = n * 3
  | 0 => rfl
  | n + 1 => by rw [pwVs_succ, List.length_append, pwVs_len rb rc ln fl n]; simp [pwV]; omega
theorem pwVs_get (rb rc ln : Nat → Nat) (fl : Nat → Bool) : ∀ {n i j : Nat}, i < n → j < 3 → (pwVs rb rc ln fl n)[i * 3 + j]? = (pwV rb rc ln fl i)[j]?
  | 0, _, _, h, _ => absurd h (by omega)
  | n + 1, i, j, h, hj => by
    rw [pwVs_succ]
    by_cases e : i < n
    · rw [List.getElem?_append_left (by rw [pwVs_len]; omega), pwVs_get rb rc ln fl e hj]
    · obtain rfl : i = n := by omega
      rw [List.getElem?_append_right (by rw [pwVs_len]; omega), pwVs_len]
      congr 1
      omega
structure PairW (w : World) (lo hi : Nat) (A : Option Addr) (cap n : Nat) (rb rc ln : Nat → Nat) (fl : Nat → Bool) (vals : Nat → List Value) : Prop where
  out : w.ownsRow lo 39 3 (.slice A n cap) n (pwVs rb rc ln fl n)
  row : ∀ i, i < 2 * n → w.ownsRow lo 56 2 (.slice (some ⟨rb i, 0, none⟩) (ln i) (rc i)) (ln i) (vals i)
  inj : ∀ i j, i < 2 * n → j < 2 * n → rb i = rb j → i = j
  inA : InR (.slice A n cap) lo hi
  inB : ∀ i, i < 2 * n → lo ≤ rb i ∧ rb i < hi
section
variable {w w' : World} {lo hi n cap : Nat} {A : Option Addr} {rb rc ln : Nat → Nat} {fl : Nat → Bool} {vals : Nat → List Value}
theorem PairW.below (h : PairW w lo hi A cap n rb rc ln fl vals) (hb : Below w.heap.size w w') : PairW w' lo hi A cap n rb rc ln fl vals :=
  ⟨own_below' h.out hb, fun i hi => own_below' (h.row i hi) hb, h.inj, h.inA, h.inB⟩
theorem PairW.form (h : PairW w lo hi A cap n rb rc ln fl vals) (hn : 0 < n) : ∃ g, A = some ⟨g, 0, none⟩ := by
  obtain ⟨g, c, e⟩ := Go.Joins.ownsRow_form h.out hn
  injection e with e1 e2 e3
  exact ⟨g, e1⟩
theorem row_in (b m c : Nat) : InR (.slice (some ⟨b, 0, none⟩) m c) b (b + 1) := fun k hk => by have h' : b = k := (by simpa [Value.ownBlock] using hk); omega
/-- marks elsewhere -/
theorem PairW.other {base size m k : Nat} {e : TypeId} {v : Value} {lo' hi' : Nat} (h : PairW w lo hi A cap n rb rc ln fl vals) (hm : MarkOut w base e size v m k w') (hv : InR v lo' hi') (hd : hi ≤ lo' ∨ hi' ≤ lo) : PairW w' lo hi A cap n rb rc ln fl vals :=
  ⟨markKept h.out hm hv h.inA (by omega), fun i hi' => markKept (h.row i hi') hm hv (row_in _ _ _) (by have := h.inB i hi'; omega), h.inj, h.inA, h.inB⟩
theorem PairW.kept {g g' : Nat} (h : PairW w lo hi A cap n rb rc ln fl vals) (hk : LKept w g g' w') (hd : g' ≤ lo ∨ hi ≤ g) : PairW w' lo hi A cap n rb rc ln fl vals :=
  ⟨hk.kept h.out h.inA hd, fun i hi' => hk.kept (h.row i hi') (row_in _ _ _) (by have := h.inB i hi'; omega), h.inj, h.inA, h.inB⟩
/-- a row of it is marked -/
theorem PairW.mark {i k : Nat} (h : PairW w lo hi A cap n rb rc ln fl vals) (hi' : i < 2 * n) (hm : MarkOut w lo 56 2 (.slice (some ⟨rb i, 0, none⟩) (ln i) (rc i)) (ln i) k w') :
    PairW w' lo hi A cap n rb rc ln fl (fun q => if q = i then marks k (ln i * 2) else vals q) := by
  refine ⟨h.out.kept hm.1 ?_, fun q hq => ?_, h.inj, h.inA, h.inB⟩
  · exact own_apartK h.out (h.row i hi') (by decide)
  · by_cases e : q = i
    · subst e
      rw [if_pos rfl]
      exact hm.2.2
    · rw [if_neg e]
      refine (h.row q hq).kept hm.1 (.inr fun he => e (h.inj q i hq hi' ?_))
      have h1 : some (rb q) = some (rb i) := he
      injection h1
theorem LKept.put {w wr : World} {g hi : Nat} (h : LKept w g hi wr) {p : Addr} (h1 : g ≤ p.block) (h2 : p.block < hi) (u : Value) : LKept w g hi (wr.setCell p u) :=
  ⟨fun B w0 hb hB => (h.1 B w0 hb hB).setCell (Nat.le_trans hB h1) u, fun base' e' size' n' u' xs lo' hi' hu hi1 hd => ownsRow_setCell_other (h.kept hu hi1 hd) (fun he => by have := hi1 _ he; omega) u, by rw [World.size_setCell, h.2.2]⟩
theorem LKept.refl (w : World) (g hi : Nat) : LKept w g hi w := ⟨fun _ _ hb _ => hb, fun _ _ _ _ _ _ _ _ hu _ _ => hu, rfl⟩
/-- the cells of pair i -/
theorem PairW.spots {g i : Nat} (h : PairW w lo hi (some ⟨g, 0, none⟩) cap n rb rc ln fl vals) (hi' : i < n) :
    w.cell? ⟨g, i * 3, none⟩ = some (.slice (some ⟨rb (2 * i), 0, none⟩) (ln (2 * i)) (rc (2 * i))) ∧ w.cell? ⟨g, i * 3 + 1, none⟩ = some (.bool (fl i)) ∧ w.cell? ⟨g, i * 3 + 2, none⟩ = some (.slice (some ⟨rb (2 * i + 1), 0, none⟩) (ln (2 * i + 1)) (rc (2 * i + 1))) ∧ w.frozen? ⟨g, i * 3 + 1, none⟩ = false := by
  have a0 := own_spot h.out (i := i * 3 + 0) (pwVs_get rb rc ln fl hi' (by decide))
  have a1 := own_spot h.out (i := i * 3 + 1) (pwVs_get rb rc ln fl hi' (by decide))
  have a2 := own_spot h.out (i := i * 3 + 2) (pwVs_get rb rc ln fl hi' (by decide))
  exact ⟨a0.1, a1.1, a2.1, a1.2⟩
end
/-- the rows of tokens of a list of pairs -/
def toks (ps : List Pr) (i : Nat) : List (Int × Int) := if i % 2 = 0 then (ps.getD (i / 2) pr0).1 else (ps.getD (i / 2) pr0).2.2
theorem toks_a (ps : List Pr) (i : Nat) : toks ps (2 * i) = (ps.getD i pr0).1 := by unfold toks; rw [if_pos (by omega), show 2 * i / 2 = i by omega]
theorem toks_b (ps : List Pr) (i : Nat) : toks ps (2 * i + 1) = (ps.getD i pr0).2.2 := by unfold toks; rw [if_neg (by omega), show (2 * i + 1) / 2 = i by omega]
abbrev PairP (w : World) (lo hi : Nat) (A : Option Addr) (cap n : Nat) (ps : List Pr) (rb rc : Nat → Nat) : Prop := PairW w lo hi A cap n rb rc (fun i => (toks ps i).length) (fun i => (ps.getD i pr0).2.1) (fun i => tokCells (toks ps i))
theorem PairO.words {w : World} {base n cap : Nat} {A : Option Addr} {ps : List Pr} {rb rc : Nat → Nat} (h : PairO w base A cap n ps rb rc) : PairP w base w.heap.size A cap n ps rb rc := by
  have hv : pwVs rb rc (fun i => (toks ps i).length) (fun i => (ps.getD i pr0).2.1) n = pairVs rb rc ps := by
    unfold pwVs pairVs
    rw [h.len]
    exact flatMap_eq fun i _ => by unfold pwV pairV; simp only [toks_a, toks_b]
  have hr : ∀ i, i < 2 * n → w.ownsRow base 56 2 (.slice (some ⟨rb i, 0, none⟩) (toks ps i).length (rc i)) (toks ps i).length (tokCells (toks ps i)) := by
    intro i hi
    rcases Nat.mod_two_eq_zero_or_one i with e | e
    · obtain ⟨j, rfl⟩ : ∃ j, i = 2 * j := ⟨i / 2, by omega⟩
      rw [toks_a]
      exact h.rowA j (by omega)
    · obtain ⟨j, rfl⟩ : ∃ j, i = 2 * j + 1 := ⟨i / 2, by omega⟩
      rw [toks_b]
      exact h.rowB j (by omega)
  exact ⟨by rw [hv]; exact h.out, hr, h.inj, own_in h.out, fun i hi => (hr i hi).lt (rb i) rfl⟩
end Go.Proofs.YtgebjnoicgmdoaaDoor

namespace Go.Proofs.YtgebjnoicgmdoaaDoor
open Go.RowKit
open Cs (Cn)

/-- whether every pair is ordered under a list -/
noncomputable def pairsR (l : List Cn) (ps : List Pr) : Bool := consOkR l && ps.all (pairR l)
theorem pairsR_c {l : List Cn} {ps : List Pr} (h : consOkR l = false) : pairsR l ps = false := by unfold pairsR; rw [h]; rfl
theorem pairsR_f {l : List Cn} {ps : List Pr} {k : Nat} (hk : k < ps.length) (h : pairR l (ps.getD k pr0) = false) : pairsR l ps = false := by
  unfold pairsR
  have : ps.all (pairR l) = false := by
    rw [List.all_eq_false]
    refine ⟨ps.getD k pr0, ?_, by rw [h]; simp⟩
    rw [List.getD_eq_getElem?_getD, List.getElem?_eq_getElem hk, Option.getD_some]
    exact List.getElem_mem _
  rw [this, Bool.and_false]
theorem pairsR_t {l : List Cn} {ps : List Pr} (h : consOkR l = true) (ha : ∀ k, k < ps.length → pairR l (ps.getD k pr0) = true) : pairsR l ps = true := by
  unfold pairsR
  rw [h, Bool.true_and, List.all_eq_true]
  intro x hx
  obtain ⟨k, hk, rfl⟩ := List.mem_iff_getElem.1 hx
  have := ha k hk
  rwa [List.getD_eq_getElem?_getD, List.getElem?_eq_getElem hk, Option.getD_some] at this
set_option maxRecDepth 100000 in
set_option maxHeartbeats 3200000 in
theorem implPairsUnder_any (w : World) (B : Nat) (A : Option Addr) (n c : Nat) (l : List Cn) (lo hi : Nat) (A2 : Option Addr) (n2 c2 : Nat) (ps : List Pr) (rb rc : Nat → Nat) (T : TypeId) (pv : Value) (Tc : TypeId) (pc : Value) (h0 : 0 < B) (h0c : 1 < B) (hB : B ≤ w.heap.size)
    (hA : SlOk A n c) (hl : ConR w B A n l) (hn : (n : Int) ≤ 140737488355328) (hp : PairP w lo hi A2 c2 n2 ps rb rc) (hps : ps.length = n2) (hn2 : n2 ≤ 1048576) (hlen : ∀ i, i < 2 * n2 → (toks ps i).length ≤ 1048576) (hE : ErrAt w T pv) (hEc : ErrCAt w Tc pc) :
    Calls Tryd.prog 11 #[.slice A n c, .slice A2 n2 c2] w fun e w' => e = .returned (.bool (pairsR l ps)) ∧ Below w.heap.size w w' := by
  have HE := Lib.hid hE
  have HEc := Lib.hid hEc
  have HL := Lib.hid hl
  have HS := Lib.hid hA
  have HP := Lib.hid hp
  have HN := Lib.hid hps
  have HLEN := Lib.hid hlen
  clear hE hEc hl hA hp hps hlen
  go_enter Tryd.func11, Tryd.ntmps11
  go_wp2_with fail
  refine (implConsOk_any w B A n c l hB HL.out hn).mono ?_
  rintro e w1 ⟨rfl, hb1⟩
  have HB1 := Lib.hid hb1
  clear hb1
  cases hc : consOkR l with
  | false =>
    have HR := Lib.hid (pairsR_c (ps := ps) hc)
    clear hc
    go_wp2
    go_ret
    exact ⟨by rw [HR.out]; rfl, HB1.out⟩
  | true =>
    have HC := Lib.hid hc
    clear hc
    go_wp2
    go_loopw [12] (fun i wr => ∃ k : Nat, k ≤ n2 ∧ i = .int .i64 k ∧ Hid (Below w.heap.size w wr) ∧ Hid (∀ j, j < k → pairR l (ps.getD j pr0) = true)) (fun i _ => n2 - (intOf i).toNat)
    case atStart => exact ⟨0, Nat.zero_le _, rfl, HB1.out, fun j hj => absurd hj (by omega)⟩
    case round =>
      clear HB1
      obtain ⟨k, hk, rfl, HB, HT⟩ := hrel
      have hszr := HB.out.size
      by_cases hlt : k < n2
      · have hq := HP.out.below HB.out
        obtain ⟨g, rfl⟩ := hq.form (by omega)
        obtain ⟨a0, a1, a2, _⟩ := hq.spots hlt
        have ra := OwnT.reads (hq.row (2 * k) (by omega))
        have rb' := OwnT.reads (hq.row (2 * k + 1) (by omega))
        have hla := HLEN.out (2 * k) (by omega)
        have hlb := HLEN.out (2 * k + 1) (by omega)
        simp only [toks_a, toks_b] at a0 a1 a2 ra rb' hla hlb
        obtain ⟨t, ht⟩ : ∃ t, ps.getD k pr0 = t := ⟨_, rfl⟩
        rw [ht] at a0 a1 a2 ra rb' hla hlb
        obtain ⟨x, s, y⟩ := t
        have HT1 := Lib.hid ht
        obtain ⟨nx, hnx⟩ : ∃ q, x.length = q := ⟨_, rfl⟩
        obtain ⟨ny, hny⟩ : ∃ q, y.length = q := ⟨_, rfl⟩
        simp only [hnx, hny] at a0 a1 a2 ra rb' hla hlb
        have HRA := Lib.hid ra
        have HRB := Lib.hid rb'
        clear hq ra rb' ht hnx hny
        go_wp2_with fail
        have hbx : Below wr.heap.size wr (wr.alloc (.cells #[.slice (some ⟨rb (2 * k), 0, none⟩) nx (rc (2 * k)), .bool s, .slice (some ⟨rb (2 * k + 1), 0, none⟩) ny (rc (2 * k + 1))] 39)) := (Below.refl _ _).alloc (Nat.le_refl _) _
        have hbb := HB.out.trans (hbx.mono hszr)
        refine (pairUnder_any _ wr.heap.size A n c l _ nx _ x s _ ny _ y T pv Tc pc (by omega) (by omega) (by simp) HS.out ((HL.out.below (hbb.mono hB)).more (by omega)) hn (HRA.out.below hbx) (by omega) (HRB.out.below hbx) (by omega) (HE.out.below (hbb.mono hB) h0) (HEc.out.below (hbb.mono hB) h0c)).mono ?_
        rintro e w2 ⟨rfl, hb2⟩
        have HB2 := Lib.hid (hbb.trans (hb2.mono (by simp; omega)))
        clear hb2 hbx hbb
        cases hr : pairR l (x, s, y) with
        | false =>
          have HR : Hid (pairsR l ps = false) := pairsR_f (k := k) (by rw [HN.out]; exact hlt) (by rw [HT1.out]; exact hr)
          clear hr
          go_wp2
          go_ret
          exact ⟨by rw [HR.out]; rfl, HB2.out⟩
        | true =>
          have HT2 : Hid (∀ j, j < k + 1 → pairR l (ps.getD j pr0) = true) := fun j hj => by
            by_cases e : j < k
            · exact HT.out j e
            · obtain rfl : j = k := by omega
              rw [HT1.out]
              exact hr
          clear hr
          go_wp2
          go_roundw
          case rel => exact ⟨k + 1, by omega, by go_num, HB2.out, HT2.out⟩
          case measure => simp [intOf]; omega
      · obtain rfl : k = n2 := by omega
        have HR : Hid (pairsR l ps = true) := pairsR_t HC.out fun j hj => HT.out j (by rw [← HN.out]; exact hj)
        go_wp2
        go_ret
        exact ⟨by rw [HR.out]; rfl, HB.out⟩
end Go.Proofs.YtgebjnoicgmdoaaDoor
