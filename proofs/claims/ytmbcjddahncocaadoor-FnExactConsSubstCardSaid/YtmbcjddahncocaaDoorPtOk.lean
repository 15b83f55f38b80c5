/- A side of a constraint with levels in the place of its parameters: sideLevel of the program, l06Level of the reference model. -/
/- Words for memory: a row of pairs of levels, each level a row of the call's own. -/
/- Constraints of the program: sideOk, ConOk, ConsOk. -/
import Derived.Test.YtmbcjddahncocaaDoorDTrim
import Derived.Test.YtmbcjddahncocaaDoorSRes
import Derived.Test.YtmbcjddahncocaaDoorSgMath2
import Derived.Test.YtmbcjddahncocaaDoorSgLev
import Derived.Test.YtmbcjddahncocaaDoorSgMath

namespace Go.Proofs.YtmbcjddahncocaaDoor
open Go.RowKit

/-- the level that stands for a side -/
def sdR (ls : List (List (Int × Int))) (p : Int) : Option (List (Int × Int)) := if p < 0 then some [(0, 0)] else if p < (ls.length : Int) ∧ Lv.levelOk (ls.getD p.toNat []) = true then some (ls.getD p.toNat []) else none
theorem sdR_neg {ls : List (List (Int × Int))} {p : Int} (h : p < 0) : sdR ls p = some [(0, 0)] := if_pos h
theorem sdR_out {ls : List (List (Int × Int))} {k : Nat} (h : ls.length ≤ k) : sdR ls (k : Int) = none := by
  unfold sdR
  rw [if_neg (by omega), if_neg (fun q => by omega)]
theorem sdR_bad {ls : List (List (Int × Int))} {k : Nat} (h : Lv.levelOk (ls.getD k []) = false) : sdR ls (k : Int) = none := by
  unfold sdR
  rw [if_neg (by omega), if_neg (fun q => by have := q.2; rw [Int.toNat_natCast, h] at this; cases this)]
theorem sdR_yes {ls : List (List (Int × Int))} {k : Nat} (h : k < ls.length) (h1 : Lv.levelOk (ls.getD k []) = true) : sdR ls (k : Int) = some (ls.getD k []) := by
  unfold sdR
  rw [if_neg (by omega), if_pos ⟨by omega, by rw [Int.toNat_natCast]; exact h1⟩, Int.toNat_natCast]
theorem sdR_ok {ls : List (List (Int × Int))} {p : Int} {q : List (Int × Int)} (h : sdR ls p = some q) : Lv.levelOk q = true ∧ 1 ≤ q.length ∧ q.length ≤ 24 := by
  unfold sdR at h
  split at h
  · injection h with h
    subst h
    exact ⟨by decide, by decide, by decide⟩
  · split at h
    · rename_i h1
      injection h with h
      subst h
      have := Dc.ok_two h1.2
      exact ⟨h1.2, this.1, this.2⟩
    · cases h
/-- what they give back -/
def SdOut (w : World) (r : Option (List (Int × Int))) (e : Ending) (w' : World) : Prop :=
  (r = none ∧ e = .returned (.tuple #[.slice none 0 0, .bool false]) ∧ Below w.heap.size w w') ∨ ∃ q g c, r = some q ∧ e = .returned (.tuple #[.slice (some ⟨g, 0, none⟩) q.length c, .bool true]) ∧ OwnT w' w.heap.size (some ⟨g, 0, none⟩) q.length c q ∧ Below w.heap.size w w'

set_option maxRecDepth 100000 in
set_option maxHeartbeats 1600000 in
theorem implSide_any (w : World) (B : Nat) (A : Option Addr) (n c : Nat) (ls : List (List (Int × Int))) (p : Int) (T : TypeId) (pv : Value) (h0 : 0 < B) (hB : B ≤ w.heap.size) (hl : LvlR w B A n ls) (hn : (n : Int) ≤ 140737488355328) (hm : bulk ls ≤ 1048576) (h1 : -1 ≤ p) (hE : ErrAt w T pv) :
    Calls Tryd.prog 85 #[.int .i64 p, .slice A n c] w (SdOut w (sdR ls p)) := by
  have HL := Lib.hid hl
  clear hl
  by_cases hp : p < 0
  · obtain rfl : p = -1 := by omega
    have HR := Lib.hid (sdR_neg (ls := ls) hp)
    clear hp
    go_enter Tryd.func85, Tryd.ntmps85
    go_wp2
    go_ret2
    rw [HR.out]
    exact .inr ⟨_, _, 1, rfl, rfl, own_litJ (Blk.made w _ _) (Nat.le_refl _), (Below.refl _ _).alloc (Nat.le_refl _) _⟩
  · obtain ⟨k, rfl⟩ : ∃ k : Nat, p = k := ⟨p.toNat, by omega⟩
    have dk : ((k : Int) == -1) = false := by simp
    clear hp h1
    by_cases hk : k < n
    · have hki : ¬ (n : Int) ≤ (k : Int) := by omega
      obtain ⟨b, off, rfl, hb, hc⟩ := HL.out.2 (by omega)
      obtain ⟨Ak, nk, ck, c1, t1, m1⟩ := hc k hk
      have HT := Lib.hid t1
      have HLL : Hid (ls.length = n) := HL.out.1
      obtain ⟨q, hq⟩ : ∃ q, ls.getD k [] = q := ⟨_, rfl⟩
      have hqb : nk ≤ 1048576 := by
        have e := t1.1
        have := tot_take ls k (by rw [HLL.out]; exact hk)
        have h2 : tot (ls.take (k + 1)) ≤ tot ls := by
          unfold tot
          have e3 : (ls.map List.length).sum = ((ls.take (k + 1)).map List.length).sum + ((ls.drop (k + 1)).map List.length).sum := by rw [← List.sum_append, ← List.map_append, List.take_append_drop]
          omega
        unfold bulk at hm
        omega
      rw [hq] at HT t1
      have HQ := Lib.hid hq
      have hlen := t1.1
      clear hc t1 hq
      cases hok : Lv.levelOk q with
      | false =>
        have HR : Hid (sdR ls (k : Int) = none) := sdR_bad (by rw [HQ.out]; exact hok)
        have HO := Lib.hid hok
        clear hok
        go_enter Tryd.func85, Tryd.ntmps85
        go_wp2_with fail
        refine (levelOk_any w B Ak nk ck q T pv h0 hB HT.out (by omega) hE).mono ?_
        rintro e w1 ⟨rfl, hb1⟩
        rw [HO.out]
        go_wp2
        go_ret2
        rw [HR.out]
        exact .inl ⟨rfl, rfl, hb1⟩
      | true =>
        have HR : Hid (sdR ls (k : Int) = some q) := by
          show _ = _
          rw [sdR_yes (by rw [HLL.out]; exact hk) (by rw [HQ.out]; exact hok), HQ.out]
        have HO := Lib.hid hok
        have h24 := Dc.ok_two hok
        rw [hlen] at h24
        clear hok hlen
        go_enter Tryd.func85, Tryd.ntmps85
        go_wp2_with fail
        refine (levelOk_any w B Ak nk ck q T pv h0 hB HT.out (by omega) hE).mono ?_
        rintro e w1 ⟨rfl, hb1⟩
        rw [HO.out]
        have c2 := (hb1.cell (p := ⟨b, off + k, none⟩) (by show b < _; omega)).trans c1
        have hs1 := hb1.size
        have HB1 := Lib.hid hb1
        clear c1 hb1
        go_wp2_with fail
        refine (cloneT_any w1 B Ak nk ck q (by omega) (HT.out.below (HB1.out.mono hB)) h24.1 (by omega)).mono ?_
        rintro e w2 ⟨g, cap, rfl, ho2, hb2⟩
        have HB2 := Lib.hid (HB1.out.trans (hb2.mono hs1))
        have HO2 : Hid (OwnT w2 w.heap.size (some ⟨g, 0, none⟩) nk cap q) := own_base ho2 hs1
        clear c2 hb2 ho2
        go_wp2
        go_ret2
        rw [HR.out]
        have e := HT.out.1
        subst e
        exact .inr ⟨q, g, cap, rfl, rfl, HO2.out, HB2.out⟩
    · have hki : (n : Int) ≤ (k : Int) := by omega
      have HR : Hid (sdR ls (k : Int) = none) := sdR_out (by have := HL.out.1; omega)
      clear hk
      go_enter Tryd.func85, Tryd.ntmps85
      go_wp2
      go_ret2
      rw [HR.out]
      exact .inl ⟨rfl, rfl, Below.refl _ _⟩
theorem side_take {w : World} {base n : Nat} {a : Addr} {v : Value} {xs : List Value} (h : w.ownsRow base 48 2 v (0 + n) xs) (hnil : v = .slice none 0 0 ↔ (Value.slice (some a) 0 0 : Value) = .slice none 0 0 ∧ n = 0) : ∃ g c, v = .slice (some ⟨g, 0, none⟩) n c := by
  rcases h.2 with ⟨h0, _⟩ | ⟨g', cap', _, h0, _⟩
  · have := (hnil.1 h0).1
    cases this
  · rw [Nat.zero_add] at h0
    exact ⟨g', cap', h0⟩
set_option maxRecDepth 100000 in
set_option maxHeartbeats 1600000 in
theorem specSide_any (w : World) (B : Nat) (A : Option Addr) (n c : Nat) (ls : List (List (Int × Int))) (p : Int) (hB : B ≤ w.heap.size) (hl : LvlR w B A n ls) (hn : (n : Int) ≤ 140737488355328) (hm : bulk ls ≤ 1048576) :
    Calls Tryd.prog 87 #[.int .i64 p, .slice A n c] w (SdOut w (sdR ls p)) := by
  obtain ⟨i0, hi, hz0, hz1, hz2⟩ := info_parts info_tok
  have HL := Lib.hid hl
  clear hl
  by_cases hp : p < 0
  · have HR := Lib.hid (sdR_neg (ls := ls) hp)
    have dp : decide (p < 0) = true := decide_eq_true hp
    clear hp
    go_enter Tryd.func87, Tryd.ntmps87
    go_wp2
    go_ret2
    rw [HR.out]
    exact .inr ⟨_, _, 1, rfl, rfl, own_litJ (Blk.made w _ _) (Nat.le_refl _), (Below.refl _ _).alloc (Nat.le_refl _) _⟩
  · obtain ⟨k, rfl⟩ : ∃ k : Nat, p = k := ⟨p.toNat, by omega⟩
    have dk : decide ((k : Int) < 0) = false := by simp
    clear hp
    by_cases hk : k < n
    · have hki : ¬ (n : Int) ≤ (k : Int) := by omega
      obtain ⟨b, off, rfl, hb, hc⟩ := HL.out.2 (by omega)
      obtain ⟨Ak, nk, ck, c1, t1, m1⟩ := hc k hk
      have HT := Lib.hid t1
      have HLL : Hid (ls.length = n) := HL.out.1
      obtain ⟨q, hq⟩ : ∃ q, ls.getD k [] = q := ⟨_, rfl⟩
      have hqb : nk ≤ 1048576 := by
        have e := t1.1
        have := tot_take ls k (by rw [HLL.out]; exact hk)
        have h2 : tot (ls.take (k + 1)) ≤ tot ls := by
          unfold tot
          have e3 : (ls.map List.length).sum = ((ls.take (k + 1)).map List.length).sum + ((ls.drop (k + 1)).map List.length).sum := by rw [← List.sum_append, ← List.map_append, List.take_append_drop]
          omega
        unfold bulk at hm
        omega
      rw [hq] at HT t1
      have HQ := Lib.hid hq
      have hlen := t1.1
      clear hc t1 hq
      cases hok : Lv.levelOk q with
      | false =>
        have HR : Hid (sdR ls (k : Int) = none) := sdR_bad (by rw [HQ.out]; exact hok)
        have HO := Lib.hid hok
        clear hok
        go_enter Tryd.func87, Tryd.ntmps87
        go_wp2_with fail
        refine (specOk_any w B Ak nk ck q hB HT.out (by omega)).mono ?_
        rintro e w1 ⟨rfl, hb1⟩
        rw [HO.out]
        go_wp2
        go_ret2
        rw [HR.out]
        exact .inl ⟨rfl, rfl, hb1⟩
      | true =>
        have HR : Hid (sdR ls (k : Int) = some q) := by
          show _ = _
          rw [sdR_yes (by rw [HLL.out]; exact hk) (by rw [HQ.out]; exact hok), HQ.out]
        have HO := Lib.hid hok
        have h24 := Dc.ok_two hok
        rw [hlen] at h24
        clear hok hlen
        go_enter Tryd.func87, Tryd.ntmps87
        go_wp2_with fail
        refine (specOk_any w B Ak nk ck q hB HT.out (by omega)).mono ?_
        rintro e w1 ⟨rfl, hb1⟩
        rw [HO.out]
        have c2 := (hb1.cell (p := ⟨b, off + k, none⟩) (by show b < _; omega)).trans c1
        have hs1 := hb1.size
        have HB1 := Lib.hid hb1
        clear c1 hb1
        have hb1w : Below w1.heap.size w1 (w1.alloc (.cells #[] 48)) := (Below.refl _ _).alloc (Nat.le_refl _) _
        have c3 : ∀ o, (w1.alloc o).cell? ⟨b, off + k, none⟩ = some (.slice Ak nk ck) := fun o => (((Below.refl w1.heap.size w1).alloc (Nat.le_refl _) o).cell (p := ⟨b, off + k, none⟩) (by show b < _; omega)).trans c2
        obtain ⟨q0, rfl, hq0⟩ := (HT.out.below ((HB1.out.trans (hb1w.mono hs1)).mono hB)).tokA (by omega)
        have ho0 : OwnT (w1.alloc (.cells #[] 48)) w1.heap.size (some ⟨w1.heap.size, 0, none⟩) 0 0 [] := World.ownsRow_made w1 #[] 0 (Nat.le_refl _) (by simp [maxLen]) (by simp)
        have hcl := tokCells_len q
        rw [HT.out.1] at hcl
        have HCL := Lib.hid hcl
        clear hcl
        go_wp2_with (at_builtin; refine wpList_append_own _ rfl (.tmp 23) (.tmp 28) 24 rfl w1.heap.size 48 i0 (.agg #[.int .i64 0, .int .i64 0]) 2 16 Tryd.underlying24 hi hz0 hz1 hz2 rfl (by decide) (.slice (some ⟨w1.heap.size, 0, none⟩) 0 0) 0 (tokCells []) rfl ho0 q0 nk ck (tokCells q) rfl HCL.out hq0.2 (tokCells_one q) (by unfold maxLen; omega) (by omega) (by simp) ?_; intro v' w3 hown' hgrow hnil; obtain ⟨g', cap', rfl⟩ := side_take hown' hnil)
        have HB3 : Hid (Below w.heap.size w w3) := HB1.out.trans ((hb1w.grown hgrow (by simp) (fun k h => by have h' : w1.heap.size = k := (by simpa [Value.ownBlock] using h); omega)).mono hs1)
        have HW0 : Hid (OwnT w3 w.heap.size (some ⟨g', 0, none⟩) nk cap' q) := by
          show OwnT _ _ _ _ _ _
          have h := hown'
          rw [tokCells_nil, List.nil_append, Nat.zero_add] at h
          exact own_base h hs1
        clear hown' hgrow hnil ho0 hq0 hb1w c2 c3
        go_wp2
        go_ret2
        rw [HR.out]
        have e := HT.out.1
        subst e
        exact .inr ⟨q, g', cap', rfl, rfl, HW0.out, HB3.out⟩
    · have hki : (n : Int) ≤ (k : Int) := by omega
      have HR : Hid (sdR ls (k : Int) = none) := sdR_out (by have := HL.out.1; omega)
      clear hk
      go_enter Tryd.func87, Tryd.ntmps87
      go_wp2
      go_ret2
      rw [HR.out]
      exact .inl ⟨rfl, rfl, Below.refl _ _⟩
end Go.Proofs.YtmbcjddahncocaaDoor

namespace Go.Proofs.YtmbcjddahncocaaDoor
open Go.RowKit
open Cs (Cn)

theorem flatMap_eq {f g : Nat → List Value} : ∀ {l : List Nat}, (∀ i ∈ l, f i = g i) → l.flatMap f = l.flatMap g
  | [], _ => rfl
  | x :: l, h => by rw [List.flatMap_cons, List.flatMap_cons, h x (by simp), flatMap_eq fun i hi => h i (by simp [hi])]
abbrev Pr := List (Int × Int) × Bool × List (Int × Int)
abbrev pr0 : Pr := ([], false, [])
/-- the cells of a row of pairs -/
def pairV (rb rc : Nat → Nat) (ps : List Pr) (i : Nat) : List Value := [.slice (some ⟨rb (2 * i), 0, none⟩) (ps.getD i pr0).1.length (rc (2 * i)), .bool (ps.getD i pr0).2.1, .slice (some ⟨rb (2 * i + 1), 0, none⟩) (ps.getD i pr0).2.2.length (rc (2 * i + 1))]
def pairVs (rb rc : Nat → Nat) (ps : List Pr) : List Value := (List.range ps.length).flatMap (pairV rb rc ps)
structure PairO (w : World) (base : Nat) (A : Option Addr) (cap n : Nat) (ps : List Pr) (rb rc : Nat → Nat) : Prop where
  len : ps.length = n
  out : w.ownsRow base 58 3 (.slice A n cap) n (pairVs rb rc ps)
  rowA : ∀ i, i < n → OwnT w base (some ⟨rb (2 * i), 0, none⟩) (ps.getD i pr0).1.length (rc (2 * i)) (ps.getD i pr0).1
  rowB : ∀ i, i < n → OwnT w base (some ⟨rb (2 * i + 1), 0, none⟩) (ps.getD i pr0).2.2.length (rc (2 * i + 1)) (ps.getD i pr0).2.2
  inj : ∀ i j, i < 2 * n → j < 2 * n → rb i = rb j → i = j
section
variable {w w' : World} {base n cap : Nat} {A : Option Addr} {ps : List Pr} {rb rc : Nat → Nat}
theorem PairO.below (h : PairO w base A cap n ps rb rc) (hb : Below w.heap.size w w') : PairO w' base A cap n ps rb rc :=
  ⟨h.len, own_below' h.out hb, fun i hi => own_below' (h.rowA i hi) hb, fun i hi => own_below' (h.rowB i hi) hb, h.inj⟩
theorem PairO.lt (h : PairO w base A cap n ps rb rc) {i : Nat} (hi : i < 2 * n) : rb i < w.heap.size := by
  rcases Nat.mod_two_eq_zero_or_one i with e | e
  · have := ((h.rowA (i / 2) (by omega)).lt (rb (2 * (i / 2))) rfl).2
    rwa [show 2 * (i / 2) = i by omega] at this
  · have := ((h.rowB (i / 2) (by omega)).lt (rb (2 * (i / 2) + 1)) rfl).2
    rwa [show 2 * (i / 2) + 1 = i by omega] at this
theorem PairO.nil (w : World) (base : Nat) (rb rc : Nat → Nat) : PairO w base none 0 0 [] rb rc :=
  ⟨rfl, World.ownsRow_nil _ _ _ _, fun i hi => absurd hi (by omega), fun i hi => absurd hi (by omega), fun i j hi => absurd hi (by omega)⟩
/-- the blocks and capacities with two more -/
def ins (f : Nat → Nat) (n x y : Nat) : Nat → Nat := fun i => if i = 2 * n then x else if i = 2 * n + 1 then y else f i
theorem ins_a (f : Nat → Nat) (n x y : Nat) : ins f n x y (2 * n) = x := if_pos rfl
theorem ins_b (f : Nat → Nat) (n x y : Nat) : ins f n x y (2 * n + 1) = y := by unfold ins; rw [if_neg (by omega), if_pos rfl]
theorem ins_o (f : Nat → Nat) {n i : Nat} (x y : Nat) (h : i < 2 * n) : ins f n x y i = f i := by unfold ins; rw [if_neg (by omega), if_neg (by omega)]
theorem getP_old {ps : List Pr} {i : Nat} (t : Pr) (h : i < ps.length) : (ps ++ [t]).getD i pr0 = ps.getD i pr0 := by
  simp [List.getD_eq_getElem?_getD, List.getElem?_append_left h]
theorem getP_new (ps : List Pr) (t : Pr) : (ps ++ [t]).getD ps.length pr0 = t := by
  simp [List.getD_eq_getElem?_getD]
theorem pairVs_snoc (rb rc : Nat → Nat) (ps : List Pr) (x y cx cy : Nat) (t : Pr) : pairVs (ins rb ps.length x y) (ins rc ps.length cx cy) (ps ++ [t]) = pairVs rb rc ps ++ [.slice (some ⟨x, 0, none⟩) t.1.length cx, .bool t.2.1, .slice (some ⟨y, 0, none⟩) t.2.2.length cy] := by
  unfold pairVs
  rw [List.length_append, List.length_singleton, List.range_succ, List.flatMap_append]
  congr 1
  · apply flatMap_eq
    intro i hi
    rw [List.mem_range] at hi
    unfold pairV
    rw [getP_old t hi, ins_o _ _ _ (by omega), ins_o _ _ _ (by omega), ins_o _ _ _ (by omega), ins_o _ _ _ (by omega)]
  · simp only [List.flatMap_cons, List.flatMap_nil, List.append_nil, pairV]
    rw [getP_new, ins_a, ins_b, ins_a, ins_b]
/-- one pair more -/
theorem PairO.add {g' cap' x y cx cy : Nat} {t : Pr} {row : Option Nat} (h : PairO w base A cap n ps rb rc) (hr : row = (Value.slice A n cap).ownBlock) (hg : w.grownBy w' row) (hx : OwnT w base (some ⟨x, 0, none⟩) t.1.length cx t.1) (hy : OwnT w base (some ⟨y, 0, none⟩) t.2.2.length cy t.2.2)
    (hxy : x ≠ y) (hxo : ∀ i, i < 2 * n → rb i ≠ x) (hyo : ∀ i, i < 2 * n → rb i ≠ y)
    (hown : w'.ownsRow base 58 3 (.slice (some ⟨g', 0, none⟩) (n + 1) cap') (n + 1) (pairVs rb rc ps ++ [.slice (some ⟨x, 0, none⟩) t.1.length cx, .bool t.2.1, .slice (some ⟨y, 0, none⟩) t.2.2.length cy])) :
    PairO w' base (some ⟨g', 0, none⟩) cap' (n + 1) (ps ++ [t]) (ins rb n x y) (ins rc n cx cy) := by
  have keep : ∀ {z m c : Nat} {l : List (Int × Int)}, OwnT w base (some ⟨z, 0, none⟩) m c l → OwnT w' base (some ⟨z, 0, none⟩) m c l := fun hz => hz.kept hg (by
    rcases own_apartK hz h.out (by decide) with q | q
    · exact .inl q
    · exact .inr (by rw [hr]; exact fun e => q e))
  have hl := h.len
  subst hl
  refine ⟨by simp, by rw [pairVs_snoc]; exact hown, fun i hi => ?_, fun i hi => ?_, fun i j hi hj e => ?_⟩
  · by_cases e : i = ps.length
    · subst e
      rw [getP_new, ins_a, ins_a]
      exact keep hx
    · rw [getP_old t (by omega), ins_o _ _ _ (by omega), ins_o _ _ _ (by omega)]
      exact keep (h.rowA i (by omega))
  · by_cases e : i = ps.length
    · subst e
      rw [getP_new, ins_b, ins_b]
      exact keep hy
    · rw [getP_old t (by omega), ins_o _ _ _ (by omega), ins_o _ _ _ (by omega)]
      exact keep (h.rowB i (by omega))
  · have key : ∀ k, k < 2 * (ps.length + 1) → k < 2 * ps.length ∨ k = 2 * ps.length ∨ k = 2 * ps.length + 1 := fun k hk => by omega
    rcases key i hi with hi' | rfl | rfl <;> rcases key j hj with hj' | rfl | rfl
    · rw [ins_o _ _ _ hi', ins_o _ _ _ hj'] at e
      exact h.inj i j hi' hj' e
    · rw [ins_o _ _ _ hi', ins_a] at e
      exact absurd e (hxo i hi')
    · rw [ins_o _ _ _ hi', ins_b] at e
      exact absurd e (hyo i hi')
    · rw [ins_o _ _ _ hj', ins_a] at e
      exact absurd e.symm (hxo j hj')
    · rfl
    · rw [ins_a, ins_b] at e
      exact absurd e hxy
    · rw [ins_o _ _ _ hj', ins_b] at e
      exact absurd e.symm (hyo j hj')
    · rw [ins_a, ins_b] at e
      exact absurd e.symm hxy
    · rfl
end
theorem info_pair : (Tryd.prog.info? 58).map (fun i => (i.zero, i.size, i.bytes)) = some (some (.agg #[.slice none 0 0, .bool false, .slice none 0 0]), 3, 56) := by kernel_rfl
/-- a pair in a block of its own -/
theorem pair_new (w : World) (u v : Value) (b : Bool) : ∀ j z, [u, .bool b, v][j]? = some z → (w.alloc (.cells #[u, .bool b, v] 58)).cell? ((⟨w.heap.size, 0, none⟩ : Addr).add j) = some z :=
  World.news_of_block (cs := #[u, .bool b, v]) (t := 58) (fr := (0, 0)) (heap_alloc_new w _)

/-- the pairs of one constraint, of the first k, of all -/
def sub1 (ls : List (List (Int × Int))) (c : Cn) : Option (List Pr) := match sdR ls c.1, sdR ls c.2.2 with
  | some u, some v => some ((u, decide (c.2.1 = 1), v) :: if c.2.1 = 2 then [(v, false, u)] else [])
  | _, _ => none
def subTo (l : List Cn) (ls : List (List (Int × Int))) : Nat → Option (List Pr)
  | 0 => some []
  | k + 1 => (subTo l ls k).bind fun ps => (sub1 ls (l.getD k (0, 0, 0))).map (ps ++ ·)
def csubR (l : List Cn) (ls : List (List (Int × Int))) : Option (List Pr) := if consOkR l = true then subTo l ls l.length else none
theorem subTo_stop {l : List Cn} {ls : List (List (Int × Int))} {k : Nat} (h : subTo l ls k = none) : ∀ m, subTo l ls (k + m) = none
  | 0 => h
  | m + 1 => by show (subTo l ls (k + m)).bind _ = none; rw [subTo_stop h m]; rfl
theorem sub1_u {ls : List (List (Int × Int))} {U R V : Int} (h : sdR ls U = none) : sub1 ls (U, R, V) = none := by
  unfold sub1
  rw [h]
theorem sub1_v {ls : List (List (Int × Int))} {U R V : Int} (h : sdR ls V = none) : sub1 ls (U, R, V) = none := by
  unfold sub1
  rw [h]
  cases sdR ls U <;> rfl
theorem sub1_y {ls : List (List (Int × Int))} {U R V : Int} {u v : List (Int × Int)} (h : sdR ls U = some u) (h1 : sdR ls V = some v) : sub1 ls (U, R, V) = some ((u, decide (R = 1), v) :: if R = 2 then [(v, false, u)] else []) := by
  unfold sub1
  rw [h, h1]
end Go.Proofs.YtmbcjddahncocaaDoor

namespace Go.Proofs.YtmbcjddahncocaaDoor
open Go.RowKit
open Cs (Cn)

set_option maxHeartbeats 400000 in
theorem parOk_any (w : World) (p : Int) : Calls Tryd.prog 153 #[.int .i64 p] w fun e w' => e = .returned (.bool (decide (0 ≤ p) && decide (p < 5))) ∧ w' = w := by
  by_cases h1 : 0 ≤ p
  · have HF : Hid ((decide (0 ≤ p) && decide (p < 5)) = decide (p < 5)) := by show _ = _; simp [h1]
    have d1 : decide (0 ≤ p) = true := decide_eq_true h1
    go_enter Tryd.func153, Tryd.ntmps153
    go_wp2
    go_ret
    exact ⟨by rw [HF.out]; rfl, rfl⟩
  · have d1 : decide (0 ≤ p) = false := decide_eq_false h1
    go_enter Tryd.func153, Tryd.ntmps153
    go_wp2
    go_ret
    exact ⟨rfl, rfl⟩
set_option maxHeartbeats 400000 in
theorem sideOk_any (w : World) (p : Int) : Calls Tryd.prog 128 #[.int .i64 p] w fun e w' => e = .returned (.bool (nodeR p)) ∧ w' = w := by
  by_cases h1 : p = -1
  · subst h1
    go_enter Tryd.func128, Tryd.ntmps128
    go_wp2
    go_ret
    exact ⟨rfl, rfl⟩
  · have HF : Hid (nodeR p = (decide (0 ≤ p) && decide (p < 5))) := by
      show _ = _
      rw [Bool.eq_iff_iff]
      simp [nodeR]
      omega
    have d1 : (p == -1) = false := by simpa using h1
    go_enter Tryd.func128, Tryd.ntmps128
    go_wp2_with fail
    refine (parOk_any w p).mono ?_
    rintro e w1 ⟨rfl, rfl⟩
    rw [← HF.out]
    go_wp2
    go_ret
    exact ⟨rfl, rfl⟩

set_option maxRecDepth 100000 in
set_option maxHeartbeats 1600000 in
theorem implConOk_any (w : World) (U R V : Int) : Calls Tryd.prog 75 #[.agg #[.int .i64 U, .int .i64 R, .int .i64 V]] w fun e w' => e = .returned (.bool (Cs.cOk (U, R, V))) ∧ Below w.heap.size w w' := by
  have HB : Hid (Below w.heap.size w (w.alloc (.cells #[.int .i64 U, .int .i64 R, .int .i64 V] 39))) := (Below.refl _ _).alloc (Nat.le_refl _) _
  have HC := Lib.hid (cOk_parts U R V)
  cases h1 : nodeR U with
  | false =>
    have HF : Hid (Cs.cOk (U, R, V) = false) := by show _ = _; rw [HC.out, h1]; rfl
    have H1 := Lib.hid h1
    clear h1 HC
    go_enter Tryd.func75, Tryd.ntmps75
    go_wp2_with fail
    refine (sideOk_any _ U).mono ?_
    rintro e w1 ⟨rfl, rfl⟩
    rw [H1.out]
    go_wp2
    go_ret
    exact ⟨by rw [HF.out]; rfl, HB.out⟩
  | true =>
    have H1 := Lib.hid h1
    cases h2 : nodeR V with
    | false =>
      have HF : Hid (Cs.cOk (U, R, V) = false) := by show _ = _; rw [HC.out, h1, h2]; rfl
      have H2 := Lib.hid h2
      clear h1 h2 HC
      go_enter Tryd.func75, Tryd.ntmps75
      go_wp2_with fail
      refine (sideOk_any _ U).mono ?_
      rintro e w1 ⟨rfl, rfl⟩
      rw [H1.out]
      go_wp2_with fail
      refine (sideOk_any _ V).mono ?_
      rintro e w1 ⟨rfl, rfl⟩
      rw [H2.out]
      go_wp2
      go_ret
      exact ⟨by rw [HF.out]; rfl, HB.out⟩
    | true =>
      have H2 := Lib.hid h2
      have HF : Hid (Cs.cOk (U, R, V) = (decide (0 ≤ R) && decide (R ≤ 2))) := by show _ = _; rw [HC.out, h1, h2]; rfl
      clear h1 h2 HC
      by_cases h3 : 0 ≤ R
      · have HG : Hid (Cs.cOk (U, R, V) = decide (R ≤ 2)) := by show _ = _; rw [HF.out, decide_eq_true h3]; rfl
        have d3 : decide (0 ≤ R) = true := decide_eq_true h3
        go_enter Tryd.func75, Tryd.ntmps75
        go_wp2_with fail
        refine (sideOk_any _ U).mono ?_
        rintro e w1 ⟨rfl, rfl⟩
        rw [H1.out]
        go_wp2_with fail
        refine (sideOk_any _ V).mono ?_
        rintro e w1 ⟨rfl, rfl⟩
        rw [H2.out]
        go_wp2
        go_ret
        exact ⟨by rw [HG.out]; rfl, HB.out⟩
      · have HG : Hid (Cs.cOk (U, R, V) = false) := by show _ = _; rw [HF.out]; simp [h3]
        have d3 : decide (0 ≤ R) = false := decide_eq_false h3
        go_enter Tryd.func75, Tryd.ntmps75
        go_wp2_with fail
        refine (sideOk_any _ U).mono ?_
        rintro e w1 ⟨rfl, rfl⟩
        rw [H1.out]
        go_wp2_with fail
        refine (sideOk_any _ V).mono ?_
        rintro e w1 ⟨rfl, rfl⟩
        rw [H2.out]
        go_wp2
        go_ret
        exact ⟨by rw [HG.out]; rfl, HB.out⟩

theorem consOkR_long {l : List Cn} (h : ¬ l.length ≤ 24) : consOkR l = false := by
  cases e : consOkR l with
  | false => rfl
  | true => exact absurd (consOkR_ok e).2 h
theorem consOkR_bad {l : List Cn} {k : Nat} {t : Cn} (hk : k < l.length) (ht : l.getD k (0, 0, 0) = t) (h : Cs.cOk t = false) : consOkR l = false := by
  cases e : consOkR l with
  | false => rfl
  | true =>
    have := (consOkR_ok e).1 (l.getD k (0, 0, 0)) (by rw [List.getD_eq_getElem?_getD, List.getElem?_eq_getElem hk]; exact List.getElem_mem _)
    rw [ht, h] at this
    cases this
theorem consOkR_all {l : List Cn} (hl : l.length ≤ 24) (h : ∀ j, j < l.length → Cs.cOk (l.getD j (0, 0, 0)) = true) : consOkR l = true := by
  simp only [consOkR, Bool.and_eq_true, List.all_eq_true, decide_eq_true_eq]
  refine ⟨fun c hc => ?_, hl⟩
  obtain ⟨j, hj, rfl⟩ := List.getElem_of_mem hc
  have := h j hj
  rw [List.getD_eq_getElem?_getD, List.getElem?_eq_getElem hj] at this
  exact this
set_option maxRecDepth 100000 in
set_option maxHeartbeats 1600000 in
theorem implConsOk_any (w : World) (B : Nat) (A : Option Addr) (n c : Nat) (l : List Cn) (hB : B ≤ w.heap.size) (hl : ConR w B A n l) (hn : (n : Int) ≤ 140737488355328) :
    Calls Tryd.prog 79 #[.slice A n c] w fun e w' => e = .returned (.bool (consOkR l)) ∧ Below w.heap.size w w' := by
  by_cases h24 : n ≤ 24
  · have h24i : ¬ (24 : Int) < (n : Int) := by omega
    go_enter Tryd.func79, Tryd.ntmps79
    go_wp2
    go_loopw [10] (fun i wr => ∃ k : Nat, k ≤ n ∧ i = .int .i64 k ∧ Hid (∀ j, j < k → Cs.cOk (l.getD j (0, 0, 0)) = true) ∧ Hid (Below w.heap.size w wr)) (fun i _ => n - (intOf i).toNat)
    case atStart => exact ⟨0, Nat.zero_le _, rfl, (fun j hj => absurd hj (by omega)), Below.refl _ _⟩
    case round =>
      obtain ⟨k, hk, rfl, HA, HBR⟩ := hrel
      have hszr := HBR.out.size
      by_cases hlt : k < n
      · have hki : (k : Int) < (n : Int) := by omega
        obtain ⟨b, off, hA, hb, hc⟩ := hl.2 (by omega)
        obtain ⟨x1, x2, x3⟩ := hc k hlt
        have HL := Lib.hid hl.1
        obtain ⟨t, ht⟩ : ∃ t, l.getD k (0, 0, 0) = t := ⟨_, rfl⟩
        rw [ht] at x1 x2 x3
        obtain ⟨U, R, V⟩ := t
        have HT := Lib.hid ht
        subst hA
        have k1 := (HBR.out.cell (p := ⟨b, off + k * 3, none⟩) (by show b < _; omega)).trans x1
        have k2 := (HBR.out.cell (p := ⟨b, off + k * 3 + 1, none⟩) (by show b < _; omega)).trans x2
        have k3 := (HBR.out.cell (p := ⟨b, off + k * 3 + 2, none⟩) (by show b < _; omega)).trans x3
        obtain ⟨W1, hW1⟩ : ∃ W1, wr.alloc (.cells #[.int .i64 U, .int .i64 R, .int .i64 V] 39) = W1 := ⟨_, rfl⟩
        have hb1 : Below wr.heap.size wr W1 := by rw [← hW1]; exact (Below.refl _ _).alloc (Nat.le_refl _) _
        have hbx : Blk W1 wr.heap.size 39 #[.int .i64 U, .int .i64 R, .int .i64 V] := by rw [← hW1]; exact Blk.made _ _ _
        have y0 : W1.cell? ⟨wr.heap.size, 0, none⟩ = some (.int .i64 U) := hbx.cell 0
        have y1 : W1.cell? ⟨wr.heap.size, 1, none⟩ = some (.int .i64 R) := hbx.cell 1
        have y2 : W1.cell? ⟨wr.heap.size, 2, none⟩ = some (.int .i64 V) := hbx.cell 2
        have HB1 := Lib.hid (HBR.out.trans (hb1.mono hszr))
        clear hc ht x1 x2 x3 hl hbx hb1
        go_wp2_with fail
        refine (implConOk_any W1 U R V).mono ?_
        rintro e w2 ⟨rfl, hb2⟩
        have HB2 := Lib.hid (HB1.out.trans (hb2.mono HB1.out.size))
        clear hb2
        cases hok : Cs.cOk (U, R, V) with
        | true =>
          have HA2 : Hid (∀ j, j < k + 1 → Cs.cOk (l.getD j (0, 0, 0)) = true) := fun j hj => by
            by_cases e : j = k
            · subst e; rw [HT.out]; exact hok
            · exact HA.out j (by omega)
          clear hok
          go_wp2
          go_roundw
          case rel => exact ⟨k + 1, by omega, by go_num, HA2.out, HB2.out⟩
          case measure => simp [intOf]; omega
        | false =>
          have HF := Lib.hid (consOkR_bad (by rw [HL.out]; exact hlt) HT.out hok)
          clear hok
          go_wp2
          go_ret
          exact ⟨by rw [HF.out]; rfl, HB2.out⟩
      · obtain rfl : k = n := by omega
        have hkk : ¬ (k : Int) < (k : Int) := by omega
        have HF := Lib.hid (consOkR_all (l := l) (by rw [hl.1]; exact h24) (fun j hj => HA.out j (by rw [← hl.1]; exact hj)))
        clear hl
        go_wp2
        go_ret
        exact ⟨by rw [HF.out]; rfl, HBR.out⟩
  · have h24i : (24 : Int) < (n : Int) := by omega
    have HF := Lib.hid (consOkR_long (l := l) (by rw [hl.1]; exact h24))
    clear hl
    go_enter Tryd.func79, Tryd.ntmps79
    go_wp2
    go_ret
    exact ⟨by rw [HF.out]; rfl, Below.refl _ _⟩
end Go.Proofs.YtmbcjddahncocaaDoor
