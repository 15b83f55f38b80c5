/- The program's table of longest ways: longestPaths. -/
/- The table of longest ways, as the reference model makes it: l05Paths. -/
/- ConsLeast, of the program and of the reference model. -/
/- Words for memory: a row of pairs whose rows of tokens hold whatever; marks upon it, and what stays. -/
/- The laws' work on rows of pairs: equal, marked, held. -/
/- The laws' work on rows of pairs: marked. -/
import Derived.Test.YtmbcjddahncocaaDoorPtEdge
import Derived.ChangeKeysEq
import Derived.Laws.StructEq
import Derived.Laws.LoneSync
import Derived.Test.YtmbcjddahncocaaDoorSgMath
import Derived.Test.YtmbcjddahncocaaDoorPtOk
import Derived.Lib.SmallJoins
import Derived.Test.YtmbcjddahncocaaDoorCoMem

namespace Go.Proofs.YtmbcjddahncocaaDoor
open Go.RowKit
open Cs (Cn Tb)

/-- the walk's memory -/
structure LongW (w : World) (S : Nat) (E T : Tb) (k : Nat) (wr : World) : Prop where
  b0 : Blk wr w.heap.size 111 (tabA zeroT)
  b1 : Blk wr S 111 (tabA E)
  b2 : Blk wr (S + 1) 111 (tabA T)
  b3 : Blk wr (S + 2) 177 #[.int .i64 (k : Int)]
  bel : Below w.heap.size w wr
theorem LongW.later {w wr w' : World} {S k : Nat} {E T : Tb} (h : LongW w S E T k wr) (hb : Below wr.heap.size wr w') : LongW w S E T k w' :=
  ⟨Blk.below h.b0 hb h.b0.lt, Blk.below h.b1 hb h.b1.lt, Blk.below h.b2 hb h.b2.lt, Blk.below h.b3 hb h.b3.lt, h.bel.trans (hb.mono h.bel.size)⟩
end Go.Proofs.YtmbcjddahncocaaDoor

namespace Go.Proofs.YtmbcjddahncocaaDoor
open Go.RowKit
open Cs (Cn Tb)

theorem rowVs_succ (rw cp : Nat → Nat) (n g c : Nat) : rowVs (fun x => if x = n then g else rw x) (fun x => if x = n then c else cp x) (n + 1) = rowVs rw cp n ++ [.slice (some ⟨g, 0, none⟩) 6 c] := by
  unfold rowVs
  rw [List.range_succ, List.map_append]
  congr 1
  · apply List.map_congr_left
    intro k hk
    have : k ≠ n := by have := List.mem_range.1 hk; omega
    simp [this]
  · simp
/-- one row more -/
theorem TabN.more {w : World} {base g cap n : Nat} {rw cp : Nat → Nat} {d : Tb} {g' c' : Nat} (hrow : ∀ i, i < n → OwnI w base (some ⟨rw i, 0, none⟩) 6 (cp i) (rowL d i)) (hinj : ∀ i j, i < n → j < n → rw i = rw j → i = j)
    (hlt : ∀ i, i < n → rw i < g') (hnew : OwnI w base (some ⟨g', 0, none⟩) 6 c' (rowL d n)) (hout : w.ownsRow base 28 1 (.slice (some ⟨g, 0, none⟩) (n + 1) cap) (n + 1) (rowVs rw cp n ++ [.slice (some ⟨g', 0, none⟩) 6 c'])) :
    TabN w base g cap (n + 1) (fun x => if x = n then g' else rw x) (fun x => if x = n then c' else cp x) d := by
  refine ⟨by rw [rowVs_succ]; exact hout, fun i hi => ?_, fun i j hi hj e => ?_⟩
  · by_cases e : i = n
    · subst e; simp only [if_true]; exact hnew
    · simp only [if_neg e]; exact hrow i (by omega)
  · by_cases e1 : i = n
    · by_cases e2 : j = n
      · omega
      · simp only [if_pos e1, if_neg e2] at e
        have := hlt j (by omega)
        omega
    · by_cases e2 : j = n
      · simp only [if_neg e1, if_pos e2] at e
        have := hlt i (by omega)
        omega
      · simp only [if_neg e1, if_neg e2] at e
        exact hinj i j (by omega) (by omega) e
theorem TabN.drew {w : World} {base g cap n : Nat} {rw cp : Nat → Nat} {d : Tb} (h : TabN w base g cap n rw cp d) : TabN w.drew base g cap n rw cp d := h.below (Below.refl _ _).drew
/-- the table's bounds -/
def Bnd (M : Int) (d : Tb) : Prop := ∀ a b, -1 ≤ d a b ∧ d a b ≤ M
theorem Bnd.put {M : Int} {d : Tb} (h : Bnd M d) (i j : Nat) {x : Int} (h1 : -1 ≤ x) (h2 : x ≤ M) : Bnd M (Cs.put d i j x) := fun a b => by
  unfold Cs.put
  split
  · exact ⟨h1, h2⟩
  · exact h a b
theorem Bnd.base : Bnd 1 Cs.base := fun a b => by unfold Cs.base; split <;> omega
theorem Bnd.relax {d : Tb} (h : Bnd 1000 d) (k i j : Nat) : Bnd 1000 (Cs.relax k i j d) := by
  unfold Cs.relax
  split
  · have := h i j
    exact h.put _ _ (by omega) (by omega)
  · exact h
end Go.Proofs.YtmbcjddahncocaaDoor

namespace Go.Proofs.YtmbcjddahncocaaDoor
open Go.RowKit
open Cs (Cn Tb)

theorem own_spot {w : World} {base g n c size : Nat} {e : TypeId} {xs : List Value} (h : w.ownsRow base e size (.slice (some ⟨g, 0, none⟩) n c) n xs) {i : Nat} {u : Value} (hu : xs[i]? = some u) : w.cell? ⟨g, i, none⟩ = some u ∧ w.frozen? ⟨g, i, none⟩ = false := by
  have h1 := h.cells (g := g) rfl i u hu
  rw [own_adds] at h1
  refine ⟨h1, ?_⟩
  rcases h.2 with ⟨h0, _⟩ | ⟨g', cap, cur, hv, hb, hgg, _⟩
  · cases h0
  · injection hv with e1
    injection e1 with e1
    injection e1 with e1
    rw [e1]
    exact Blk.thawed (w := w) hgg i
end Go.Proofs.YtmbcjddahncocaaDoor

namespace Go.Proofs.YtmbcjddahncocaaDoor
open Go.RowKit

def pwV (rb rc ln : Nat → Nat) (fl : Nat → Bool) (i : Nat) : List Value := [.slice (some ⟨rb (2 * i), 0, none⟩) (ln (2 * i)) (rc (2 * i)), .bool (fl i), .slice (some ⟨rb (2 * i + 1), 0, none⟩) (ln (2 * i + 1)) (rc (2 * i + 1))]
def pwVs (rb rc ln : Nat → Nat) (fl : Nat → Bool) (n : Nat) : List Value := (List.range n).flatMap (pwV rb rc ln fl)
theorem pwVs_succ (rb rc ln : Nat → Nat) (fl : Nat → Bool) (n : Nat) : pwVs rb rc ln fl (n + 1) = pwVs rb rc ln fl n ++ pwV rb rc ln fl n := by
  unfold pwVs
  rw [List.range_succ, List.flatMap_append]
  simp
theorem pwVs_len (rb rc ln : Nat → Nat) (fl : Nat → Bool) : ∀ n, (pwVs rb rc ln fl n).length = n * 3
  | 0 => rfl
  | n + 1 => by rw [pwVs_succ, List.length_append, pwVs_len rb rc ln fl n]; simp [pwV]; omega
theorem pwVs_get (rb rc ln : Nat → Nat) (fl : Nat → Bool) : ∀ {n i j : Nat}, i < n → j < 3 → (pwVs rb rc ln fl n)[i * 3 + j]? = (pwV rb rc ln fl i)[j]?
  | 0, _, _, h, _ => absurd h (by omega)
  | n + 1, i, j, h, hj => by
    rw [pwVs_succ]
    by_cases e : i < n
    · rw [List.getElem?_append_left (by rw [pwVs_len]; omega), pwVs_get rb rc ln fl e hj]
    · obtain rfl : i = n := by omega
      rw [List.getElem?_append_right (by rw [pwVs_len]; omega), pwVs_len]
      congr 1
      omega
theorem pwVs_set (rb rc ln : Nat → Nat) (fl : Nat → Bool) {n i : Nat} (b : Bool) (hi : i < n) : (pwVs rb rc ln fl n).set (i * 3 + 1) (.bool b) = pwVs rb rc ln (fun q => if q = i then b else fl q) n := by
  apply List.ext_getElem?
  intro q
  rw [List.getElem?_set]
  by_cases hq : q < n * 3
  · obtain ⟨a, j, rfl, ha, hj⟩ : ∃ a j, q = a * 3 + j ∧ a < n ∧ j < 3 := ⟨q / 3, q % 3, by omega, by omega, by omega⟩
    rw [pwVs_get _ _ _ _ ha hj, pwVs_get _ _ _ _ ha hj, pwVs_len]
    by_cases e : i * 3 + 1 = a * 3 + j
    · obtain rfl : a = i := by omega
      obtain rfl : j = 1 := by omega
      rw [if_pos rfl, if_pos (by omega)]
      simp [pwV]
    · rw [if_neg e]
      have hj' : j = 0 ∨ j = 1 ∨ j = 2 := by omega
      rcases hj' with rfl | rfl | rfl
      · simp [pwV]
      · have : a ≠ i := fun h => e (by rw [h])
        simp [pwV, this]
      · simp [pwV]
  · rw [if_neg (by omega), List.getElem?_eq_none (by rw [pwVs_len]; omega), List.getElem?_eq_none (by rw [pwVs_len]; omega)]

structure PairW (w : World) (lo hi : Nat) (A : Option Addr) (cap n : Nat) (rb rc ln : Nat → Nat) (fl : Nat → Bool) (vals : Nat → List Value) : Prop where
  out : w.ownsRow lo 58 3 (.slice A n cap) n (pwVs rb rc ln fl n)
  row : ∀ i, i < 2 * n → w.ownsRow lo 48 2 (.slice (some ⟨rb i, 0, none⟩) (ln i) (rc i)) (ln i) (vals i)
  inj : ∀ i j, i < 2 * n → j < 2 * n → rb i = rb j → i = j
  inA : InR (.slice A n cap) lo hi
  inB : ∀ i, i < 2 * n → lo ≤ rb i ∧ rb i < hi
section
variable {w w' : World} {lo hi n cap : Nat} {A : Option Addr} {rb rc ln : Nat → Nat} {fl : Nat → Bool} {vals : Nat → List Value}
theorem PairW.below (h : PairW w lo hi A cap n rb rc ln fl vals) (hb : Below w.heap.size w w') : PairW w' lo hi A cap n rb rc ln fl vals :=
  ⟨own_below' h.out hb, fun i hi => own_below' (h.row i hi) hb, h.inj, h.inA, h.inB⟩
theorem PairW.form (h : PairW w lo hi A cap n rb rc ln fl vals) (hn : 0 < n) : ∃ g, A = some ⟨g, 0, none⟩ := by
  obtain ⟨g, c, e⟩ := Go.Joins.ownsRow_form h.out hn
  injection e with e1 e2 e3
  exact ⟨g, e1⟩
theorem row_in (b m c : Nat) : InR (.slice (some ⟨b, 0, none⟩) m c) b (b + 1) := fun k hk => by have h' : b = k := (by simpa [Value.ownBlock] using hk); omega
/-- marks elsewhere -/
theorem PairW.other {base size m k : Nat} {e : TypeId} {v : Value} {lo' hi' : Nat} (h : PairW w lo hi A cap n rb rc ln fl vals) (hm : MarkOut w base e size v m k w') (hv : InR v lo' hi') (hd : hi ≤ lo' ∨ hi' ≤ lo) : PairW w' lo hi A cap n rb rc ln fl vals :=
  ⟨markKept h.out hm hv h.inA (by omega), fun i hi' => markKept (h.row i hi') hm hv (row_in _ _ _) (by have := h.inB i hi'; omega), h.inj, h.inA, h.inB⟩
theorem PairW.kept {g g' : Nat} (h : PairW w lo hi A cap n rb rc ln fl vals) (hk : LKept w g g' w') (hd : g' ≤ lo ∨ hi ≤ g) : PairW w' lo hi A cap n rb rc ln fl vals :=
  ⟨hk.kept h.out h.inA hd, fun i hi' => hk.kept (h.row i hi') (row_in _ _ _) (by have := h.inB i hi'; omega), h.inj, h.inA, h.inB⟩
/-- a row of it is marked -/
theorem PairW.mark {i k : Nat} (h : PairW w lo hi A cap n rb rc ln fl vals) (hi' : i < 2 * n) (hm : MarkOut w lo 48 2 (.slice (some ⟨rb i, 0, none⟩) (ln i) (rc i)) (ln i) k w') :
    PairW w' lo hi A cap n rb rc ln fl (fun q => if q = i then marks k (ln i * 2) else vals q) := by
  refine ⟨h.out.kept hm.1 ?_, fun q hq => ?_, h.inj, h.inA, h.inB⟩
  · exact own_apartK h.out (h.row i hi') (by decide)
  · by_cases e : q = i
    · subst e
      rw [if_pos rfl]
      exact hm.2.2
    · rw [if_neg e]
      refine (h.row q hq).kept hm.1 (.inr fun he => e (h.inj q i hq hi' ?_))
      have h1 : some (rb q) = some (rb i) := he
      injection h1
/-- a flag of it is set -/
theorem PairW.flag {g i : Nat} (h : PairW w lo hi (some ⟨g, 0, none⟩) cap n rb rc ln fl vals) (hi' : i < n) (b : Bool) :
    PairW (w.setCell ⟨g, i * 3 + 1, none⟩ (.bool b)) lo hi (some ⟨g, 0, none⟩) cap n rb rc ln (fun q => if q = i then b else fl q) vals := by
  refine ⟨?_, fun q hq => ?_, h.inj, h.inA, h.inB⟩
  · rw [← pwVs_set rb rc ln fl b hi']
    exact own_put h.out _ _
  · refine ownsRow_setCell_other (h.row q hq) ?_ _
    rcases own_apartK (h.row q hq) h.out (by decide) with e | e
    · rw [e]; exact fun h => nomatch h
    · exact e
theorem LKept.put {w wr : World} {g hi : Nat} (h : LKept w g hi wr) {p : Addr} (h1 : g ≤ p.block) (h2 : p.block < hi) (u : Value) : LKept w g hi (wr.setCell p u) :=
  ⟨fun B w0 hb hB => (h.1 B w0 hb hB).setCell (Nat.le_trans hB h1) u, fun base' e' size' n' u' xs lo' hi' hu hi1 hd => ownsRow_setCell_other (h.kept hu hi1 hd) (fun he => by have := hi1 _ he; omega) u, by rw [World.size_setCell, h.2.2]⟩
theorem LKept.refl (w : World) (g hi : Nat) : LKept w g hi w := ⟨fun _ _ hb _ => hb, fun _ _ _ _ _ _ _ _ hu _ _ => hu, rfl⟩
/-- the cells of pair i -/
theorem PairW.spots {g i : Nat} (h : PairW w lo hi (some ⟨g, 0, none⟩) cap n rb rc ln fl vals) (hi' : i < n) :
    w.cell? ⟨g, i * 3, none⟩ = some (.slice (some ⟨rb (2 * i), 0, none⟩) (ln (2 * i)) (rc (2 * i))) ∧ w.cell? ⟨g, i * 3 + 1, none⟩ = some (.bool (fl i)) ∧ w.cell? ⟨g, i * 3 + 2, none⟩ = some (.slice (some ⟨rb (2 * i + 1), 0, none⟩) (ln (2 * i + 1)) (rc (2 * i + 1))) ∧ w.frozen? ⟨g, i * 3 + 1, none⟩ = false := by
  have a0 := own_spot h.out (i := i * 3 + 0) (pwVs_get rb rc ln fl hi' (by decide))
  have a1 := own_spot h.out (i := i * 3 + 1) (pwVs_get rb rc ln fl hi' (by decide))
  have a2 := own_spot h.out (i := i * 3 + 2) (pwVs_get rb rc ln fl hi' (by decide))
  exact ⟨a0.1, a1.1, a2.1, a1.2⟩
end
/-- the rows of tokens of a list of pairs -/
def toks (ps : List Pr) (i : Nat) : List (Int × Int) := if i % 2 = 0 then (ps.getD (i / 2) pr0).1 else (ps.getD (i / 2) pr0).2.2
theorem toks_a (ps : List Pr) (i : Nat) : toks ps (2 * i) = (ps.getD i pr0).1 := by unfold toks; rw [if_pos (by omega), show 2 * i / 2 = i by omega]
theorem toks_b (ps : List Pr) (i : Nat) : toks ps (2 * i + 1) = (ps.getD i pr0).2.2 := by unfold toks; rw [if_neg (by omega), show (2 * i + 1) / 2 = i by omega]
abbrev PairP (w : World) (lo hi : Nat) (A : Option Addr) (cap n : Nat) (ps : List Pr) (rb rc : Nat → Nat) : Prop := PairW w lo hi A cap n rb rc (fun i => (toks ps i).length) (fun i => (ps.getD i pr0).2.1) (fun i => tokCells (toks ps i))
theorem PairO.words {w : World} {base n cap : Nat} {A : Option Addr} {ps : List Pr} {rb rc : Nat → Nat} (h : PairO w base A cap n ps rb rc) : PairP w base w.heap.size A cap n ps rb rc := by
  have hv : pwVs rb rc (fun i => (toks ps i).length) (fun i => (ps.getD i pr0).2.1) n = pairVs rb rc ps := by
    unfold pwVs pairVs
    rw [h.len]
    exact flatMap_eq fun i _ => by unfold pwV pairV; simp only [toks_a, toks_b]
  have hr : ∀ i, i < 2 * n → w.ownsRow base 48 2 (.slice (some ⟨rb i, 0, none⟩) (toks ps i).length (rc i)) (toks ps i).length (tokCells (toks ps i)) := by
    intro i hi
    rcases Nat.mod_two_eq_zero_or_one i with e | e
    · obtain ⟨j, rfl⟩ : ∃ j, i = 2 * j := ⟨i / 2, by omega⟩
      rw [toks_a]
      exact h.rowA j (by omega)
    · obtain ⟨j, rfl⟩ : ∃ j, i = 2 * j + 1 := ⟨i / 2, by omega⟩
      rw [toks_b]
      exact h.rowB j (by omega)
  exact ⟨by rw [hv]; exact h.out, hr, h.inj, own_in h.out, fun i hi => (hr i hi).lt (rb i) rfl⟩
end Go.Proofs.YtmbcjddahncocaaDoor

namespace Go.Proofs.YtmbcjddahncocaaDoor
open Go.RowKit

/-- where the marks of pair i begin -/
def pos (ln : Nat → Nat) (k : Nat) : Nat → Nat
  | 0 => k
  | i + 1 => pos ln k i + ln (2 * i) * 2 + 1 + ln (2 * i + 1) * 2
def mk (ln : Nat → Nat) (k i : Nat) : Nat := if i % 2 = 0 then pos ln k (i / 2) else pos ln k (i / 2) + ln (i - 1) * 2 + 1
def mv (ln : Nat → Nat) (k i : Nat) : List Value := marks (mk ln k i) (ln i * 2)
def mf (ln : Nat → Nat) (k i : Nat) : Bool := decide ((pos ln k i + ln (2 * i) * 2) % 3 = 0)
theorem mk_a (ln : Nat → Nat) (k i : Nat) : mk ln k (2 * i) = pos ln k i := by unfold mk; rw [if_pos (by omega), show 2 * i / 2 = i by omega]
theorem mk_b (ln : Nat → Nat) (k i : Nat) : mk ln k (2 * i + 1) = pos ln k i + ln (2 * i) * 2 + 1 := by unfold mk; rw [if_neg (by omega), show (2 * i + 1) / 2 = i by omega, show 2 * i + 1 - 1 = 2 * i by omega]
theorem pos_le (ln : Nat → Nat) (k : Nat) : ∀ {n : Nat}, (∀ i, i < 2 * n → ln i ≤ 24) → pos ln k n ≤ k + n * 97
  | 0, _ => Nat.le_refl _
  | n + 1, h => by
    have := pos_le ln k (n := n) fun i hi => h i (by omega)
    have h1 := h (2 * n) (by omega)
    have h2 := h (2 * n + 1) (by omega)
    show pos ln k n + ln (2 * n) * 2 + 1 + ln (2 * n + 1) * 2 ≤ _
    omega

set_option maxRecDepth 100000 in
set_option maxHeartbeats 1600000 in
theorem eqPair_any (w : World) (B : Nat) (A1 A2 A3 A4 : Option Addr) (n m c1 c2 c3 c4 : Nat) (b : Bool) (l l2 : List (Int × Int)) (hB : B ≤ w.heap.size) (h1 : TokR w B A1 n l) (h2 : TokR w B A2 n l) (h3 : TokR w B A3 m l2) (h4 : TokR w B A4 m l2) (hn : n ≤ 1048576) (hm : m ≤ 1048576) :
    Calls Tryd.prog 109 #[.agg #[.slice A1 n c1, .bool b, .slice A3 m c3], .agg #[.slice A2 n c2, .bool b, .slice A4 m c4]] w fun e w' => e = .returned (.bool true) ∧ Below w.heap.size w w' := by
  have hb : Below w.heap.size w ((w.alloc (.cells #[.slice A1 n c1, .bool b, .slice A3 m c3] 58)).alloc (.cells #[.slice A2 n c2, .bool b, .slice A4 m c4] 58)) := ((Below.refl _ _).alloc (Nat.le_refl _) _).alloc (by simp) _
  have HK1 := Lib.hid (h1.below (hb.mono hB))
  have HK2 := Lib.hid (h2.below (hb.mono hB))
  have HK3 := Lib.hid (h3.below (hb.mono hB))
  have HK4 := Lib.hid (h4.below (hb.mono hB))
  have k1 : Blk ((w.alloc (.cells #[.slice A1 n c1, .bool b, .slice A3 m c3] 58)).alloc (.cells #[.slice A2 n c2, .bool b, .slice A4 m c4] 58)) w.heap.size 58 #[.slice A1 n c1, .bool b, .slice A3 m c3] := (Blk.made w 58 _).alloc _
  have k2 : Blk ((w.alloc (.cells #[.slice A1 n c1, .bool b, .slice A3 m c3] 58)).alloc (.cells #[.slice A2 n c2, .bool b, .slice A4 m c4] 58)) (w.heap.size + 1) 58 #[.slice A2 n c2, .bool b, .slice A4 m c4] := by
    have h := Blk.made (w.alloc (.cells #[.slice A1 n c1, .bool b, .slice A3 m c3] 58)) 58 #[.slice A2 n c2, .bool b, .slice A4 m c4]
    rwa [World.size_alloc] at h
  have HB1 := Lib.hid k1
  have HB2 := Lib.hid k2
  have HB := Lib.hid hb
  clear hb h1 h2 h3 h4 k1 k2
  obtain ⟨hbb, _⟩ : (b = true ∨ b = false) ∧ True := ⟨by cases b <;> simp, trivial⟩
  go_enter Tryd.func109, Tryd.ntmps109
  go_wp2_with fail
  refine (eqTokS_any _ B A1 A2 n n c1 c2 l l (by simp; omega) HK1.out HK2.out (by omega) (by omega)).mono ?_
  rintro e w1 ⟨rfl, hb1⟩
  rw [decide_eq_true rfl]
  simp only [World.size_alloc] at hb1
  have q1 := HB1.out.below hb1 (by omega)
  have q2 := HB2.out.below hb1 (by omega)
  have d1 : w1.cell? ⟨w.heap.size, 1, none⟩ = some (.bool b) := q1.cell 1
  have d2 : w1.cell? ⟨w.heap.size + 1, 1, none⟩ = some (.bool b) := q2.cell 1
  have d3 : w1.cell? ⟨w.heap.size, 2, none⟩ = some (.slice A3 m c3) := q1.cell 2
  have d4 : w1.cell? ⟨w.heap.size + 1, 2, none⟩ = some (.slice A4 m c4) := q2.cell 2
  have HP1 := Lib.hid (HB.out.trans (hb1.mono (by omega)))
  have HK3' := Lib.hid (HK3.out.below (hb1.mono (by omega)))
  have HK4' := Lib.hid (HK4.out.below (hb1.mono (by omega)))
  have hs1 : w.heap.size + 1 + 1 ≤ w1.heap.size := by have := hb1.size; simpa only [World.size_alloc] using this
  clear q1 q2 hb1
  rcases hbb with rfl | rfl
  all_goals
   go_wp2_with fail
   refine (eqTokS_any w1 B A3 A4 m m c3 c4 l2 l2 (by omega) HK3'.out HK4'.out (by omega) (by omega)).mono ?_
   rintro e w2 ⟨rfl, hb2⟩
   rw [decide_eq_true rfl]
   have HP2 := Lib.hid (HP1.out.trans (hb2.mono (by omega)))
   clear hb2
   go_wp2
   go_ret
   exact ⟨rfl, HP2.out⟩
set_option maxRecDepth 100000 in
set_option maxHeartbeats 1600000 in
theorem eqPairS_any (w : World) (lo1 hi1 lo2 hi2 : Nat) (A1 A2 : Option Addr) (n c1 c2 : Nat) (ps : List Pr) (rb1 rc1 rb2 rc2 : Nat → Nat) (h1 : PairP w lo1 hi1 A1 c1 n ps rb1 rc1) (h2 : PairP w lo2 hi2 A2 c2 n ps rb2 rc2) (hn : n ≤ 1048576) (hl : ∀ i, i < 2 * n → (toks ps i).length ≤ 24) :
    Calls Tryd.prog 52 #[.slice A1 n c1, .slice A2 n c2] w fun e w' => e = .returned (.bool true) ∧ Below w.heap.size w w' := by
  have en : ((n : Int) != (n : Int)) = false := by simp
  have HL := Lib.hid hl
  clear hl
  go_enter Tryd.func52, Tryd.ntmps52
  go_wp2
  go_loopw [5] (fun i wr => ∃ k : Nat, k ≤ n ∧ i = .int .i64 k ∧ Below w.heap.size w wr) (fun i _ => n - (intOf i).toNat)
  case atStart => exact ⟨0, Nat.zero_le _, rfl, Below.refl _ _⟩
  case round =>
    obtain ⟨k, hk, rfl, hbel⟩ := hrel
    have hszr := hbel.size
    by_cases hlt : k < n
    · have l1 := h1.below hbel
      have l2 := h2.below hbel
      obtain ⟨g1, rfl⟩ := l1.form (by omega)
      obtain ⟨g2, rfl⟩ := l2.form (by omega)
      obtain ⟨a0, a1, a2, _⟩ := l1.spots hlt
      obtain ⟨b0, b1, b2, _⟩ := l2.spots hlt
      have ra1 := OwnT.reads (l1.row (2 * k) (by omega))
      have rb1' := OwnT.reads (l1.row (2 * k + 1) (by omega))
      have ra2 := OwnT.reads (l2.row (2 * k) (by omega))
      have rb2' := OwnT.reads (l2.row (2 * k + 1) (by omega))
      have hla := HL.out (2 * k) (by omega)
      have hlb := HL.out (2 * k + 1) (by omega)
      have HH1 := Lib.hid h1
      have HH2 := Lib.hid h2
      obtain ⟨ta, hta⟩ : ∃ t, toks ps (2 * k) = t := ⟨_, rfl⟩
      obtain ⟨tb, htb⟩ : ∃ t, toks ps (2 * k + 1) = t := ⟨_, rfl⟩
      obtain ⟨fb, hfb⟩ : ∃ t, (ps.getD k pr0).2.1 = t := ⟨_, rfl⟩
      simp only [hta, htb, hfb] at a0 a1 a2 b0 b1 b2 ra1 rb1' ra2 rb2' hla hlb
      obtain ⟨na, hna⟩ : ∃ t, ta.length = t := ⟨_, rfl⟩
      obtain ⟨nb, hnb⟩ : ∃ t, tb.length = t := ⟨_, rfl⟩
      rw [hna] at a0 b0 ra1 ra2 hla
      rw [hnb] at a2 b2 rb1' rb2' hlb
      have HR1 := Lib.hid ra1
      have HR2 := Lib.hid ra2
      have HR3 := Lib.hid rb1'
      have HR4 := Lib.hid rb2'
      clear h1 h2 l1 l2 ra1 ra2 rb1' rb2' hta htb hfb hna hnb
      go_wp2_with fail
      refine region_tail 8 (by kernel_rfl) (by kernel_rfl) ?_
      simp only [List.take_succ_cons, List.take_zero, List.drop_succ_cons, List.drop_zero]
      repeat still_step
      refine wpStill_nil ?_
      go_wp2_with fail
      refine (eqPair_any wr.drew wr.heap.size _ _ _ _ na nb _ _ _ _ fb ta tb (Nat.le_refl _) HR1.out HR2.out HR3.out HR4.out (by omega) (by omega)).mono ?_
      rintro e w1 ⟨rfl, hb1⟩
      have HB := Lib.hid (hbel.drew.trans (hb1.mono hszr))
      clear hb1
      go_wp2
      go_roundw
      case rel => exact ⟨k + 1, by omega, by go_num, HB.out⟩
      case measure => simp [intOf]; omega
    · obtain rfl : k = n := by omega
      go_wp2
      go_ret
      exact ⟨rfl, hbel⟩
end Go.Proofs.YtmbcjddahncocaaDoor

namespace Go.Proofs.YtmbcjddahncocaaDoor
open Go.RowKit

/-- rows and flags behind the marks of the first j pairs -/
def upV (vals : Nat → List Value) (ln : Nat → Nat) (k j : Nat) (q : Nat) : List Value := if q < j then mv ln k q else vals q
def upF (fl : Nat → Bool) (ln : Nat → Nat) (k j : Nat) (q : Nat) : Bool := if q < j then mf ln k q else fl q
theorem upV_step (vals : Nat → List Value) (ln : Nat → Nat) (k j m : Nat) (h : mk ln k j = m) : (fun q => if q = j then marks m (ln j * 2) else upV vals ln k j q) = upV vals ln k (j + 1) := by
  subst h
  funext q
  unfold upV
  by_cases e : q = j
  · subst e
    rw [if_pos rfl, if_pos (by omega)]
    rfl
  · rw [if_neg e]
    by_cases e2 : q < j
    · rw [if_pos e2, if_pos (by omega)]
    · rw [if_neg e2, if_neg (by omega)]
theorem upF_step (fl : Nat → Bool) (ln : Nat → Nat) (k j : Nat) (b : Bool) (h : mf ln k j = b) : (fun q => if q = j then b else upF fl ln k j q) = upF fl ln k (j + 1) := by
  subst h
  funext q
  unfold upF
  by_cases e : q = j
  · subst e
    rw [if_pos rfl, if_pos (by omega)]
  · rw [if_neg e]
    by_cases e2 : q < j
    · rw [if_pos e2, if_pos (by omega)]
    · rw [if_neg e2, if_neg (by omega)]
/-- a row of pairs, all of it marked -/
abbrev PairK (w : World) (lo hi : Nat) (A : Option Addr) (cap n : Nat) (rb rc ln : Nat → Nat) (k : Nat) : Prop := PairW w lo hi A cap n rb rc ln (mf ln k) (mv ln k)
theorem up_all {w : World} {lo hi n cap k : Nat} {A : Option Addr} {rb rc ln : Nat → Nat} {fl : Nat → Bool} {vals : Nat → List Value} (h : PairW w lo hi A cap n rb rc ln (upF fl ln k n) (upV vals ln k (2 * n))) : PairK w lo hi A cap n rb rc ln k := by
  refine ⟨?_, fun i hi' => ?_, h.inj, h.inA, h.inB⟩
  · have hv : pwVs rb rc ln (mf ln k) n = pwVs rb rc ln (upF fl ln k n) n := flatMap_eq fun i hi => by
      rw [List.mem_range] at hi
      unfold pwV upF
      rw [if_pos hi]
    rw [hv]
    exact h.out
  · have := h.row i hi'
    unfold upV at this
    rwa [if_pos hi'] at this

set_option maxRecDepth 100000 in
set_option maxHeartbeats 3200000 in
theorem markPairS_any (w : World) (lo hi : Nat) (A : Option Addr) (n c : Nat) (rb rc ln : Nat → Nat) (fl : Nat → Bool) (vals : Nat → List Value) (h : PairW w lo hi A c n rb rc ln fl vals) (k : Nat) (hn : n ≤ 10000) (hl : ∀ i, i < 2 * n → ln i ≤ 24) (hk : k ≤ 10000) (hlo : lo ≤ w.heap.size) :
    Calls Tryd.prog 56 #[.slice A n c, .int .i64 k] w fun e w' => e = .returned (.int .i64 ((pos ln k n : Nat) : Int)) ∧ LKept w lo hi w' ∧ PairK w' lo hi A c n rb rc ln k := by
  have HL := Lib.hid hl
  have HS : Hid (PairW w lo hi A c n rb rc ln (upF fl ln k 0) (upV vals ln k (2 * 0))) := by
    have e1 : upF fl ln k 0 = fl := by funext q; unfold upF; rw [if_neg (by omega)]
    have e2 : upV vals ln k (2 * 0) = vals := by funext q; unfold upV; rw [if_neg (by omega)]
    show PairW _ _ _ _ _ _ _ _ _ _ _
    rw [e1, e2]
    exact h
  clear hl h
  go_enter Tryd.func56, Tryd.ntmps56
  go_wp2
  go_loopw [1, 5] (fun m i wr => ∃ j : Nat, j ≤ n ∧ i = .int .i64 j ∧ m = .int .i64 ((pos ln k j : Nat) : Int) ∧ Hid (LKept w lo hi wr) ∧ Hid (PairW wr lo hi A c n rb rc ln (upF fl ln k j) (upV vals ln k (2 * j)))) (fun _ i _ => n - (intOf i).toNat)
  case atStart => exact ⟨0, Nat.zero_le _, rfl, rfl, LKept.refl _ _ _, HS.out⟩
  case round =>
    clear HS
    obtain ⟨j, hj, rfl, rfl, hkept, hP⟩ := hrel
    by_cases hlt : j < n
    · obtain ⟨g, rfl⟩ := hP.out.form (by omega)
      obtain ⟨a0, a1, a2, _⟩ := hP.out.spots hlt
      have hla := HL.out (2 * j) (by omega)
      have hlb := HL.out (2 * j + 1) (by omega)
      have hpj := pos_le ln k (n := j) fun i hi' => HL.out i (by omega)
      have hps : pos ln k (j + 1) = pos ln k j + ln (2 * j) * 2 + 1 + ln (2 * j + 1) * 2 := rfl
      have hmf : mf ln k j = decide ((pos ln k j + ln (2 * j) * 2) % 3 = 0) := rfl
      have hma := mk_a ln k j
      have hmb := mk_b ln k j
      obtain ⟨na, hna⟩ : ∃ t, ln (2 * j) = t := ⟨_, rfl⟩
      obtain ⟨nb, hnb⟩ : ∃ t, ln (2 * j + 1) = t := ⟨_, rfl⟩
      obtain ⟨p, hp⟩ : ∃ t, pos ln k j = t := ⟨_, rfl⟩
      rw [hp] at hma hmb hpj hps hmf
      rw [hna] at a0 hla hps hmb hmf
      rw [hnb] at a2 hlb hps
      have hR := hP.out.row (2 * j) (by omega)
      rw [hna] at hR
      have HR := Lib.hid hR
      have HNA := Lib.hid hna
      have HNB := Lib.hid hnb
      have HMA := Lib.hid hma
      have HMB := Lib.hid hmb
      have HMF := Lib.hid hmf
      have HPS := Lib.hid hps
      have hp3 : p ≤ 3000000 := by omega
      have hia := hP.out.inA
      have hga : lo ≤ g ∧ g < hi := hia g rfl
      rw [hp]
      clear hR hna hnb hma hmb hmf hps hp a1 hia
      go_wp2_with fail
      refine (markTokS_any wr lo _ na _ _ HR.out p (by omega) hp3).mono ?_
      rintro e w1 ⟨rfl, hk1⟩
      have HK1 := Lib.hid (hkept.out.step hlo hk1 (row_in _ _ _) (hP.out.inB (2 * j) (by omega)).1 (by have := (hP.out.inB (2 * j) (by omega)).2; omega))
      have hP1 := hP.out.mark (k := p) (i := 2 * j) (by omega) (by rw [HNA.out]; exact hk1)
      rw [upV_step vals ln k (2 * j) p HMA.out] at hP1
      obtain ⟨_, b1, b2, hfz⟩ := hP1.spots hlt
      rw [HNB.out] at b2
      have HP1 := Lib.hid hP1
      have hBM : (((p : Int) + (na : Int) * 2) % 3 == 0) = mf ln k j := by
        rw [HMF.out]
        by_cases h3 : (p + na * 2) % 3 = 0
        · rw [decide_eq_true h3, beq_iff_eq]; omega
        · rw [decide_eq_false h3, beq_eq_false_iff_ne]; omega
      have HBM := Lib.hid hBM
      have hP2 := hP1.flag hlt (mf ln k j)
      rw [upF_step fl ln k j _ rfl] at hP2
      have HK2 : Hid (LKept w lo hi (w1.setCell ⟨g, j * 3 + 1, none⟩ (.bool (mf ln k j)))) := HK1.out.put (p := ⟨g, j * 3 + 1, none⟩) hga.1 hga.2 _
      have hR2 := hP2.row (2 * j + 1) (by omega)
      rw [HNB.out] at hR2
      have HR2 := Lib.hid hR2
      have HP2 := Lib.hid hP2
      clear hP1 hk1 hkept hP HR hBM hP2 hR2 HK1
      go_wp2_with fail
      rw [HBM.out]
      generalize hq : mf ln k j = fb at HP2 HR2 HK2 ⊢
      have e4 : (p : Int) + (na : Int) * 2 + 1 = ((p + na * 2 + 1 : Nat) : Int) := by omega
      rw [e4]
      refine (markTokS_any _ lo _ nb _ _ HR2.out (p + na * 2 + 1) (by omega) (by omega)).mono ?_
      rintro e w2 ⟨rfl, hk2⟩
      have HK3 := Lib.hid (HK2.out.step hlo hk2 (row_in _ _ _) (HP2.out.inB (2 * j + 1) (by omega)).1 (by have := (HP2.out.inB (2 * j + 1) (by omega)).2; omega))
      have hP3 := HP2.out.mark (k := p + na * 2 + 1) (i := 2 * j + 1) (by omega) (by rw [HNB.out]; exact hk2)
      rw [upV_step vals ln k (2 * j + 1) (p + na * 2 + 1) HMB.out] at hP3
      have HP3 := Lib.hid hP3
      clear hP3 hk2 HP2 HR2 HK2 e4
      go_wp2
      go_roundw
      case rel => exact ⟨j + 1, by omega, by go_num, by rw [HPS.out]; go_num, HK3.out, HP3.out⟩
      case measure => simp [intOf]; omega
    · obtain rfl : j = n := by omega
      go_wp2
      go_ret
      exact ⟨rfl, hkept.out, up_all hP.out⟩
end Go.Proofs.YtmbcjddahncocaaDoor
