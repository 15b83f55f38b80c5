/- pairUnder of the program: whether one pair of levels is ordered under a list. -/
/- The laws' work on slices of levels: their size, a copy. -/
/- Words for memory: a row of pairs whose rows of tokens hold whatever; marks upon it, and what stays. -/
/- PairsUnder of the program, over a row of pairs of the call's own. -/
/- The laws' work on rows of pairs: equal, marked, held. -/
import Derived.Test.YtgebjnoicgmdoaaGreatDoorPairM
import Derived.Test.YtgebjnoicgmdoaaGreatDoorSucc
import Derived.Test.YtgebjnoicgmdoaaGreatDoorDcMath
import Derived.Test.YtgebjnoicgmdoaaGreatDoorUnAtom
import Derived.Lib.SmallJoins
import Derived.Test.YtgebjnoicgmdoaaGreatDoorPtSat
import Derived.Test.YtgebjnoicgmdoaaGreatDoorSlc
import Derived.Test.YtgebjnoicgmdoaaGreatDoorMeth

namespace Go.Proofs.YtgebjnoicgmdoaaGreatDoor
open Go.RowKit
open Cs (Cn)

/-- whether a pair is ordered under a list -/
noncomputable def pairR (l : List Cn) (p : Pr) : Bool := if p.2.1 = true then (match succR p.1 1 with | some a => leUnR l a p.2.2 | none => false) else leUnR l p.1 p.2.2
theorem pairR_f (l : List Cn) (a b : List (Int × Int)) : pairR l (a, false, b) = leUnR l a b := if_neg (by simp)
theorem pairR_n {l : List Cn} {a b : List (Int × Int)} (h : succR a 1 = none) : pairR l (a, true, b) = false := by unfold pairR; rw [if_pos rfl, h]
theorem pairR_s {l : List Cn} {a b c : List (Int × Int)} (h : succR a 1 = some c) : pairR l (a, true, b) = leUnR l c b := by unfold pairR; rw [if_pos rfl, h]
set_option maxRecDepth 100000 in
set_option maxHeartbeats 3200000 in
theorem pairUnder_any (w : World) (B : Nat) (A : Option Addr) (n c : Nat) (l : List Cn) (A1 : Option Addr) (n1 c1 : Nat) (a : List (Int × Int)) (s : Bool) (A2 : Option Addr) (n2 c2 : Nat) (m : List (Int × Int)) (T : TypeId) (pv : Value) (Tc : TypeId) (pc : Value) (h0 : 1 < B) (h0c : 0 < B) (hB : B ≤ w.heap.size)
    (hA : SlOk A n c) (hl : ConR w B A n l) (hn : (n : Int) ≤ 140737488355328) (ha : TokR w B A1 n1 a) (hn1 : n1 ≤ 1048576) (hm : TokR w B A2 n2 m) (hn2 : n2 ≤ 1048576) (hE : ErrAt w T pv) (hEc : ErrCAt w Tc pc) :
    Calls Tryz.prog 83 #[.slice A n c, .agg #[.slice A1 n1 c1, .bool s, .slice A2 n2 c2]] w fun e w' => e = .returned (.bool (pairR l (a, s, m))) ∧ Below w.heap.size w w' := by
  have hb : Below w.heap.size w (w.alloc (.cells #[.slice A1 n1 c1, .bool s, .slice A2 n2 c2] 124)) := (Below.refl _ _).alloc (Nat.le_refl _) _
  have HE := Lib.hid (hE.below (hb.mono hB) h0)
  have HEc := Lib.hid (hEc.below (hb.mono hB) h0c)
  have HL := Lib.hid (hl.below (hb.mono hB))
  have HA := Lib.hid (ha.below (hb.mono hB))
  have HM := Lib.hid (hm.below (hb.mono hB))
  have HS := Lib.hid hA
  have HK : Hid (Blk (w.alloc (.cells #[.slice A1 n1 c1, .bool s, .slice A2 n2 c2] 124)) w.heap.size 124 #[.slice A1 n1 c1, .bool s, .slice A2 n2 c2]) := Blk.made _ _ _
  have HB := Lib.hid hb
  clear hE hEc hl ha hm hA hb
  cases s with
  | false =>
    have HR := Lib.hid (pairR_f l a m)
    go_enter Tryz.func83, Tryz.ntmps83
    go_wp2_with fail
    refine (implLeUnder_any _ B A n c l A1 n1 c1 a A2 n2 c2 m T pv Tc pc h0 h0c (by simp; omega) HS.out HL.out hn HA.out (by omega) HM.out (by omega) HE.out HEc.out).mono ?_
    rintro e w1 ⟨rfl, hb1⟩
    have HB1 := Lib.hid (HB.out.trans (hb1.mono (by simp)))
    clear hb1
    rw [← HR.out]
    go_wp2
    go_ret
    exact ⟨rfl, HB1.out⟩
  | true =>
    cases hs : succR a 1 with
    | none =>
      have HR := Lib.hid (pairR_n (l := l) (b := m) hs)
      have HSU := Lib.hid hs
      clear hs
      go_enter Tryz.func83, Tryz.ntmps83
      go_wp2_with fail
      refine (implSucc_any _ B A1 n1 c1 a 1 T pv h0 (by simp; omega) HA.out hn1 HE.out).mono ?_
      rw [HSU.out]
      rintro e w1 ⟨A3, c3, rfl, _, hb1⟩
      have HB1 := Lib.hid (HB.out.trans (hb1.mono (by simp)))
      clear hb1
      go_wp2
      go_ret
      exact ⟨by rw [HR.out]; rfl, HB1.out⟩
    | some d =>
      have HR := Lib.hid (pairR_s (l := l) (b := m) hs)
      have hd : d.length ≤ 1048576 := by
        have h := hs
        unfold succR at h
        split at h
        · rename_i h1
          injection h with h
          subst h
          have := h1.2.2
          have h2 : (sxs (1 : Int).toNat).length ≤ 24 := by decide
          rw [List.length_append]
          omega
        · cases h
      have HSU := Lib.hid hs
      clear hs
      go_enter Tryz.func83, Tryz.ntmps83
      go_wp2_with fail
      refine (implSucc_any _ B A1 n1 c1 a 1 T pv h0 (by simp; omega) HA.out hn1 HE.out).mono ?_
      rw [HSU.out]
      rintro e w1 ⟨A3, c3, rfl, ho3, hb1⟩
      have hs1 : w.heap.size + 1 ≤ w1.heap.size := by have := hb1.size; simpa only [World.size_alloc] using this
      have hk := HK.out.below hb1 (by simp)
      have e2 : w1.cell? ⟨w.heap.size, 2, none⟩ = some (.slice A2 n2 c2) := hk.cell 2
      have hbB := hb1.mono (show B ≤ _ by simp; omega)
      have HE1 := Lib.hid (HE.out.below hbB h0)
      have HEc1 := Lib.hid (HEc.out.below hbB h0c)
      have HL1 := Lib.hid ((HL.out.below hbB).more (show B ≤ w1.heap.size by omega))
      have HM1 := Lib.hid ((HM.out.below hbB).more (show B ≤ w1.heap.size by omega))
      have HD := Lib.hid (OwnT.reads ho3)
      have HB1 := Lib.hid (HB.out.trans (hb1.mono (by simp)))
      have hlen : (Option.getD (some d) []).length = d.length := rfl
      obtain ⟨q, hq⟩ : ∃ q, d.length = q := ⟨_, rfl⟩
      rw [hlen, hq] at HD ⊢
      rw [hq] at hd
      clear hb1 hk hbB ho3 hlen hq
      go_wp2_with fail
      refine (implLeUnder_any w1 w1.heap.size A n c l A3 q c3 d A2 n2 c2 m T pv Tc pc (by omega) (by omega) (Nat.le_refl _) HS.out HL1.out hn HD.out (by omega) HM1.out (by omega) HE1.out HEc1.out).mono ?_
      rintro e w2 ⟨rfl, hb2⟩
      have HB2 := Lib.hid (HB1.out.trans (hb2.mono (by omega)))
      clear hb2
      rw [← HR.out]
      go_wp2
      go_ret
      exact ⟨rfl, HB2.out⟩
end Go.Proofs.YtgebjnoicgmdoaaGreatDoor

namespace Go.Proofs.YtgebjnoicgmdoaaGreatDoor
open Go.RowKit

/-- what is left of a bound -/
def szR (left : Int) (m : Nat) : Int := if left < m then -1 else left - m
theorem szR_pos {left : Int} {m : Nat} (h : left < m) : szR left m = -1 := if_pos h
theorem szR_neg {left : Int} {m : Nat} (h : ¬ left < m) : szR left m = left - m := if_neg h

theorem TokOwn.tl {w : World} {g n : Nat} {l : List (Int × Int)} (h : TokOwn w g n l) : g < w.heap.size := by obtain ⟨_, cs, hblk, _⟩ := h; exact hblk.lt
theorem TokOwn.put {w : World} {g n : Nat} {l : List (Int × Int)} (h : TokOwn w g n l) {p : Addr} (hp : g ≠ p.block) (u : Value) : TokOwn (w.setCell p u) g n l := by
  obtain ⟨hl, cs, hblk, rest⟩ := h
  exact ⟨hl, cs, hblk.other hp u, rest⟩

/-- block g is a row of just n levels, those of ls, each with a row of tokens of its own; all of it lies in g .. hi - 1 -/
def LvlOwn (w : World) (g hi n : Nat) (ls : List (List (Int × Int))) : Prop :=
  ls.length = n ∧ g < hi ∧ hi ≤ w.heap.size ∧ ∃ gs : Nat → Nat, (∀ i, i < n → g < gs i ∧ gs i < hi) ∧ (∀ i j, i < j → j < n → gs i < gs j) ∧
    (∃ cs, Blk w g 53 cs ∧ cs.size = n ∧ ∀ i, i < n → cs[i]? = some (.slice (some ⟨gs i, 0, none⟩) (ls.getD i []).length (ls.getD i []).length)) ∧ ∀ i, i < n → TokOwn w (gs i) (ls.getD i []).length (ls.getD i [])

theorem LvlOwn.lt {w : World} {g hi n : Nat} {ls : List (List (Int × Int))} (h : LvlOwn w g hi n ls) : g + 1 ≤ w.heap.size := by have := h.2.1; have := h.2.2.1; omega
theorem LvlOwn.below {w w' : World} {g hi n B : Nat} {ls : List (List (Int × Int))} (h : LvlOwn w g hi n ls) (hb : Below B w w') (hB : hi ≤ B) : LvlOwn w' g hi n ls := by
  obtain ⟨h1, h2, h3, gs, h4, h5, ⟨cs, hblk, hs, hc⟩, h7⟩ := h
  have := hb.size
  exact ⟨h1, h2, by omega, gs, h4, h5, ⟨cs, hblk.below hb (by omega), hs, hc⟩, fun i hi' => (h7 i hi').below hb (by have := (h4 i hi').2; omega)⟩
theorem LvlOwn.reads {w : World} {g hi n : Nat} {ls : List (List (Int × Int))} (h : LvlOwn w g hi n ls) (hm : bulk ls ≤ 1048576) : LvlR w hi (some ⟨g, 0, none⟩) n ls := by
  obtain ⟨h1, h2, _, gs, h4, _, ⟨cs, hblk, hs, hc⟩, h7⟩ := h
  refine ⟨h1, fun _ => ⟨g, 0, rfl, h2, fun k hk => ⟨some ⟨gs k, 0, none⟩, (ls.getD k []).length, (ls.getD k []).length, ?_, (h7 k hk).reads.more (by have := (h4 k hk).2; omega), ?_⟩⟩⟩
  · rw [Nat.zero_add, hblk.cell]; exact hc k hk
  · have := tot_get ls k (by omega)
    unfold bulk at hm
    omega

theorem TokOwn.lt {w : World} {g n : Nat} {l : List (Int × Int)} (h : TokOwn w g n l) : g + 1 ≤ w.heap.size := h.tl
theorem TokOwn.mark {w w' : World} {g n base m k size : Nat} {e : TypeId} {v : Value} {l : List (Int × Int)} {lo hi : Nat} (h : TokOwn w g n l) (hm : MarkOut w base e size v m k w') (hv : InR v lo hi) (hd : g < lo ∨ hi ≤ g) : TokOwn w' g n l := by
  have hlt := h.lt
  obtain ⟨hl, cs, hblk, rest⟩ := h
  refine ⟨hl, cs, ?_, rest⟩
  exact (hm.1.block g (by omega) (fun he => by have := hv g he.symm; omega)).trans hblk
theorem LvlOwn.mark {w w' : World} {g h' n base m k size : Nat} {e : TypeId} {v : Value} {ls : List (List (Int × Int))} {lo hi : Nat} (h : LvlOwn w g h' n ls) (hm : MarkOut w base e size v m k w') (hv : InR v lo hi) (hd : h' ≤ lo ∨ hi ≤ g) : LvlOwn w' g h' n ls := by
  obtain ⟨h1, h2, h3, gs, h4, h5, ⟨cs, hblk, hs, hc⟩, h7⟩ := h
  exact ⟨h1, h2, by rw [hm.2.1]; exact h3, gs, h4, h5, ⟨cs, hblk.grown hm.1 (fun he => by have := hv g he.symm; omega), hs, hc⟩, fun i hi' => (h7 i hi').mark hm hv (by have := h4 i hi'; omega)⟩

/-- nothing outside of g .. hi - 1 has turned -/
def LKept (w : World) (g hi : Nat) (wr : World) : Prop :=
  (∀ (B : Nat) (w0 : World), Below B w0 w → B ≤ g → Below B w0 wr) ∧
  (∀ (base : Nat) (e : TypeId) (size n : Nat) (u : Value) (xs : List Value) (lo' hi' : Nat), w.ownsRow base e size u n xs → InR u lo' hi' → (hi ≤ lo' ∨ hi' ≤ g) → wr.ownsRow base e size u n xs) ∧ wr.heap.size = w.heap.size
theorem LKept.below {w wr : World} {g hi : Nat} (h : LKept w g hi wr) {B : Nat} {w0 : World} (hb : Below B w0 w) (hB : B ≤ g) : Below B w0 wr := h.1 B w0 hb hB
theorem LKept.kept {w wr : World} {g hi : Nat} (h : LKept w g hi wr) {base : Nat} {e : TypeId} {size n : Nat} {u : Value} {xs : List Value} {lo' hi' : Nat} (hu : w.ownsRow base e size u n xs) (hi1 : InR u lo' hi') (hd : hi ≤ lo' ∨ hi' ≤ g) : wr.ownsRow base e size u n xs :=
  h.2.1 base e size n u xs lo' hi' hu hi1 hd
theorem LKept.size {w wr : World} {g hi : Nat} (h : LKept w g hi wr) : w.heap.size ≤ wr.heap.size := by rw [h.2.2]; exact Nat.le_refl _
theorem LKept.step {w wr w1 : World} {g hi base size n k : Nat} {e : TypeId} {v : Value} {lo h' : Nat} (h : LKept w g hi wr) (hg : g ≤ w.heap.size) (hm : MarkOut wr base e size v n k w1) (hv : InR v lo h') (h1 : g ≤ lo) (h2 : h' ≤ hi) : LKept w g hi w1 :=
  ⟨fun B w0 hb hB => markBelow (h.1 B w0 hb hB) hm hv (by omega) (by rw [h.2.2]; omega), fun base' e' size' n' u xs lo' hi' hu hi1 hd => markKept (h.kept hu hi1 hd) hm hv hi1 (by omega), by rw [hm.2.1, h.2.2]⟩

end Go.Proofs.YtgebjnoicgmdoaaGreatDoor

namespace Go.Proofs.YtgebjnoicgmdoaaGreatDoor
open Go.RowKit

def pwV (rb rc ln : Nat → Nat) (fl : Nat → Bool) (i : Nat) : List Value := [.slice (some ⟨rb (2 * i), 0, none⟩) (ln (2 * i)) (rc (2 * i)), .bool (fl i), .slice (some ⟨rb (2 * i + 1), 0, none⟩) (ln (2 * i + 1)) (rc (2 * i + 1))]
def pwVs (rb rc ln : Nat → Nat) (fl : Nat → Bool) (n : Nat) : List Value := (List.range n).flatMap (pwV rb rc ln fl)
structure PairW (w : World) (lo hi : Nat) (A : Option Addr) (cap n : Nat) (rb rc ln : Nat → Nat) (fl : Nat → Bool) (vals : Nat → List Value) : Prop where
  out : w.ownsRow lo 124 3 (.slice A n cap) n (pwVs rb rc ln fl n)
  row : ∀ i, i < 2 * n → w.ownsRow lo 51 2 (.slice (some ⟨rb i, 0, none⟩) (ln i) (rc i)) (ln i) (vals i)
  inj : ∀ i j, i < 2 * n → j < 2 * n → rb i = rb j → i = j
  inA : InR (.slice A n cap) lo hi
  inB : ∀ i, i < 2 * n → lo ≤ rb i ∧ rb i < hi
section
variable {w w' : World} {lo hi n cap : Nat} {A : Option Addr} {rb rc ln : Nat → Nat} {fl : Nat → Bool} {vals : Nat → List Value}
theorem PairW.below (h : PairW w lo hi A cap n rb rc ln fl vals) (hb : Below w.heap.size w w') : PairW w' lo hi A cap n rb rc ln fl vals :=
  ⟨own_below' h.out hb, fun i hi => own_below' (h.row i hi) hb, h.inj, h.inA, h.inB⟩
theorem row_in (b m c : Nat) : InR (.slice (some ⟨b, 0, none⟩) m c) b (b + 1) := fun k hk => by have h' : b = k := (by simpa [Value.ownBlock] using hk); omega
/-- marks elsewhere -/
theorem PairW.other {base size m k : Nat} {e : TypeId} {v : Value} {lo' hi' : Nat} (h : PairW w lo hi A cap n rb rc ln fl vals) (hm : MarkOut w base e size v m k w') (hv : InR v lo' hi') (hd : hi ≤ lo' ∨ hi' ≤ lo) : PairW w' lo hi A cap n rb rc ln fl vals :=
  ⟨markKept h.out hm hv h.inA (by omega), fun i hi' => markKept (h.row i hi') hm hv (row_in _ _ _) (by have := h.inB i hi'; omega), h.inj, h.inA, h.inB⟩
theorem PairW.kept {g g' : Nat} (h : PairW w lo hi A cap n rb rc ln fl vals) (hk : LKept w g g' w') (hd : g' ≤ lo ∨ hi ≤ g) : PairW w' lo hi A cap n rb rc ln fl vals :=
  ⟨hk.kept h.out h.inA hd, fun i hi' => hk.kept (h.row i hi') (row_in _ _ _) (by have := h.inB i hi'; omega), h.inj, h.inA, h.inB⟩
/-- a row of it is marked -/
theorem PairW.mark {i k : Nat} (h : PairW w lo hi A cap n rb rc ln fl vals) (hi' : i < 2 * n) (hm : MarkOut w lo 51 2 (.slice (some ⟨rb i, 0, none⟩) (ln i) (rc i)) (ln i) k w') :
    PairW w' lo hi A cap n rb rc ln fl (fun q => if q = i then marks k (ln i * 2) else vals q) := by
  refine ⟨h.out.kept hm.1 ?_, fun q hq => ?_, h.inj, h.inA, h.inB⟩
  · exact own_apartK h.out (h.row i hi') (by decide)
  · by_cases e : q = i
    · subst e
      rw [if_pos rfl]
      exact hm.2.2
    · rw [if_neg e]
      refine (h.row q hq).kept hm.1 (.inr fun he => e (h.inj q i hq hi' ?_))
      have h1 : some (rb q) = some (rb i) := he
      injection h1
theorem LKept.put {w wr : World} {g hi : Nat} (h : LKept w g hi wr) {p : Addr} (h1 : g ≤ p.block) (h2 : p.block < hi) (u : Value) : LKept w g hi (wr.setCell p u) :=
  ⟨fun B w0 hb hB => (h.1 B w0 hb hB).setCell (Nat.le_trans hB h1) u, fun base' e' size' n' u' xs lo' hi' hu hi1 hd => ownsRow_setCell_other (h.kept hu hi1 hd) (fun he => by have := hi1 _ he; omega) u, by rw [World.size_setCell, h.2.2]⟩
theorem LKept.refl (w : World) (g hi : Nat) : LKept w g hi w := ⟨fun _ _ hb _ => hb, fun _ _ _ _ _ _ _ _ hu _ _ => hu, rfl⟩
end
end Go.Proofs.YtgebjnoicgmdoaaGreatDoor

namespace Go.Proofs.YtgebjnoicgmdoaaGreatDoor
open Go.RowKit
open Cs (Cn)

/-- whether every pair is ordered under a list -/
noncomputable def pairsR (l : List Cn) (ps : List Pr) : Bool := consOkR l && ps.all (pairR l)
theorem pairsR_c {l : List Cn} {ps : List Pr} (h : consOkR l = false) : pairsR l ps = false := by unfold pairsR; rw [h]; rfl
theorem pairsR_f {l : List Cn} {ps : List Pr} {k : Nat} (hk : k < ps.length) (h : pairR l (ps.getD k pr0) = false) : pairsR l ps = false := by
  unfold pairsR
  have : ps.all (pairR l) = false := by
    rw [List.all_eq_false]
    refine ⟨ps.getD k pr0, ?_, by rw [h]; simp⟩
    rw [List.getD_eq_getElem?_getD, List.getElem?_eq_getElem hk, Option.getD_some]
    exact List.getElem_mem _
  rw [this, Bool.and_false]
theorem pairsR_t {l : List Cn} {ps : List Pr} (h : consOkR l = true) (ha : ∀ k, k < ps.length → pairR l (ps.getD k pr0) = true) : pairsR l ps = true := by
  unfold pairsR
  rw [h, Bool.true_and, List.all_eq_true]
  intro x hx
  obtain ⟨k, hk, rfl⟩ := List.mem_iff_getElem.1 hx
  have := ha k hk
  rwa [List.getD_eq_getElem?_getD, List.getElem?_eq_getElem hk, Option.getD_some] at this
end Go.Proofs.YtgebjnoicgmdoaaGreatDoor

namespace Go.Proofs.YtgebjnoicgmdoaaGreatDoor
open Go.RowKit

/-- where the marks of pair i begin -/
def pos (ln : Nat → Nat) (k : Nat) : Nat → Nat
  | 0 => k
  | i + 1 => pos ln k i + ln (2 * i) * 2 + 1 + ln (2 * i + 1) * 2
def mk (ln : Nat → Nat) (k i : Nat) : Nat := if i % 2 = 0 then pos ln k (i / 2) else pos ln k (i / 2) + ln (i - 1) * 2 + 1
def mv (ln : Nat → Nat) (k i : Nat) : List Value := marks (mk ln k i) (ln i * 2)
set_option maxRecDepth 100000 in
set_option maxHeartbeats 1600000 in
theorem eqPair_any (w : World) (B : Nat) (A1 A2 A3 A4 : Option Addr) (n m c1 c2 c3 c4 : Nat) (b : Bool) (l l2 : List (Int × Int)) (hB : B ≤ w.heap.size) (h1 : TokR w B A1 n l) (h2 : TokR w B A2 n l) (h3 : TokR w B A3 m l2) (h4 : TokR w B A4 m l2) (hn : n ≤ 1048576) (hm : m ≤ 1048576) :
    Calls Tryz.prog 84 #[.agg #[.slice A1 n c1, .bool b, .slice A3 m c3], .agg #[.slice A2 n c2, .bool b, .slice A4 m c4]] w fun e w' => e = .returned (.bool true) ∧ Below w.heap.size w w' := by
  have hb : Below w.heap.size w ((w.alloc (.cells #[.slice A1 n c1, .bool b, .slice A3 m c3] 124)).alloc (.cells #[.slice A2 n c2, .bool b, .slice A4 m c4] 124)) := ((Below.refl _ _).alloc (Nat.le_refl _) _).alloc (by simp) _
  have HK1 := Lib.hid (h1.below (hb.mono hB))
  have HK2 := Lib.hid (h2.below (hb.mono hB))
  have HK3 := Lib.hid (h3.below (hb.mono hB))
  have HK4 := Lib.hid (h4.below (hb.mono hB))
  have k1 : Blk ((w.alloc (.cells #[.slice A1 n c1, .bool b, .slice A3 m c3] 124)).alloc (.cells #[.slice A2 n c2, .bool b, .slice A4 m c4] 124)) w.heap.size 124 #[.slice A1 n c1, .bool b, .slice A3 m c3] := (Blk.made w 124 _).alloc _
  have k2 : Blk ((w.alloc (.cells #[.slice A1 n c1, .bool b, .slice A3 m c3] 124)).alloc (.cells #[.slice A2 n c2, .bool b, .slice A4 m c4] 124)) (w.heap.size + 1) 124 #[.slice A2 n c2, .bool b, .slice A4 m c4] := by
    have h := Blk.made (w.alloc (.cells #[.slice A1 n c1, .bool b, .slice A3 m c3] 124)) 124 #[.slice A2 n c2, .bool b, .slice A4 m c4]
    rwa [World.size_alloc] at h
  have HB1 := Lib.hid k1
  have HB2 := Lib.hid k2
  have HB := Lib.hid hb
  clear hb h1 h2 h3 h4 k1 k2
  obtain ⟨hbb, _⟩ : (b = true ∨ b = false) ∧ True := ⟨by cases b <;> simp, trivial⟩
  go_enter Tryz.func84, Tryz.ntmps84
  go_wp2_with fail
  refine (eqTokS_any _ B A1 A2 n n c1 c2 l l (by simp; omega) HK1.out HK2.out (by omega) (by omega)).mono ?_
  rintro e w1 ⟨rfl, hb1⟩
  rw [decide_eq_true rfl]
  simp only [World.size_alloc] at hb1
  have q1 := HB1.out.below hb1 (by omega)
  have q2 := HB2.out.below hb1 (by omega)
  have d1 : w1.cell? ⟨w.heap.size, 1, none⟩ = some (.bool b) := q1.cell 1
  have d2 : w1.cell? ⟨w.heap.size + 1, 1, none⟩ = some (.bool b) := q2.cell 1
  have d3 : w1.cell? ⟨w.heap.size, 2, none⟩ = some (.slice A3 m c3) := q1.cell 2
  have d4 : w1.cell? ⟨w.heap.size + 1, 2, none⟩ = some (.slice A4 m c4) := q2.cell 2
  have HP1 := Lib.hid (HB.out.trans (hb1.mono (by omega)))
  have HK3' := Lib.hid (HK3.out.below (hb1.mono (by omega)))
  have HK4' := Lib.hid (HK4.out.below (hb1.mono (by omega)))
  have hs1 : w.heap.size + 1 + 1 ≤ w1.heap.size := by have := hb1.size; simpa only [World.size_alloc] using this
  clear q1 q2 hb1
  rcases hbb with rfl | rfl
  all_goals
   go_wp2_with fail
   refine (eqTokS_any w1 B A3 A4 m m c3 c4 l2 l2 (by omega) HK3'.out HK4'.out (by omega) (by omega)).mono ?_
   rintro e w2 ⟨rfl, hb2⟩
   rw [decide_eq_true rfl]
   have HP2 := Lib.hid (HP1.out.trans (hb2.mono (by omega)))
   clear hb2
   go_wp2
   go_ret
   exact ⟨rfl, HP2.out⟩
end Go.Proofs.YtgebjnoicgmdoaaGreatDoor
