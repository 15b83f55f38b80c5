/- NormUp of the program and of the reference model. -/
/- The program's map of the greatest Offs, and whether its number is redundant. -/
/- The program's norm, read out of its map. -/
/- The reference model's norm of a list of atoms. -/
/- slices.Grow and Concat over slices of atoms. -/
/- NormOf and NormMax of the program and of the reference model. -/
/- NormUp, put together. -/
/- NormFree of the program: the leaves of a level. -/
/- NormFree of the program. -/
/- The program's leaf and join for a sign. -/
/- Plain facts: levels without imax that stand for lists of atoms, and how the program's joins for a sign keep to them. -/
/- Rows of atoms of the call's own that may begin inside their block: what they read, what keeps them, and the laws' marks on them. -/
/- The model's residual of right atoms. -/
import Derived.Test.YtijiohdddfdjfaaDoorNOk2
import Derived.Test.YtijiohdddfdjfaaDoorNOk3
import Derived.Test.YtijiohdddfdjfaaDoorSlc
import Derived.Deep.AppendLies
import Derived.Maps.RangeWalk
import Derived.Maps.OwnSet
import Derived.Test.YtijiohdddfdjfaaDoorConcat
import Derived.Test.YtijiohdddfdjfaaDoorAtLaws
import Derived.Test.YtijiohdddfdjfaaDoorNMath4
import Derived.Test.YtijiohdddfdjfaaDoorParams
import Derived.Test.YtijiohdddfdjfaaDoorLOk
import Derived.Test.YtijiohdddfdjfaaDoorSgLev
import Derived.Test.YtijiohdddfdjfaaDoorJoin
import Derived.Test.YtijiohdddfdjfaaDoorRsMath2
import Derived.Test.YtijiohdddfdjfaaDoorSgHas

namespace Go.Proofs.YtijiohdddfdjfaaDoor
open Go.RowKit

/-- a call gives back a slice of atoms of its own and a bool -/
def ResA (w : World) (R : Option (List (Int × Int))) (e : Ending) (w' : World) : Prop :=
  ∃ A c, e = .returned (.tuple #[.slice A (R.getD []).length c, .bool R.isSome]) ∧ OwnA w' w.heap.size A (R.getD []).length c (R.getD []) ∧ Below w.heap.size w w'
theorem resA_none {w w' : World} (hb : Below w.heap.size w w') : ResA w none (.returned (.tuple #[.slice none 0 0, .bool false])) w' := ⟨none, 0, rfl, World.ownsRow_nil _ _ _ _, hb⟩

theorem own_put {w : World} {base g n c size : Nat} {e : TypeId} {xs : List Value} (h : w.ownsRow base e size (.slice (some ⟨g, 0, none⟩) n c) n xs) (i : Nat) (u : Value) :
    (w.setCell ⟨g, i, none⟩ u).ownsRow base e size (.slice (some ⟨g, 0, none⟩) n c) n (xs.set i u) := by
  refine ⟨by rw [List.length_set]; exact h.1, ?_⟩
  rcases h.2 with ⟨h0, _⟩ | ⟨g', cap, cur, hv, hb, hgg, h1, h2, h3, h4⟩
  · cases h0
  · injection hv with e1 e2 e3
    injection e1 with e1
    injection e1 with e1
    subst e1; subst e3
    refine .inr ⟨g, c, _, rfl, hb, Blk.put (w := w) (t := e) hgg i u, h1, h2, by simp [h3], ?_⟩
    rw [Array.toList_setIfInBounds, List.take_set, h4]
theorem tokCells_set (l : List (Int × Int)) (j : Nat) (p x y : Int) (h : l[j]? = some (p, x)) : tokCells (l.set j (p, y)) = (tokCells l).set (j * 2 + 1) (.int .i64 y) := by
  induction l generalizing j with
  | nil => simp at h
  | cons t r ih =>
    cases j with
    | zero =>
      simp at h
      subst h
      rfl
    | succ j =>
      rw [List.set_cons_succ, tokCells_cons, tokCells_cons, ih j (by simpa using h), show (j + 1) * 2 + 1 = j * 2 + 1 + 1 + 1 by omega, List.set_cons_succ, List.set_cons_succ]

theorem up_take (k : Int) (l : List (Int × Int)) (j : Nat) (hj : j < l.length) : Nm.up k (l.take (j + 1)) = Nm.up k (l.take j) ++ [((l.getD j (0, 0)).1, (l.getD j (0, 0)).2 + k)] := by
  have e : l.getD j (0, 0) = l[j] := by simp [List.getD_eq_getElem?_getD, List.getElem?_eq_getElem hj]
  rw [List.take_succ_eq_append_getElem hj, e]
  unfold Nm.up
  rw [List.map_append]
  rfl
/-- Offs that a number of this size may be added to -/
def Small (l : List (Int × Int)) : Prop := ∀ j, j < l.length → 0 ≤ (l.getD j (0, 0)).2 ∧ (l.getD j (0, 0)).2 ≤ 1000000

set_option maxRecDepth 100000 in
set_option maxHeartbeats 1600000 in
theorem specUp_any (w : World) (B : Nat) (A : Option Addr) (n c : Nat) (l : List (Int × Int)) (x : Int) (hB : B ≤ w.heap.size) (hl : TokR w B A n l) (hn : n ≤ 1000) (hs : Small l) (hx0 : 0 ≤ x) (hx1 : x ≤ 1000000) :
    Calls Tryd.prog 52 #[.slice A n c, .int .i64 x] w fun e w' => ∃ g cap, e = .returned (.slice (some ⟨g, 0, none⟩) n cap) ∧ OwnA w' w.heap.size (some ⟨g, 0, none⟩) n cap (Nm.up x l) ∧ Below w.heap.size w w' := by
  obtain ⟨i0, hi, hz0, hz1, hz2⟩ := info_parts info_atom
  have HS := Lib.hid hs
  have HO0 : Hid (OwnA (w.alloc (.cells #[] 68)) w.heap.size (some ⟨w.heap.size, 0, none⟩) 0 0 []) := World.ownsRow_made w #[] 0 (Nat.le_refl _) (by simp [maxLen]) (by simp)
  have HB0 : Hid (Below w.heap.size w (w.alloc (.cells #[] 68))) := (Below.refl _ _).alloc (Nat.le_refl _) _
  clear hs
  go_enter Tryd.func52, Tryd.ntmps52
  go_wp2
  go_loopw [5, 6] (fun v i wr => ∃ (k g cap : Nat), k ≤ n ∧ i = .int .i64 k ∧ v = .slice (some ⟨g, 0, none⟩) k cap ∧ OwnA wr w.heap.size (some ⟨g, 0, none⟩) k cap (Nm.up x (l.take k)) ∧ Below w.heap.size w wr) (fun _ i _ => n - (intOf i).toNat)
  case atStart => exact ⟨0, w.heap.size, 0, Nat.zero_le _, rfl, rfl, HO0.out, HB0.out⟩
  case round =>
    obtain ⟨k, g, cap, hk, rfl, rfl, hown, hbel⟩ := hrel
    have hszr := hbel.size
    by_cases hlt : k < n
    · have HU := Lib.hid (up_take x l k (by rw [hl.1]; exact hlt))
      have hsm := HS.out k (by rw [hl.1]; exact hlt)
      obtain ⟨b, off, rfl, hb, hc⟩ := hl.2 (by omega)
      obtain ⟨e1, e2⟩ := hc k hlt
      have HL := Lib.hid hl
      generalize Nm.up x (l.take k) = a at hown HU
      generalize l.getD k (0, 0) = t at e1 e2 HU hsm
      obtain ⟨p, y⟩ := t
      simp only at e1 e2 HU hsm
      obtain ⟨y0, y1⟩ := hsm
      have k1 := (hbel.cell (p := ⟨b, off + k * 2, none⟩) (by show b < _; omega)).trans e1
      have k2 := (hbel.cell (p := ⟨b, off + k * 2 + 1, none⟩) (by show b < _; omega)).trans e2
      have hw1 : IntKind.i64.wrap (y + x) = y + x := by rw [IntKind.wrap_i64]; omega
      have hki : (k : Int) < (n : Int) := by omega
      have H1 : Hid (OwnA (wr.alloc (.cells #[.int .i64 p, .int .i64 (y + x)] 68)).drew w.heap.size (some ⟨g, 0, none⟩) k cap a) := (hown.alloc _).drew
      have H2 : Hid (Below w.heap.size w (wr.alloc (.cells #[.int .i64 p, .int .i64 (y + x)] 68)).drew) := (hbel.alloc hszr _).drew
      have H3 : Hid (∀ j u, ([Value.int .i64 p, .int .i64 (y + x)] : List Value)[j]? = some u → (wr.alloc (.cells #[.int .i64 p, .int .i64 (y + x)] 68)).drew.cell? ((⟨wr.heap.size, 0, none⟩ : Addr).add j) = some u) := World.news_of_block (cs := #[.int .i64 p, .int .i64 (y + x)]) (t := 68) (fr := (0, 0)) (heap_alloc_new wr _)
      have HGL : Hid (∀ j, (Value.slice (some ⟨g, 0, none⟩) k cap).ownBlock = some j → w.heap.size ≤ j) := fun j h => (hown.lt j h).1
      have HE1 := Lib.hid e1
      have HE2 := Lib.hid e2
      have hbw : b < w.heap.size := by omega
      clear e1 e2 hc hl hown
      go_wp2_with fail
      go_region_held3 (fun w' => w'.cell? ⟨b, off + k * 2, none⟩ = some (.int .i64 p) ∧ w'.cell? ⟨b, off + k * 2 + 1, none⟩ = some (.int .i64 y))
        (first
          | go_keep
          | exact ⟨((H2.out.grown hgrow (by simp; omega) HGL.out).cell (p := ⟨b, off + k * 2, none⟩) hbw).trans HE1.out, ((H2.out.grown hgrow (by simp; omega) HGL.out).cell (p := ⟨b, off + k * 2 + 1, none⟩) hbw).trans HE2.out⟩)
        ((refine step_append_lies _ (by rfl) _ _ _ (by rfl) w.heap.size 68 i0 _ 2 16 Tryd.underlying34 hi hz0 hz1 hz2 rfl (by omega) (.slice (some ⟨g, 0, none⟩) k cap) k (tokCells a) (by rfl) H1.out
            ⟨wr.heap.size, 0, none⟩ 1 1 [.int .i64 p, .int .i64 (y + x)] (by rfl) (by rfl) H3.out (by simp [Value.oneCell']) (by omega) (by unfold maxLen; omega) (by omega) (by simp; omega) (wr.heap.size + 1) (by simp) ?_; intro g' cap' w3 hown' hgrow hat hlt3))
      have HB3 : Hid (Below w.heap.size w w3) := H2.out.grown hgrow (by simp; omega) HGL.out
      have HW : Hid (OwnA w3 w.heap.size (some ⟨g', 0, none⟩) (k + 1) cap' (Nm.up x (l.take (k + 1)))) := by
        show OwnA _ _ _ _ _ _
        rw [HU.out]
        unfold OwnA
        rw [tokCells_append]
        exact hown'
      clear hown' hgrow hat hlt3
      go_wp2
      go_roundw
      case rel => exact ⟨k + 1, g', cap', by omega, by go_num, rfl, HW.out, HB3.out⟩
      case measure => simp [intOf]; omega
    · obtain rfl : k = n := by omega
      rw [List.take_of_length_le (by have := hl.1; omega)] at hown
      have HW := Lib.hid hown
      clear hl hown
      go_wp2
      go_ret
      exact ⟨g, cap, rfl, HW.out, hbel⟩
end Go.Proofs.YtijiohdddfdjfaaDoor

namespace Go.Proofs.YtijiohdddfdjfaaDoor
open Go.RowKit Go.Maps

set_option maxRecDepth 100000 in
theorem lawInt : Keyed Tryd.prog 3 := int_keyed Tryd.underlying3
set_option maxRecDepth 100000 in
theorem zeroInt (w : World) : (zeroValue 3).run Tryd.prog w = .ok (.int .i64 0) w := by kernel_rfl
abbrev ik (p : Int) : Lit := .int .i64 p
/-- the map D reads as: u tells its keys, o what stands at them -/
def Reads (D : DataW Unit) (u : Int → Bool) (o : Int → Int) : Prop := ∀ p : Int, Maps.has D (ik p) = u p ∧ (u p = true → ∀ z, D.atKey (ik p) z = .lit (.int .i64 (o p)))
def hasB (l : List (Int × Int)) (p : Int) : Bool := decide (0 ≤ Nm.best p l)
def GM (D : DataW Unit) (l : List (Int × Int)) : Prop := Reads D (hasB l) (fun p => Nm.best p l)

theorem gm_start : GM (.map []) [] := fun p => ⟨by simp [Maps.has, hasB, Nm.best], fun h => by simp [hasB, Nm.best] at h⟩
theorem ik_ne {p q : Int} (h : q ≠ p) : ik q ≠ ik p := by intro e; injection e with _ e; exact h e
theorem ik_key (p : Int) : WideAt.IsKeyLit (ik p) := trivial
theorem gm_step {D : DataW Unit} {l : List (Int × Int)} {k : Nat} {p x c : Int} (hk : k < l.length) (hp : l.getD k (0, 0) = (p, x)) (hx : 0 ≤ x) (h : GM D (l.take k)) (hD : IsMap D) (hc : D.atKey (ik p) (.lit (.int .i64 0)) = .lit (.int .i64 c)) :
    GM (D.put (ik p) (.lit (.int .i64 (if c < x then x else c)))) (l.take (k + 1)) := by
  intro q
  have hb := Nm.best_take q l k hk
  rw [hp] at hb
  simp only at hb
  have hge := Nm.best_ge q (l.take k)
  by_cases e : q = p
  · subst e
    rw [if_pos rfl] at hb
    have hcv : c = max (Nm.best q (l.take k)) 0 := by
      have h1 := h q
      by_cases hh : hasB (l.take k) q = true
      · have h2 : D.atKey (ik q) (.lit (.int .i64 0)) = .lit (.int .i64 (Nm.best q (l.take k))) := h1.2 hh (.lit (.int .i64 0))
        rw [h2] at hc
        injection hc with hc
        injection hc with _ hc
        simp [hasB] at hh
        omega
      · have h3 : Maps.has D (ik q) = false := by rw [h1.1]; simpa using hh
        rw [atKey_of_not_has h3] at hc
        injection hc with hc
        injection hc with _ hc
        simp [hasB] at hh
        omega
    have hv : (if c < x then x else c) = Nm.best q (l.take (k + 1)) := by rw [hb]; split <;> omega
    refine ⟨?_, fun _ z => ?_⟩
    · rw [has_put_same hD (ik_key q), hasB, hb]; symm; simp; omega
    · rw [atKey_put_same hD (ik_key q), hv]
  · rw [if_neg (fun h => e h.symm)] at hb
    have h1 := h q
    refine ⟨?_, fun hu z => ?_⟩
    · rw [has_put_other (ik_ne e), h1.1, hasB, hasB, hb]
    · rw [atKey_put_other (ik_ne e)]
      have := h1.2 (by rw [hasB] at hu ⊢; rw [hb] at hu; exact hu) z
      rw [this]
      show DataW.lit (.int .i64 (Nm.best q (l.take k))) = .lit (.int .i64 (Nm.best q (l.take (k + 1))))
      rw [hb]

set_option maxRecDepth 100000 in
set_option maxHeartbeats 1600000 in
theorem greatestOffs_any (w : World) (B : Nat) (A : Option Addr) (n c : Nat) (l : List (Int × Int)) (hB : B ≤ w.heap.size) (hl : TokR w B A n l) (hn : n ≤ 100) (hok : Nm.AllOk l) :
    Calls Tryd.prog 113 #[.slice A n c] w fun e w' => ∃ D : DataW Unit, e = .returned (.map (some w.heap.size)) ∧ w'.ownsMap Tryd.prog 3 (plainElem Tryd.prog 3) w.heap.size n D ∧ GM D l ∧ Below w.heap.size w w' := by
  have hmm := @run_makeMap Tryd.prog
  have HOK := Lib.hid hok
  clear hok
  go_enter Tryd.func113, Tryd.ntmps113
  go_wp2
  go_loopw [9] (fun i wr => ∃ (k : Nat) (D : DataW Unit), k ≤ n ∧ i = .int .i64 k ∧ wr.ownsMap Tryd.prog 3 (plainElem Tryd.prog 3) w.heap.size k D ∧ Hid (GM D (l.take k)) ∧ Below w.heap.size w wr) (fun i _ => n - (intOf i).toNat)
  case atStart => exact ⟨0, .map [], Nat.zero_le _, rfl, World.ownsMap_made _ _ _ _, gm_start, (Below.refl _ _).alloc (Nat.le_refl _) _⟩
  case round =>
    obtain ⟨k, D, hk, rfl, hown, HG, hbel⟩ := hrel
    by_cases hlt : k < n
    · have hkl : k < l.length := by rw [hl.1]; exact hlt
      have hat := (Nm.atOk_iff _).1 (HOK.out k hkl)
      obtain ⟨b, off, rfl, hb, hc⟩ := hl.2 (by omega)
      obtain ⟨e1, e2⟩ := hc k hlt
      obtain ⟨t, ht⟩ : ∃ t, l.getD k (0, 0) = t := ⟨_, rfl⟩
      rw [ht] at e1 e2 hat
      obtain ⟨p, x⟩ := t
      simp only at hat e1 e2
      obtain ⟨g1, g2, g3, g4⟩ := hat
      have HT := Lib.hid ht
      have k1 := (hbel.cell (p := ⟨b, off + k * 2, none⟩) (by show b < _; omega)).trans e1
      have k2 := (hbel.cell (p := ⟨b, off + k * 2 + 1, none⟩) (by show b < _; omega)).trans e2
      have hwp : (Lit.int .i64 p).wf = true := WalkArith.wf_i64 (by omega)
      have hwx : (Lit.int .i64 x).wf = true := WalkArith.wf_i64 (by omega)
      have hkey := keyOf_int_mk Tryd.underlying3 hwp
      have HWF : Hid (∀ c, (Lit.int .i64 c).wf = true → (Lit.int .i64 (if c < x then x else c)).wf = true) := by intro c h; split <;> assumption
      have hownA : (wr.alloc (.cells #[.int .i64 p, .int .i64 x] 68)).ownsMap Tryd.prog 3 (plainElem Tryd.prog 3) w.heap.size k D := hown.alloc _
      have HBA := Lib.hid (hbel.alloc hbel.size (.cells #[.int .i64 p, .int .i64 x] 68))
      have HIM := Lib.hid hown.isMap
      have HKL := Lib.hid hkl
      clear e1 e2 hc hl ht hown hwp hwx hkl
      go_wp2_with (first
        | (at_lookup; refine wpList_lookup_own_int _ rfl _ _ 136 rfl 3 3 .i64 lawInt Tryd.underlying136 Tryd.underlying3 (zeroInt _) w.heap.size k _ rfl hownA _ _ rfl hkey ?_; intro c hat hwc)
        | (at_mapUpdate; refine wpList_mapUpdate_own _ rfl _ _ _ 136 rfl 3 3 lawInt Tryd.underlying136 _ w.heap.size k _ rfl hownA (by unfold maxLen; omega) _ _ _ rfl rfl hkey _ [] (plainElem_int Tryd.underlying3 (HWF.out _ hwc)) ?_; intro w1 hown1 hgrow1)
        | go_in)
      have HG2 := Lib.hid (gm_step HKL.out HT.out g3 HG.out HIM.out hat)
      have HB2 : Hid (Below w.heap.size w w1) := HBA.out.grown hgrow1 HBA.out.size (fun j hj => by cases hj; exact Nat.le_refl _)
      have HO2 := Lib.hid hown1
      clear hown1 hgrow1 hat hwc hownA
      go_wp2
      go_roundw
      case rel => exact ⟨k + 1, _, by omega, by go_num, HO2.out, HG2.out, HB2.out⟩
      case measure => simp [intOf]; omega
    · obtain rfl : k = n := by omega
      have hg := HG.out
      rw [List.take_of_length_le (by have := hl.1; omega)] at hg
      have HG2 := Lib.hid hg
      have HO := Lib.hid hown
      clear hl hg hown
      go_wp2
      go_ret
      exact ⟨D, rfl, HO.out, HG2.out, hbel⟩

/-- the number is redundant -/
def redB (l : List (Int × Int)) : Bool := decide (0 ≤ Nm.best (-1) l ∧ Nm.best (-1) l ≤ Nm.most l 5)

theorem gm_at {D : DataW Unit} {l : List (Int × Int)} (h : GM D l) {x c : Int} (hat : ∀ z, D.atKey (ik x) z = .lit (.int .i64 c)) : 0 ≤ Nm.best x l ∧ c = Nm.best x l := by
  have hh : Maps.has D (ik x) = true := has_true_of_atKey hat
  have h1 := h x
  rw [h1.1] at hh
  have h2 : D.atKey (ik x) (.lit (.int .i64 0)) = .lit (.int .i64 (Nm.best x l)) := h1.2 hh _
  rw [hat] at h2
  injection h2 with h2
  injection h2 with _ h2
  exact ⟨by simpa [hasB] using hh, h2⟩
theorem best_range {l : List (Int × Int)} (h : Nm.AllOk l) {p : Int} (hb : 0 ≤ Nm.best p l) : -1 ≤ p ∧ p < 5 := by
  have := h.mem (Nm.best_at (p := p) (l := l) (by omega))
  exact ⟨this.1, this.2.1⟩
theorem same_ik (a b : Int) : (ik a).sameKey (ik b) = decide (a = b) := by
  by_cases e : a = b
  · subst e; rw [(WideAt.sameKey_iff (ik_key a)).2 rfl]; simp
  · rw [Maps.sameKey_ne (ik_ne e)]; simp [e]

set_option maxRecDepth 100000 in
set_option maxHeartbeats 1600000 in
theorem numberIsRedundant_any (w : World) (b n : Nat) (D : DataW Unit) (l : List (Int × Int)) (hown : w.ownsMap Tryd.prog 3 (plainElem Tryd.prog 3) b n D) (hg : GM D l) (hok : Nm.AllOk l) :
    Calls Tryd.prog 114 #[.map (some b)] w fun e w' => e = .returned (.bool (redB l)) ∧ Below w.heap.size w w' := by
  have hkey : keyOf Tryd.prog 3 (.int .i64 (-1)) = some (.int .i64 (-1)) := keyOf_int_mk Tryd.underlying3 (WalkArith.wf_i64 (by omega))
  have h1 := hg (-1)
  have HG := Lib.hid hg
  have HOK := Lib.hid hok
  clear hg hok
  by_cases hn : 0 ≤ Nm.best (-1) l
  · have hh : Maps.has D (ik (-1)) = true := by rw [h1.1]; simp [hasB, hn]
    have HAT : Hid (D.atKey (ik (-1)) (.lit (.int .i64 0)) = .lit (.int .i64 (Nm.best (-1) l))) := h1.2 (by simp [hasB, hn]) _
    have hh' : Maps.has D (Lit.int .i64 (-1)) = true := hh
    clear h1 hh
    go_enter Tryd.func114, Tryd.ntmps114
    go_wp2_with (first
      | (at_lookup; refine wpList_lookup_own_ok_int _ rfl _ _ 136 rfl 3 3 .i64 lawInt Tryd.underlying136 Tryd.underlying3 (zeroInt _) b n _ rfl hown _ _ rfl hkey ?_; intro c hat hwc; rw [hh'])
      | (at_range; refine wpList_range_own _ rfl _ 136 rfl 3 3 lawInt Tryd.underlying136 _ b n _ rfl hown ?_; intro w0 hrg0 hg0 hs0)
      | go_in)
    obtain rfl : Nm.best (-1) l = c := by
      have h2 := HAT.out
      have hat' : D.atKey (ik (-1)) (.lit (.int .i64 0)) = .lit (.int .i64 c) := hat
      rw [hat'] at h2
      injection h2 with h2
      injection h2 with _ h2
      exact h2.symm
    have HB0 : Hid (Below w.heap.size w w0) := (Below.refl _ _).grown hg0 (Nat.le_refl _) (fun j hj => by cases hj)
    clear hat hwc hs0 hg0
    go_frame
    go_loopw [5] (fun _ wr => ∃ (left : Lit → Bool) (cnt : Nat), wr.ranges Tryd.prog 3 (plainElem Tryd.prog 3) b w.heap.size n D left cnt ∧ Hid (∀ q : Int, 0 ≤ Nm.best q l → left (ik q) = false → ¬ (q ≠ -1 ∧ Nm.best (-1) l ≤ Nm.best q l)) ∧ Below w.heap.size w wr)
      (fun _ wr => wr.rangeLeft b w.heap.size)
    case atStart =>
      refine ⟨_, _, hrg0, fun q hq hl => ?_, HB0.out⟩
      rw [(HG.out q).1] at hl
      simp [hasB, hq] at hl
    case round =>
      obtain ⟨left, cnt, hrg, HQ, hbel⟩ := hrel
      go_wp2_with (first
        | (at_next; refine wpList_next_ranges_ii _ rfl _ rfl 3 3 .i64 .i64 lawInt Tryd.underlying3 Tryd.underlying3 b w.heap.size n _ _ _ rfl hrg ?_ ?_)
        | go_in)
      · intro _ hl0
        have HF : Hid (redB l = false) := by
          show _ = _
          simp only [redB, decide_eq_false_iff_not]
          rintro ⟨_, hm⟩
          by_cases em : Nm.most l 5 = -1
          · omega
          · obtain ⟨q, q1, q2, q3⟩ := Nm.most_at l 5 em
            exact HQ.out q (by omega) (hl0 _) ⟨by omega, by omega⟩
        go_wp2
        go_ret
        exact ⟨by rw [HF.out]; rfl, hbel⟩
      · intro x c w1 cnt1 hwx hwc hlx hat hrg1 hlt hg1 hs1 hen
        obtain ⟨hx0, rfl⟩ := gm_at HG.out hat
        have hxr := best_range HOK.out hx0
        have HB1 : Hid (Below w.heap.size w w1) := hbel.grown hg1 hbel.size (fun j hj => by cases hj; exact Nat.le_refl _)
        have step_of : ¬ (x ≠ -1 ∧ Nm.best (-1) l ≤ Nm.best x l) → Hid (∀ q : Int, 0 ≤ Nm.best q l → (left (ik q) && !(ik q).sameKey (ik x)) = false → ¬ (q ≠ -1 ∧ Nm.best (-1) l ≤ Nm.best q l)) := by
          intro h q hq hl
          by_cases e : q = x
          · subst e; exact h
          · rw [same_ik] at hl
            simp [e] at hl
            exact HQ.out q hq hl
        have HM : Hid (wr.rangeLeft b w.heap.size = cnt) := hrg.left_eq
        clear hat hwx hwc hlx hg1 hs1 hrg
        by_cases ex : x = -1
        · have HQ2 := step_of (fun h => h.1 ex)
          subst ex
          clear step_of
          go_wp2
          go_roundw
          case rel => exact ⟨_, cnt1, hrg1, HQ2.out, HB1.out⟩
          case measure => rw [hrg1.left_eq, HM.out]; exact hlt
        · have dx : (x != -1) = true := by simpa using ex
          by_cases hle : Nm.best (-1) l ≤ Nm.best x l
          · have HF : Hid (redB l = true) := by
              show _ = _
              have := Nm.most_le l 5 x (by omega) (by omega)
              simp only [redB, decide_eq_true_eq]
              omega
            clear step_of
            generalize Nm.best x l = bx at *
            generalize Nm.best (-1) l = bn at *
            go_wp2
            go_ret
            exact ⟨by rw [HF.out]; rfl, HB1.out⟩
          · have HQ2 := step_of (fun h => hle h.2)
            have dle : decide (Nm.best (-1) l ≤ Nm.best x l) = false := by simp; omega
            clear step_of hle
            go_wp2
            go_roundw
            case rel => exact ⟨_, cnt1, hrg1, HQ2.out, HB1.out⟩
            case measure => rw [hrg1.left_eq, HM.out]; exact hlt
  · have hh : Maps.has D (Lit.int .i64 (-1)) = false := by show Maps.has D (ik (-1)) = false; rw [h1.1]; simp [hasB]; omega
    have HF : Hid (redB l = false) := by show _ = _; simp [redB]; omega
    clear h1
    go_enter Tryd.func114, Tryd.ntmps114
    go_wp2_with (first
      | (at_lookup; refine wpList_lookup_own_ok_int _ rfl _ _ 136 rfl 3 3 .i64 lawInt Tryd.underlying136 Tryd.underlying3 (zeroInt _) b n _ rfl hown _ _ rfl hkey ?_; intro c hat hwc; rw [hh])
      | go_in)
    go_ret
    exact ⟨by rw [HF.out]; rfl, Below.refl _ _⟩
end Go.Proofs.YtijiohdddfdjfaaDoor

namespace Go.Proofs.YtijiohdddfdjfaaDoor
open Go.RowKit Go.Maps

def arrI (V : Nat → Int) : Array Value := #[.int .i64 (V 0), .int .i64 (V 1), .int .i64 (V 2), .int .i64 (V 3), .int .i64 (V 4), .int .i64 (V 5)]
def arrB (U : Nat → Bool) : Array Value := #[.bool (U 0), .bool (U 1), .bool (U 2), .bool (U 3), .bool (U 4), .bool (U 5)]
theorem six {k : Nat} (h : k < 6) : k = 0 ∨ k = 1 ∨ k = 2 ∨ k = 3 ∨ k = 4 ∨ k = 5 := by omega
theorem arrI_put (V : Nat → Int) (k : Nat) (h : k < 6) (v : Int) : (arrI V).setIfInBounds k (.int .i64 v) = arrI (fun i => if i = k then v else V i) := by
  rcases six h with rfl | rfl | rfl | rfl | rfl | rfl <;> rfl
theorem arrB_put (U : Nat → Bool) (k : Nat) (h : k < 6) (v : Bool) : (arrB U).setIfInBounds k (.bool v) = arrB (fun i => if i = k then v else U i) := by
  rcases six h with rfl | rfl | rfl | rfl | rfl | rfl <;> rfl
theorem arrI_at (V : Nat → Int) (k : Nat) (h : k < 6) : (arrI V)[k]? = some (.int .i64 (V k)) := by
  rcases six h with rfl | rfl | rfl | rfl | rfl | rfl <;> rfl
theorem arrB_at (U : Nat → Bool) (k : Nat) (h : k < 6) : (arrB U)[k]? = some (.bool (U k)) := by
  rcases six h with rfl | rfl | rfl | rfl | rfl | rfl <;> rfl
set_option maxRecDepth 100000 in
theorem run_index6 (V : Nat → Int) (k : Nat) (h : k < 6) (wx : World) : (Instr.index 149 (.agg (arrI V)) (.int .i64 (k : Int))).run Tryd.prog wx = .ok (.int .i64 (V k)) wx := by
  rcases six h with rfl | rfl | rfl | rfl | rfl | rfl <;> kernel_rfl

/-- what the two arrays hold while some entries are still to come -/
def Filled (u : Int → Bool) (o : Int → Int) (left : Lit → Bool) (V : Nat → Int) (U : Nat → Bool) : Prop :=
  ∀ i : Nat, i < 6 → U i = (u ((i : Int) - 1) && !left (ik ((i : Int) - 1))) ∧ (U i = true → V i = o ((i : Int) - 1))
theorem filled_step {u : Int → Bool} {o : Int → Int} {left : Lit → Bool} {V : Nat → Int} {U : Nat → Bool} {k : Nat} (h : Filled u o left V U) (hu : u ((k : Int) - 1) = true) :
    Filled u o (fun z => left z && !z.sameKey (ik ((k : Int) - 1))) (fun i => if i = k then o ((k : Int) - 1) else V i) (fun i => if i = k then true else U i) := by
  intro i hi
  by_cases e : i = k
  · subst e
    simp [same_ik, hu]
  · have := h i hi
    have hne : ¬ ((i : Int) - 1 = (k : Int) - 1) := by omega
    simp only [e, if_false, same_ik, hne, decide_false, Bool.not_false, Bool.and_true]
    exact this

theorem readOut_take (u : Int → Bool) (o : Int → Int) (k : Nat) : Nm.readOut u o (k + 1) = Nm.readOut u o k ++ if u ((k : Int) - 1) = true then [((k : Int) - 1, o ((k : Int) - 1))] else [] := rfl

set_option maxRecDepth 100000 in
set_option maxHeartbeats 3200000 in
theorem sortedAtoms_any (w : World) (b n : Nat) (D : DataW Unit) (u : Int → Bool) (o : Int → Int) (hown : w.ownsMap Tryd.prog 3 (plainElem Tryd.prog 3) b n D) (hr : Reads D u o) (hu : ∀ p, u p = true → -1 ≤ p ∧ p < 5) :
    Calls Tryd.prog 115 #[.map (some b)] w fun e w' => ∃ A c, e = .returned (.slice A (Nm.readOut u o 6).length c) ∧ OwnA w' w.heap.size A (Nm.readOut u o 6).length c (Nm.readOut u o 6) ∧ Below w.heap.size w w' := by
  obtain ⟨i0, hi, hz0, hz1, hz2⟩ := info_parts info_atom
  have HR := Lib.hid hr
  have HU := Lib.hid hu
  have hbl := hown.lt
  have HK1 : Hid (Blk ((w.alloc (.cells (arrI fun _ => 0) 149)).alloc (.cells (arrB fun _ => false) 150)) w.heap.size 149 (arrI fun _ => 0)) := (Blk.made _ _ _).alloc _
  have HK2 : Hid (Blk ((w.alloc (.cells (arrI fun _ => 0) 149)).alloc (.cells (arrB fun _ => false) 150)) (w.heap.size + 1) 150 (arrB fun _ => false)) := by
    have h := Blk.made (w.alloc (.cells (arrI fun _ => 0) 149)) 150 (arrB fun _ => false)
    exact Lib.hid (by simpa using h)
  have HB0 : Hid (Below w.heap.size w ((w.alloc (.cells (arrI fun _ => 0) 149)).alloc (.cells (arrB fun _ => false) 150))) := ((Below.refl _ _).alloc (Nat.le_refl _) _).alloc (by simp) _
  have hown2 : ((w.alloc (.cells (arrI fun _ => 0) 149)).alloc (.cells (arrB fun _ => false) 150)).ownsMap Tryd.prog 3 (plainElem Tryd.prog 3) b n D := (hown.alloc _).alloc _
  have e1 : ((w.alloc (.cells (arrI fun _ => 0) 149)).alloc (.cells (arrB fun _ => false) 150)).heap.size = w.heap.size + 1 + 1 := by simp
  clear hr hu hown
  go_enter Tryd.func115, Tryd.ntmps115
  go_wp2_with (first
    | (at_range; refine wpList_range_own _ rfl _ 136 rfl 3 3 lawInt Tryd.underlying136 _ b n _ rfl hown2 ?_; intro w0 hrg0 hg0 hs0)
    | go_in)
  have hrg1 : w0.ranges Tryd.prog 3 (plainElem Tryd.prog 3) b (w.heap.size + 1 + 1) n D (Maps.has D) (Maps.size D) := by rw [← e1]; exact hrg0
  have HK10 := Lib.hid (HK1.out.grown hg0 (by simp))
  have HK20 := Lib.hid (HK2.out.grown hg0 (by simp))
  have HB1 : Hid (Below w.heap.size w w0) := HB0.out.grown hg0 (by rw [e1]; omega) (fun j hj => by cases hj)
  clear HK1 HK2 HB0 hown2 hg0 hrg0 hs0
  go_loopw [5] (fun _ wr => ∃ (left : Lit → Bool) (cnt : Nat) (V : Nat → Int) (U : Nat → Bool), wr.ranges Tryd.prog 3 (plainElem Tryd.prog 3) b (w.heap.size + 1 + 1) n D left cnt ∧ Blk wr w.heap.size 149 (arrI V) ∧ Blk wr (w.heap.size + 1) 150 (arrB U) ∧ Hid (Filled u o left V U) ∧ Below w.heap.size w wr)
    (fun _ wr => wr.rangeLeft b (w.heap.size + 1 + 1))
  case atStart =>
    refine ⟨_, _, fun _ => 0, fun _ => false, hrg1, HK10.out, HK20.out, fun i hi => ?_, HB1.out⟩
    rw [(HR.out _).1]
    simp
  case round =>
    obtain ⟨left, cnt, V, U, hrg, hk1, hk2, HF, hbel⟩ := hrel
    have hbs := hbel.size
    have hl2 := hk2.lt
    go_wp2_with (first
      | (at_next; refine wpList_next_ranges_ii _ rfl _ rfl 3 3 .i64 .i64 lawInt Tryd.underlying3 Tryd.underlying3 b (w.heap.size + 1 + 1) n _ _ _ rfl hrg ?_ ?_)
      | go_in)
    · intro _ hl0
      have HFE : Hid (∀ i : Nat, i < 6 → U i = u ((i : Int) - 1) ∧ (U i = true → V i = o ((i : Int) - 1))) := by
        intro i hi
        have := HF.out i hi
        rw [hl0] at this
        simpa using this
      have hix := run_index6 V
      have hrow : wr.heap[w.heap.size]? = some (.cells (arrI V) 149 (0, 0)) := hk1
      clear hrg HF hl0
      go_wp2_with (first | (refine wpList_load_row rfl 149 _ rfl w.heap.size rfl 149 (arrI V) (0, 0) _ hrow Tryd.underlying149 rfl (by kernel_rfl) ?_) | go_in)
      go_loopw [7, 25] (fun v i wq => ∃ (k : Nat) (A' : Option Addr) (c' : Nat), k ≤ 6 ∧ i = .int .i64 k ∧ v = .slice A' (Nm.readOut u o k).length c' ∧ OwnA wq w.heap.size A' (Nm.readOut u o k).length c' (Nm.readOut u o k) ∧ Blk wq (w.heap.size + 1) 150 (arrB U) ∧ Below w.heap.size w wq) (fun _ i _ => 6 - (intOf i).toNat)
      case atStart => exact ⟨0, none, 0, by omega, rfl, rfl, World.ownsRow_nil _ _ _ _, hk2, hbel⟩
      case round =>
        rename_i wr0 _
        obtain ⟨k, A', c', hk, rfl, rfl, hown, hkq, hbq⟩ := hrel
        have hln := Nm.readOut_len u o k
        have hszq := hbq.size
        by_cases hlt : k < 6
        · have hixk := hix k hlt
          have hul := (hkq.cell k).trans (arrB_at U k hlt)
          obtain ⟨f1, f2⟩ := HFE.out k hlt
          have HRO := Lib.hid (readOut_take u o k)
          have hki : (k : Int) < 6 := by omega
          cases hU : U k with
          | true =>
            rw [hU] at hul f1 f2
            have hv := f2 rfl
            have HRO2 : Hid (Nm.readOut u o (k + 1) = Nm.readOut u o k ++ [((k : Int) + -1, V k)]) := by show _ = _; rw [HRO.out, if_pos f1.symm, hv]; rfl
            generalize Nm.readOut u o k = a at hown hln HRO2 ⊢
            have hap := own_apart hown hkq (by decide)
            have HNB : Hid (∀ j u, ([Value.int .i64 ((k : Int) + -1), .int .i64 (V k)] : List Value)[j]? = some u → (wr.alloc (.cells #[.int .i64 ((k : Int) + -1), .int .i64 (V k)] 68)).cell? ((⟨wr.heap.size, 0, none⟩ : Addr).add j) = some u) := World.news_of_block (cs := #[.int .i64 ((k : Int) + -1), .int .i64 (V k)]) (t := 68) (fr := (0, 0)) (heap_alloc_new wr _)
            clear f1 f2 hv hU HRO
            go_wp2_with (at_builtin; refine wpList_append_own _ rfl (.tmp 32) (.tmp 37) 34 rfl w.heap.size 68 i0 (.agg #[.int .i64 0, .int .i64 0]) 2 16 Tryd.underlying34 hi hz0 hz1 hz2 rfl (by decide) (.slice A' a.length c') a.length (tokCells a) rfl (hown.alloc _) ⟨wr.heap.size, 0, none⟩ 1 1 [.int .i64 ((k : Int) + -1), .int .i64 (V k)] rfl rfl HNB.out (by intro v hv; simp at hv; rcases hv with rfl | rfl <;> rfl) (by unfold maxLen; omega) (by omega) (by simp; omega) ?_; intro v' w3 hown' hgrow _)
            obtain ⟨g', cap', rfl⟩ : ∃ g' cap', v' = .slice (some ⟨g', 0, none⟩) (a.length + 1) cap' := by
              rcases hown'.2 with ⟨_, h⟩ | ⟨g', cap', _, h, _⟩
              · omega
              · exact ⟨g', cap', h⟩
            have HB3 : Hid (Below w.heap.size w w3) := (hbq.alloc hszq _).grown hgrow (by simp; omega) (fun j h => (hown.lt j h).1)
            have HK3 := Lib.hid ((hkq.alloc (.cells #[.int .i64 ((k : Int) + -1), .int .i64 (V k)] 68)).grown hgrow (fun h => hap h.symm))
            have HLN : Hid ((Nm.readOut u o (k + 1)).length = a.length + 1) := by show _ = _; rw [HRO2.out, List.length_append]; rfl
            have HW : Hid (OwnA w3 w.heap.size (some ⟨g', 0, none⟩) (Nm.readOut u o (k + 1)).length cap' (Nm.readOut u o (k + 1))) := by
              show OwnA _ _ _ _ _ _
              rw [HLN.out, HRO2.out]
              unfold OwnA
              rw [tokCells_append]
              exact hown'
            clear hown' hgrow hown hap
            go_wp2
            go_roundw
            case rel => exact ⟨k + 1, some ⟨g', 0, none⟩, cap', by omega, by go_num, by rw [HLN.out], HW.out, HK3.out, HB3.out⟩
            case measure => simp [intOf]; omega
          | false =>
            rw [hU] at hul f1
            have HRO2 : Hid (Nm.readOut u o (k + 1) = Nm.readOut u o k) := by show _ = _; rw [HRO.out, if_neg (by rw [← f1]; simp), List.append_nil]
            have HW := Lib.hid hown
            clear f1 f2 hU HRO hown
            go_wp2
            go_roundw
            case rel => exact ⟨k + 1, A', c', by omega, by go_num, by rw [HRO2.out], by rw [HRO2.out]; exact HW.out, hkq, hbq⟩
            case measure => simp [intOf]; omega
        · obtain rfl : k = 6 := by omega
          have HW := Lib.hid hown
          clear hown
          go_wp2
          go_ret
          exact ⟨A', c', rfl, HW.out, hbq⟩
    · intro x c w1 cnt1 hwx hwc hlx hat hrg1 hlt hg1 hs1 hen
      have hhas : Maps.has D (ik x) = true := has_true_of_atKey hat
      have hux : u x = true := by rw [← (HR.out x).1]; exact hhas
      have hov : c = o x := by
        have h2 := (HR.out x).2 hux (.lit (.int .i64 0))
        rw [hat] at h2
        injection h2 with h2
        injection h2 with _ h2
      subst hov
      obtain ⟨hx1, hx2⟩ := HU.out x hux
      obtain ⟨xn, rfl⟩ : ∃ xn : Nat, x = (xn : Int) - 1 := ⟨(x + 1).toNat, by omega⟩
      have hxn : xn < 6 := by omega
      have HFN := Lib.hid (filled_step HF.out hux)
      have HM : Hid (wr.rangeLeft b (w.heap.size + 1 + 1) = cnt) := hrg.left_eq
      have hk11 := hk1.grown hg1 (by intro h; injection h with h; omega)
      have hk21 := hk2.grown hg1 (by intro h; injection h with h; omega)
      have hbs1 : Below w.heap.size w w1 := hbel.grown hg1 hbel.size (fun j hj => by cases hj; omega)
      have c1 := (hk11.cell xn).trans (arrI_at V xn hxn)
      have t1 := hk11.thawed xn
      have hq1 := hk11.put xn (.int .i64 (o ((xn : Int) - 1)))
      rw [arrI_put V xn hxn] at hq1
      have hq2 := hk21.other (p := ⟨w.heap.size, xn, none⟩) (by simp) (.int .i64 (o ((xn : Int) - 1)))
      have c2 := (hq2.cell xn).trans (arrB_at U xn hxn)
      have t2 := hq2.thawed xn
      have hq3 := hq2.put xn (.bool true)
      rw [arrB_put U xn hxn] at hq3
      have HQ1 := Lib.hid (hq1.other (p := ⟨w.heap.size + 1, xn, none⟩) (by simp) (.bool true))
      have HQ2 := Lib.hid hq3
      have HB2 := Lib.hid ((hbs1.setCell (p := ⟨w.heap.size, xn, none⟩) (Nat.le_refl _) (.int .i64 (o ((xn : Int) - 1)))).setCell (p := ⟨w.heap.size + 1, xn, none⟩) (Nat.le_succ _) (.bool true))
      have HRG : Hid (((w1.setCell ⟨w.heap.size, xn, none⟩ (.int .i64 (o ((xn : Int) - 1)))).setCell ⟨w.heap.size + 1, xn, none⟩ (.bool true)).ranges Tryd.prog 3 (plainElem Tryd.prog 3) b (w.heap.size + 1 + 1) n D (fun z => left z && !z.sameKey (ik ((xn : Int) - 1))) cnt1) := by
        have s1 : w1.grownBy (w1.setCell ⟨w.heap.size, xn, none⟩ (.int .i64 (o ((xn : Int) - 1)))) (some w.heap.size) := ⟨rfl, rfl, rfl, by simp [World.setCell], fun i _ hne => Below.heap_setCell w1 ⟨w.heap.size, xn, none⟩ _ i (by intro he; subst he; exact hne rfl)⟩
        have s2 : (w1.setCell ⟨w.heap.size, xn, none⟩ (.int .i64 (o ((xn : Int) - 1)))).grownBy ((w1.setCell ⟨w.heap.size, xn, none⟩ (.int .i64 (o ((xn : Int) - 1)))).setCell ⟨w.heap.size + 1, xn, none⟩ (.bool true)) (some (w.heap.size + 1)) := ⟨rfl, rfl, rfl, by simp [World.setCell], fun i _ hne => Below.heap_setCell _ ⟨w.heap.size + 1, xn, none⟩ _ i (by intro he; subst he; exact hne rfl)⟩
        exact (hrg1.kept s1 (by intro h; injection h with h; omega) (by intro h; injection h with h; omega)).kept s2 (by intro h; injection h with h; omega) (by intro h; injection h with h; omega)
      have hxi : (xn : Int) < 6 := by omega
      clear hk1 hk2 hk11 hk21 hq1 hq2 hq3 hrg hrg1 hat hlx hwx hwc hg1 hs1 hbs1 HF hhas hux
      generalize o ((xn : Int) - 1) = ov at *
      go_wp2
      go_roundw
      case rel => exact ⟨_, cnt1, _, _, HRG.out, HQ1.out, HQ2.out, HFN.out, HB2.out⟩
      case measure => rw [HRG.out.left_eq, HM.out]; exact hlt
end Go.Proofs.YtijiohdddfdjfaaDoor

namespace Go.Proofs.YtijiohdddfdjfaaDoor
open Go.RowKit

set_option maxRecDepth 100000 in
theorem own_lit (w : World) (base : Nat) (a b : Int) (hb : base ≤ w.heap.size) : OwnA (w.alloc (.cells #[.int .i64 a, .int .i64 b] 68)) base (some ⟨w.heap.size, 0, none⟩) 1 1 [(a, b)] :=
  ⟨rfl, .inr ⟨w.heap.size, 1, #[.int .i64 a, .int .i64 b], rfl, hb, heap_alloc_new w _, Nat.le_refl _, by simp [maxLen], rfl, rfl⟩⟩

set_option maxRecDepth 100000 in
set_option maxHeartbeats 3200000 in
theorem specNorm_any (w : World) (B : Nat) (A : Option Addr) (n c : Nat) (l : List (Int × Int)) (hB : B ≤ w.heap.size) (hl : TokR w B A n l) (hn : (n : Int) ≤ 140737488355328) :
    Calls Tryd.prog 81 #[.slice A n c] w fun e w' => ∃ g cap, e = .returned (.slice (some ⟨g, 0, none⟩) (Nm.norm l).length cap) ∧ OwnA w' w.heap.size (some ⟨g, 0, none⟩) (Nm.norm l).length cap (Nm.norm l) ∧ Below w.heap.size w w' := by
  obtain ⟨i0, hi, hz0, hz1, hz2⟩ := info_parts info_atom
  have HO0 : Hid (OwnA (w.alloc (.cells #[] 68)) w.heap.size (some ⟨w.heap.size, 0, none⟩) 0 0 []) := World.ownsRow_made w #[] 0 (Nat.le_refl _) (by simp [maxLen]) (by simp)
  have HB0 : Hid (Below w.heap.size w (w.alloc (.cells #[] 68))) := (Below.refl _ _).alloc (Nat.le_refl _) _
  go_enter Tryd.func81, Tryd.ntmps81
  go_wp2
  go_loopw [3, 4, 5] (fun v m p wr => ∃ (k g cap : Nat), k ≤ 5 ∧ p = .int .i64 k ∧ m = .int .i64 (Nm.most l k) ∧ v = .slice (some ⟨g, 0, none⟩) (Nm.pars l k).length cap ∧ OwnA wr w.heap.size (some ⟨g, 0, none⟩) (Nm.pars l k).length cap (Nm.pars l k) ∧ Below w.heap.size w wr) (fun _ _ p _ => 5 - (intOf p).toNat)
  case atStart => exact ⟨0, w.heap.size, 0, by omega, rfl, rfl, rfl, HO0.out, HB0.out⟩
  case round =>
    obtain ⟨k, g, cap, hk, rfl, rfl, rfl, hown, hbel⟩ := hrel
    have hszr := hbel.size
    have hpl := Nm.pars_len l k
    by_cases hlt : k < 5
    · have HOW := Lib.hid hown
      have hlr := hl.below (hbel.mono hB)
      have hmg := Nm.most_ge l k
      have HPS := Lib.hid (Nm.pars_succ l k)
      have HMS : Hid (Nm.most l (k + 1) = max (Nm.most l k) (Nm.best k l)) := rfl
      have hki : (k : Int) < 5 := by omega
      clear hown
      generalize Nm.most l k = mv at hmg HMS ⊢
      go_wp2
      go_loop [6, 7] (fun v i => ∃ j : Nat, j ≤ n ∧ i = .int .i64 j ∧ v = .int .i64 (Nm.best k (l.take j))) (fun _ i => n - (intOf i).toNat)
      case atStart => exact ⟨0, Nat.zero_le _, rfl, rfl⟩
      case round =>
        obtain ⟨j, hj, rfl, rfl⟩ := hrel
        by_cases hlt2 : j < n
        · have HBT := Lib.hid (Nm.best_take k l j (by rw [hl.1]; exact hlt2))
          obtain ⟨b, off, rfl, hb, hc⟩ := hlr.2 (by omega)
          obtain ⟨e1, e2⟩ := hc j hlt2
          generalize Nm.best k (l.take j) = bv at HBT ⊢
          generalize l.getD j (0, 0) = t at e1 e2 HBT
          obtain ⟨p, x⟩ := t
          simp only at e1 e2 HBT
          have HL := Lib.hid hl
          have HLR := Lib.hid hlr
          have hji : (j : Int) < (n : Int) := by omega
          clear hc hl hlr
          by_cases ep : p = (k : Int)
          · subst ep
            have HB2 : Hid (Nm.best k (l.take (j + 1)) = if bv < x then x else bv) := by show _ = _; rw [HBT.out, if_pos rfl]; split <;> omega
            go_wp2
            go_round
            case rel => exact ⟨j + 1, by omega, by go_num, by rw [HB2.out]⟩
            case measure => simp [intOf]; omega
          · have HB2 : Hid (Nm.best k (l.take (j + 1)) = bv) := by show _ = _; rw [HBT.out, if_neg ep]
            have dp : (p == (k : Int)) = false := by simpa using ep
            clear ep
            go_wp2
            go_round
            case rel => exact ⟨j + 1, by omega, by go_num, by rw [HB2.out]⟩
            case measure => simp [intOf]; omega
        · rw [List.take_of_length_le (by have := hl.1; omega)]
          have hbg := Nm.best_ge k l
          generalize Nm.best k l = bv at HPS HMS hbg ⊢
          clear hlr
          by_cases h0 : 0 ≤ bv
          · have HM2 : Hid (Nm.most l (k + 1) = if mv < bv then bv else mv) := by show _ = _; rw [HMS.out]; split <;> omega
            have HP2 : Hid (Nm.pars l (k + 1) = Nm.pars l k ++ [((k : Int), bv)]) := by show _ = _; rw [HPS.out, if_pos h0]
            generalize Nm.pars l k = a at HOW hpl HP2 ⊢
            have HNB : Hid (∀ j u, ([Value.int .i64 (k : Int), .int .i64 bv] : List Value)[j]? = some u → (wr.alloc (.cells #[.int .i64 (k : Int), .int .i64 bv] 68)).cell? ((⟨wr.heap.size, 0, none⟩ : Addr).add j) = some u) := World.news_of_block (cs := #[.int .i64 (k : Int), .int .i64 bv]) (t := 68) (fr := (0, 0)) (heap_alloc_new wr _)
            have HL := Lib.hid hl
            clear hl
            go_wp2_with (at_builtin; first
              | (refine wpList_append_own _ rfl (.tmp 37) (.tmp 41) 34 rfl w.heap.size 68 i0 (.agg #[.int .i64 0, .int .i64 0]) 2 16 Tryd.underlying34 hi hz0 hz1 hz2 rfl (by decide) (.slice (some ⟨g, 0, none⟩) a.length cap) a.length (tokCells a) rfl (HOW.out.alloc _) ⟨wr.heap.size, 0, none⟩ 1 1 [.int .i64 (k : Int), .int .i64 bv] rfl rfl HNB.out (by intro v hv; simp at hv; rcases hv with rfl | rfl <;> rfl) (by unfold maxLen; omega) (by omega) (by simp; omega) ?_; intro v' w3 hown' hgrow _
                 obtain ⟨g', cap', rfl⟩ : ∃ g' cap', v' = .slice (some ⟨g', 0, none⟩) (a.length + 1) cap' := by
                   rcases hown'.2 with ⟨_, h⟩ | ⟨g', cap', _, h, _⟩
                   · omega
                   · exact ⟨g', cap', h⟩
                 have HB3 : Hid (Below w.heap.size w w3) := (hbel.alloc hszr _).grown hgrow (by simp; omega) (fun j h => (HOW.out.lt j h).1)
                 have HLN : Hid ((Nm.pars l (k + 1)).length = a.length + 1) := by show _ = _; rw [HP2.out, List.length_append]; rfl
                 have HW : Hid (OwnA w3 w.heap.size (some ⟨g', 0, none⟩) (Nm.pars l (k + 1)).length cap' (Nm.pars l (k + 1))) := by
                   show OwnA _ _ _ _ _ _
                   rw [HLN.out, HP2.out]
                   unfold OwnA
                   rw [tokCells_append]
                   exact hown'
                 clear hown' hgrow))
            go_wp2
            go_roundw
            case rel => exact ⟨k + 1, g', cap', by omega, by go_num, by rw [HM2.out], by rw [HLN.out], HW.out, HB3.out⟩
            case measure => simp [intOf]; omega
          · have hb1 : bv = -1 := by omega
            subst hb1
            have HM2 : Hid (Nm.most l (k + 1) = mv) := by show _ = _; rw [HMS.out]; omega
            have HP2 : Hid (Nm.pars l (k + 1) = Nm.pars l k) := by show _ = _; rw [HPS.out, if_neg (by omega), List.append_nil]
            have HL := Lib.hid hl
            clear hl
            go_wp2
            go_roundw
            case rel => exact ⟨k + 1, g, cap, by omega, by go_num, by rw [HM2.out], by rw [HP2.out], by rw [HP2.out]; exact HOW.out, hbel⟩
            case measure => simp [intOf]; omega
    · obtain rfl : k = 5 := by omega
      have HOW := Lib.hid hown
      have hlr := hl.below (hbel.mono hB)
      have HNM : Hid (Nm.norm l = (if Nm.most l 5 < Nm.best (-1) l then [((-1 : Int), Nm.best (-1) l)] else []) ++ Nm.pars l 5) := rfl
      clear hown
      generalize Nm.most l 5 = mv at HNM ⊢
      generalize Nm.pars l 5 = a at HOW hpl HNM ⊢
      go_wp2
      go_loop [8, 9] (fun v i => ∃ j : Nat, j ≤ n ∧ i = .int .i64 j ∧ v = .int .i64 (Nm.best (-1) (l.take j))) (fun _ i => n - (intOf i).toNat)
      case atStart => exact ⟨0, Nat.zero_le _, rfl, rfl⟩
      case round =>
        obtain ⟨j, hj, rfl, rfl⟩ := hrel
        by_cases hlt2 : j < n
        · have HBT := Lib.hid (Nm.best_take (-1) l j (by rw [hl.1]; exact hlt2))
          obtain ⟨b, off, rfl, hb, hc⟩ := hlr.2 (by omega)
          obtain ⟨e1, e2⟩ := hc j hlt2
          generalize Nm.best (-1) (l.take j) = bv at HBT ⊢
          generalize l.getD j (0, 0) = t at e1 e2 HBT
          obtain ⟨p, x⟩ := t
          simp only at e1 e2 HBT
          have HL := Lib.hid hl
          have HLR := Lib.hid hlr
          have hji : (j : Int) < (n : Int) := by omega
          clear hc hl hlr
          by_cases ep : p = -1
          · subst ep
            have HB2 : Hid (Nm.best (-1) (l.take (j + 1)) = if bv < x then x else bv) := by show _ = _; rw [HBT.out, if_pos rfl]; split <;> omega
            go_wp2
            go_round
            case rel => exact ⟨j + 1, by omega, by go_num, by rw [HB2.out]⟩
            case measure => simp [intOf]; omega
          · have HB2 : Hid (Nm.best (-1) (l.take (j + 1)) = bv) := by show _ = _; rw [HBT.out, if_neg ep]
            have dp : (p == -1) = false := by simpa using ep
            clear ep
            go_wp2
            go_round
            case rel => exact ⟨j + 1, by omega, by go_num, by rw [HB2.out]⟩
            case measure => simp [intOf]; omega
        · rw [List.take_of_length_le (by have := hl.1; omega)]
          generalize Nm.best (-1) l = bv at HNM ⊢
          clear hlr
          by_cases hmb : mv < bv
          · have HN2 : Hid (Nm.norm l = [((-1 : Int), bv)] ++ a) := by show _ = _; rw [HNM.out, if_pos hmb]
            have HLN : Hid ((Nm.norm l).length = 1 + a.length) := by show _ = _; rw [HN2.out, List.length_append]; rfl
            have HSRC := Lib.hid (OwnA.reads (HOW.out.alloc (.cells #[.int .i64 (-1), .int .i64 bv] 68)))
            have HSC : Hid (∀ j u, (tokCells a)[j]? = some u → (wr.alloc (.cells #[.int .i64 (-1), .int .i64 bv] 68)).cell? ((⟨g, 0, none⟩ : Addr).add j) = some u) := fun j u hu => (HOW.out.alloc _).cells (g := g) rfl j u hu
            have HL := Lib.hid hl
            clear hl
            go_wp2_with (at_builtin; first
              | (refine wpList_append_own _ rfl (.tmp 70) (.tmp 71) 34 rfl w.heap.size 68 i0 (.agg #[.int .i64 0, .int .i64 0]) 2 16 Tryd.underlying34 hi hz0 hz1 hz2 rfl (by decide) (.slice (some ⟨wr.heap.size, 0, none⟩) 1 1) 1 (tokCells [(-1, bv)]) rfl (own_lit wr w.heap.size (-1) bv hszr) ⟨g, 0, none⟩ a.length cap (tokCells a) rfl (tokCells_len a) HSC.out (tokCells_one a) (by unfold maxLen; omega) (by omega) (by simp; omega) ?_; intro v' w3 hown' hgrow hnil))
            obtain ⟨g', cap', rfl⟩ : ∃ g' cap', v' = .slice (some ⟨g', 0, none⟩) (1 + a.length) cap' := by
              rcases hown'.2 with ⟨_, h⟩ | ⟨g', cap', _, h, _⟩
              · omega
              · exact ⟨g', cap', h⟩
            have HB3 : Hid (Below w.heap.size w w3) := (hbel.alloc hszr _).grown hgrow (by simp; omega) (fun j h => by have h' : wr.heap.size = j := (by simpa [Value.ownBlock] using h); omega)
            have HW : Hid (OwnA w3 w.heap.size (some ⟨g', 0, none⟩) (Nm.norm l).length cap' (Nm.norm l)) := by
              show OwnA _ _ _ _ _ _
              rw [HLN.out, HN2.out]
              unfold OwnA
              rw [tokCells_append]
              exact hown'
            clear hown' hgrow hnil
            go_wp2
            go_ret
            exact ⟨g', cap', by rw [HLN.out]; rfl, HW.out, HB3.out⟩
          · have HN2 : Hid (Nm.norm l = a) := by show _ = _; rw [HNM.out, if_neg hmb, List.nil_append]
            have hmb' : bv ≤ mv := by omega
            clear hl hmb
            go_wp2
            go_ret
            exact ⟨g, cap, by rw [HN2.out]; rfl, by rw [HN2.out]; exact HOW.out, hbel⟩
end Go.Proofs.YtijiohdddfdjfaaDoor

namespace Go.Proofs.YtijiohdddfdjfaaDoor
open Go.RowKit

/-- a call gives back a slice of tokens of its own that is not nil -/
def ResAt (w : World) (l : List (Int × Int)) (e : Ending) (w' : World) : Prop :=
  ∃ g c, e = .returned (.slice (some ⟨g, 0, none⟩) l.length c) ∧ OwnA w' w.heap.size (some ⟨g, 0, none⟩) l.length c l ∧ Below w.heap.size w w'

end Go.Proofs.YtijiohdddfdjfaaDoor

namespace Go.Proofs.YtijiohdddfdjfaaDoor
open Go.RowKit Go.Maps

theorem normOf_no {l : List (Int × Int)} (h : ¬ (1 ≤ l.length ∧ l.length ≤ 100 ∧ Nm.AllOk l)) : Nm.normOf l = none := by unfold Nm.normOf; rw [if_neg h]
theorem normOf_yes {l : List (Int × Int)} (h : 1 ≤ l.length ∧ l.length ≤ 100 ∧ Nm.AllOk l) : Nm.normOf l = some (Nm.norm l) := by unfold Nm.normOf; rw [if_pos h]

/-- the keys that are left, where the number is redundant -/
def cutB (l : List (Int × Int)) (p : Int) : Bool := if p = -1 then false else hasB l p
theorem cut_reads {D : DataW Unit} {l : List (Int × Int)} (h : GM D l) : Reads (D.del (ik (-1))) (cutB l) (fun p => Nm.best p l) := by
  intro p
  by_cases e : p = -1
  · subst e
    exact ⟨by rw [has_del_same]; simp [cutB], fun h => by simp [cutB] at h⟩
  · have h1 := h p
    refine ⟨by rw [has_del_other (ik_ne e), h1.1]; simp [cutB, e], fun hu z => ?_⟩
    rw [atKey_del_other (ik_ne e)]
    exact h1.2 (by simpa [cutB, e] using hu) z
theorem keep_of_red {l : List (Int × Int)} (h : redB l = true) : Nm.readOut (cutB l) (fun p => Nm.best p l) 6 = Nm.norm l := by
  rw [← Nm.readOut_norm]
  refine Nm.readOut_congr 6 fun p h1 h2 => ⟨?_, fun _ => rfl⟩
  simp only [redB, decide_eq_true_eq] at h
  unfold cutB Nm.keepB hasB
  split
  · symm; simp; omega
  · rfl
theorem keep_of_not {l : List (Int × Int)} (h : redB l = false) : Nm.readOut (hasB l) (fun p => Nm.best p l) 6 = Nm.norm l := by
  rw [← Nm.readOut_norm]
  refine Nm.readOut_congr 6 fun p h1 h2 => ⟨?_, fun _ => rfl⟩
  simp only [redB, decide_eq_false_iff_not] at h
  have g1 := Nm.most_ge l 5
  have g2 := Nm.best_ge (-1) l
  unfold Nm.keepB hasB
  split
  · rename_i e; subst e
    rw [decide_eq_decide]
    omega
  · rfl

set_option maxRecDepth 100000 in
set_option maxHeartbeats 1600000 in
theorem implNormOf_any (w : World) (B : Nat) (A : Option Addr) (n c : Nat) (l : List (Int × Int)) (hB : B ≤ w.heap.size) (hl : TokR w B A n l) (hn : (n : Int) ≤ 140737488355328) :
    Calls Tryd.prog 98 #[.slice A n c] w (ResA w (Nm.normOf l)) := by
  have hln := hl.1
  by_cases h1 : n = 0
  · subst h1
    have HF : Hid (Nm.normOf l = none) := normOf_no (fun h => by have := h.1; omega)
    clear hl
    go_enter Tryd.func98, Tryd.ntmps98
    go_wp2
    go_ret2
    rw [HF.out]
    exact resA_none (Below.refl _ _)
  · have d1 : ((n : Int) == 0) = false := by simp; omega
    by_cases h100 : 100 < n
    · have HF : Hid (Nm.normOf l = none) := normOf_no (fun h => by have := h.2.1; omega)
      have h100' : (100 : Int) < (n : Int) := by omega
      clear hl
      go_enter Tryd.func98, Tryd.ntmps98
      go_wp2
      go_ret2
      rw [HF.out]
      exact resA_none (Below.refl _ _)
    · have d2 : decide ((100 : Int) < (n : Int)) = false := by simp; omega
      cases hall : Nm.allOk l with
      | false =>
        have HF : Hid (Nm.normOf l = none) := normOf_no (fun h => by rw [(Nm.allOk_iff l).2 h.2.2] at hall; cases hall)
        have HA := Lib.hid hall
        clear hall
        go_enter Tryd.func98, Tryd.ntmps98
        go_wp2_with fail
        refine (atomsOk_any w B A n c l hB hl hn).mono ?_
        rintro e w1 ⟨rfl, hb1⟩
        rw [HA.out]
        go_wp2
        go_ret2
        rw [HF.out]
        exact resA_none hb1
      | true =>
        have hok := (Nm.allOk_iff l).1 hall
        have HF : Hid (Nm.normOf l = some (Nm.norm l)) := normOf_yes ⟨by omega, by omega, hok⟩
        have HA := Lib.hid hall
        have HOK := Lib.hid hok
        have hkey : keyOf Tryd.prog 3 (.int .i64 (-1)) = some (.int .i64 (-1)) := keyOf_int_mk Tryd.underlying3 (WalkArith.wf_i64 (by omega))
        clear hall hok
        go_enter Tryd.func98, Tryd.ntmps98
        go_wp2_with fail
        refine (atomsOk_any w B A n c l hB hl hn).mono ?_
        rintro e w1 ⟨rfl, hb1⟩
        rw [HA.out]
        go_wp2_with fail
        refine (greatestOffs_any w1 B A n c l (Nat.le_trans hB hb1.size) (hl.below (hb1.mono hB)) (by omega) HOK.out).mono ?_
        rintro e w2 ⟨D, rfl, hm2, hg2, hb2⟩
        have hB2 := hb1.trans (hb2.mono hb1.size)
        have HG := Lib.hid hg2
        have hw1 := hb1.size
        have hmlt := hm2.lt
        clear hb1 hb2 hg2 hl hln
        go_wp2_with fail
        refine (numberIsRedundant_any w2 w1.heap.size n D l hm2 HG.out HOK.out).mono ?_
        rintro e w3 ⟨rfl, hb3⟩
        have hm3 : w3.ownsMap Tryd.prog 3 (plainElem Tryd.prog 3) w1.heap.size n D := by
          obtain ⟨es, clock, hbb, rest⟩ := hm2
          exact ⟨es, clock, (hb3.block _ hmlt).trans hbb, rest⟩
        have hB3 := hB2.trans (hb3.mono hB2.size)
        clear hb3 hm2 hB2
        cases hred : redB l with
        | true =>
          have HK := Lib.hid (keep_of_red hred)
          clear hred
          go_wp2_with (at_delete; refine wpList_delete_own _ rfl _ _ 136 3 rfl 3 lawInt Tryd.underlying136 _ w1.heap.size n D rfl hm3 _ _ rfl hkey ?_; intro w4 hm4 ht4)
          have hB4 : Below w.heap.size w w4 := hB3.grown ht4.grown hB3.size (fun j hj => by cases hj; exact hw1)
          clear hm3 hB3 ht4
          go_wp2_with fail
          refine (sortedAtoms_any w4 w1.heap.size n _ (cutB l) (fun p => Nm.best p l) hm4 (cut_reads HG.out) (fun p hp => best_range HOK.out (by unfold cutB hasB at hp; split at hp; cases hp; simpa using hp))).mono ?_
          rintro e w5 ⟨A5, c5, rfl, ho5, hb5⟩
          rw [HK.out] at ho5 ⊢
          have HO := Lib.hid (own_base ho5 hB4.size)
          have HB := Lib.hid (hB4.trans (hb5.mono hB4.size))
          clear ho5 hb5
          go_wp2
          go_ret2
          rw [HF.out]
          exact ⟨A5, c5, rfl, HO.out, HB.out⟩
        | false =>
          have HK := Lib.hid (keep_of_not hred)
          clear hred
          go_wp2_with fail
          refine (sortedAtoms_any w3 w1.heap.size n _ (hasB l) (fun p => Nm.best p l) hm3 HG.out (fun p hp => best_range HOK.out (by unfold hasB at hp; simpa using hp))).mono ?_
          rintro e w5 ⟨A5, c5, rfl, ho5, hb5⟩
          rw [HK.out] at ho5 ⊢
          have HO := Lib.hid (own_base ho5 hB3.size)
          have HB := Lib.hid (hB3.trans (hb5.mono hB3.size))
          clear ho5 hb5
          go_wp2
          go_ret2
          rw [HF.out]
          exact ⟨A5, c5, rfl, HO.out, HB.out⟩
end Go.Proofs.YtijiohdddfdjfaaDoor

namespace Go.Proofs.YtijiohdddfdjfaaDoor
open Go.RowKit

theorem ok_small {l : List (Int × Int)} (h : Nm.AllOk l) : Small l := fun j hj => by have := (Nm.atOk_iff _).1 (h j hj); omega
theorem normUp_no {l : List (Int × Int)} {x : Int} (h : ¬ (Nm.normOk l = true ∧ 0 ≤ x ∧ x ≤ 1000 ∧ Nm.normOk (Nm.up x l) = true)) : Nm.normUp l x = none := if_neg h
theorem normUp_yes {l : List (Int × Int)} {x : Int} (h : Nm.normOk l = true ∧ 0 ≤ x ∧ x ≤ 1000 ∧ Nm.normOk (Nm.up x l) = true) : Nm.normUp l x = some (Nm.up x l) := if_pos h
theorem up_len (l : List (Int × Int)) (x : Int) : (Nm.up x l).length = l.length := by simp [Nm.up]

/-- the first j of the atoms are raised -/
def Half (l m : List (Int × Int)) (x : Int) (j : Nat) : Prop := m.length = l.length ∧ ∀ i, i < l.length → m.getD i (0, 0) = if i < j then ((l.getD i (0, 0)).1, (l.getD i (0, 0)).2 + x) else l.getD i (0, 0)
theorem half_start (l : List (Int × Int)) (x : Int) : Half l l x 0 := ⟨rfl, fun i _ => by simp⟩
theorem half_step {l m : List (Int × Int)} {x : Int} {j : Nat} (h : Half l m x j) (hj : j < l.length) {p y : Int} (hp : l.getD j (0, 0) = (p, y)) : Half l (m.set j (p, y + x)) x (j + 1) := by
  refine ⟨by rw [List.length_set]; exact h.1, fun i hi => ?_⟩
  by_cases e : i = j
  · subst e
    rw [if_pos (by omega), hp]
    simp [List.getD_eq_getElem?_getD, h.1, hj]
  · have := h.2 i hi
    rw [List.getD_eq_getElem?_getD, List.getElem?_set_ne (by omega), ← List.getD_eq_getElem?_getD, this]
    by_cases hij : i < j
    · rw [if_pos hij, if_pos (by omega)]
    · rw [if_neg hij, if_neg (by omega)]
theorem half_end {l m : List (Int × Int)} {x : Int} (h : Half l m x l.length) : m = Nm.up x l := by
  apply List.ext_getElem (by rw [up_len]; exact h.1)
  intro i h1 h2
  have := h.2 i (by rw [← h.1]; exact h1)
  rw [if_pos (by rw [← h.1]; exact h1)] at this
  have hl : i < l.length := by rw [← h.1]; exact h1
  simpa [Nm.up, List.getD_eq_getElem?_getD, List.getElem?_eq_getElem h1, List.getElem?_eq_getElem hl] using this
theorem half_at {l m : List (Int × Int)} {x : Int} {j : Nat} (h : Half l m x j) (hj : j < l.length) : m[j]? = some (l.getD j (0, 0)) := by
  have := h.2 j hj
  rw [if_neg (by omega)] at this
  rw [← this, List.getD_eq_getElem?_getD, List.getElem?_eq_getElem (by rw [h.1]; exact hj)]
  rfl

end Go.Proofs.YtijiohdddfdjfaaDoor

namespace Go.Proofs.YtijiohdddfdjfaaDoor
open Go.RowKit

/-- the places of the first atoms of a pile's lists, bottom first -/
def starts : List (List (Int × Int)) → List Int
  | [] => []
  | _ :: s => starts s ++ [((s.flatten.length : Nat) : Int)]
theorem starts_len (st : List (List (Int × Int))) : (starts st).length = st.length := by
  induction st with
  | nil => rfl
  | cons a s ih => simp [starts, ih]
/-- the atoms of a pile, bottom first -/
def pileAt (st : List (List (Int × Int))) : List (Int × Int) := st.reverse.flatten
theorem pileAt_cons (a : List (Int × Int)) (s : List (List (Int × Int))) : pileAt (a :: s) = pileAt s ++ a := by simp [pileAt]
theorem pileAt_len (st : List (List (Int × Int))) : (pileAt st).length = st.flatten.length := by
  induction st with
  | nil => rfl
  | cons a s ih => rw [pileAt_cons, List.length_append, ih, List.flatten_cons, List.length_append]; omega
theorem starts_cons (a : List (Int × Int)) (s : List (List (Int × Int))) : starts (a :: s) = starts s ++ [((pileAt s).length : Int)] := by rw [pileAt_len]; rfl
theorem pileAt_max (a b : List (Int × Int)) (s : List (List (Int × Int))) : pileAt ((a ++ b) :: s) = pileAt (b :: a :: s) := by rw [pileAt_cons, pileAt_cons, pileAt_cons, List.append_assoc]

theorem pstep_ok {t : Int × Int} {st st' : List (List (Int × Int))} (h : Nm.pstep t st = some st') : Lv.tkOk t = true := by
  unfold Nm.pstep at h
  split at h
  · assumption
  · cases h
theorem pstep_zero {y : Int} {st st' : List (List (Int × Int))} (h : Nm.pstep (0, y) st = some st') : st' = [(-1, 0)] :: st := by
  have hk := pstep_ok h
  simp only [Nm.pstep, hk, if_true] at h
  injection h with h
  exact h.symm
theorem pstep_par {y : Int} {st st' : List (List (Int × Int))} (h : Nm.pstep (4, y) st = some st') : st' = [(y, 0)] :: st := by
  have hk := pstep_ok h
  simp [Nm.pstep, hk] at h
  exact h.symm
theorem pstep_succ {y : Int} {st st' : List (List (Int × Int))} (h : Nm.pstep (1, y) st = some st') : ∃ a s, st = a :: s ∧ st' = Nm.up 1 a :: s := by
  have hk := pstep_ok h
  rcases st with _ | ⟨a, s⟩
  · simp [Nm.pstep, hk] at h
  · simp [Nm.pstep, hk] at h
    exact ⟨a, s, rfl, h.symm⟩
theorem pstep_max {y : Int} {st st' : List (List (Int × Int))} (h : Nm.pstep (2, y) st = some st') : ∃ a b s, st = b :: a :: s ∧ st' = (a ++ b) :: s := by
  have hk := pstep_ok h
  rcases st with _ | ⟨b, _ | ⟨a, s⟩⟩
  · simp [Nm.pstep, hk] at h
  · simp [Nm.pstep, hk] at h
  · simp [Nm.pstep, hk] at h
    exact ⟨a, b, s, rfl, h.symm⟩

theorem own_form {w : World} {base : Nat} {e : TypeId} {size n : Nat} {v : Value} {xs : List Value} (h : w.ownsRow base e size v n xs) (hn : 0 < n) : ∃ g c, v = .slice (some ⟨g, 0, none⟩) n c := by
  rcases h.2 with ⟨_, h0⟩ | ⟨g, c, _, hv, _⟩
  · omega
  · exact ⟨g, c, hv⟩
theorem own_new {w : World} {base : Nat} {e : TypeId} {size n : Nat} {v : Value} {xs : List Value} (h : w.ownsRow base e size v n xs) : some w.heap.size ≠ v.ownBlock :=
  fun he => absurd (h.lt _ he.symm).2 (Nat.lt_irrefl _)
/-- rows of two kinds lie apart -/
theorem own_apartK {w : World} {base base' : Nat} {e e' : TypeId} {size size' n n' : Nat} {v u : Value} {xs ys : List Value} (h : w.ownsRow base e size v n xs) (h' : w.ownsRow base' e' size' u n' ys) (hne : e ≠ e') : v.ownBlock = none ∨ v.ownBlock ≠ u.ownBlock := by
  cases hv : v.ownBlock with
  | none => exact .inl rfl
  | some g =>
    refine .inr (fun hu => ?_)
    obtain ⟨cs, hb⟩ := own_blk h g hv
    obtain ⟨cs', hb'⟩ := own_blk h' g hu.symm
    exact (hb.apart hb' hne) rfl
theorem own_take {w : World} {base g n m c : Nat} {e : TypeId} {xs : List Value} (h : w.ownsRow base e 1 (.slice (some ⟨g, 0, none⟩) n c) n xs) (hm : m ≤ n) : w.ownsRow base e 1 (.slice (some ⟨g, 0, none⟩) m c) m (xs.take m) := by
  have hl := h.1
  refine ⟨by rw [List.length_take]; omega, ?_⟩
  rcases h.2 with ⟨h0, _⟩ | ⟨g', cap, cur, hv, hb, hh, hnc, hc, hs, ht⟩
  · cases h0
  · injection hv with hv1 hv2 hv3
    injection hv1 with hv1
    injection hv1 with hv1
    subst hv1; subst hv3
    refine .inr ⟨g, c, cur, rfl, hb, hh, by omega, hc, hs, ?_⟩
    rw [← ht, List.take_take]
    congr 1
    omega
theorem put_grown (w : World) (g i : Nat) (u : Value) : w.grownBy (w.setCell ⟨g, i, none⟩ u) (some g) :=
  ⟨rfl, rfl, rfl, by rw [World.size_setCell]; exact Nat.le_refl _, fun k _ hn => Below.heap_setCell w ⟨g, i, none⟩ u k (fun e => hn (by rw [e]))⟩
theorem news_one (w : World) (o : Obj) (v : Value) (t : TypeId) : ∀ j u, [v][j]? = some u → ((w.alloc o).alloc (.cells #[v] t)).cell? ((⟨w.heap.size + 1, 0, none⟩ : Addr).add j) = some u := by
  have h := cell_one_new (w.alloc o) v t
  rw [World.size_alloc] at h
  exact h
theorem leafs_of {l : List (Int × Int)} {a : List (Int × Int)} (h : Nm.prun l [] = some [a]) : Nm.leafs l = a := by rw [Nm.leafs, h]; rfl

set_option maxRecDepth 100000 in
set_option maxHeartbeats 6400000 in
theorem leafAtoms_any (w : World) (B : Nat) (A : Option Addr) (n c : Nat) (l : List (Int × Int)) (hB : B ≤ w.heap.size) (hl : TokR w B A n l) (hn : n ≤ 24) (hok : Lv.levelOk l = true) (h3 : ∀ t ∈ l, t.1 ≠ 3) :
    Calls Tryd.prog 99 #[.slice A n c] w fun e w' => ∃ A' c', e = .returned (.slice A' (Nm.leafs l).length c') ∧ OwnA w' w.heap.size A' (Nm.leafs l).length c' (Nm.leafs l) ∧ Below w.heap.size w w' := by
  obtain ⟨i0, hi, hz0, hz1, hz2⟩ := info_parts info_atom
  obtain ⟨j0, ji, jz0, jz1, jz2⟩ := info_parts info_int
  have HOK := Lib.hid hok
  have H3 := Lib.hid h3
  clear hok h3
  go_enter Tryd.func99, Tryd.ntmps99
  go_wp2
  go_loopw [3, 4, 10] (fun v3 v4 i wr => ∃ (k : Nat) (st : List (List (Int × Int))) (A3 : Option Addr) (N c3 : Nat) (A4 : Option Addr) (D c4 : Nat), k ≤ n ∧ i = .int .i64 k ∧ Hid (Nm.prun (l.take k) [] = some st) ∧ v3 = .slice A3 N c3 ∧ (pileAt st).length = N ∧ OwnA wr w.heap.size A3 N c3 (pileAt st) ∧ v4 = .slice A4 D c4 ∧ st.length = D ∧ OwnI wr w.heap.size A4 D c4 (starts st) ∧ Below w.heap.size w wr) (fun _ _ i _ => n - (intOf i).toNat)
  case atStart => exact ⟨0, [], none, 0, 0, none, 0, 0, Nat.zero_le _, rfl, Lib.hid rfl, rfl, rfl, World.ownsRow_nil _ _ _ _, rfl, rfl, World.ownsRow_nil _ _ _ _, Below.refl _ _⟩
  case round =>
    obtain ⟨k, st, A3, N, c3, A4, D, c4, hk, rfl, HR, rfl, hN, ho3, rfl, hD, ho4, hbel⟩ := hrel
    have hszr := hbel.size
    by_cases hlt : k < n
    · obtain ⟨b, off, rfl, hb, hc⟩ := hl.2 (by omega)
      obtain ⟨x1, x2⟩ := hc k hlt
      have hkl : k < l.length := by rw [hl.1]; exact hlt
      obtain ⟨st', hst'⟩ := Nm.prun_some HOK.out H3.out (k + 1)
      have HR' := Lib.hid hst'
      have hps : Nm.pstep (l.getD k (0, 0)) st = some st' := by
        have h := Nm.prun_take_succ l k hkl []
        rw [hst', HR.out] at h
        exact h.symm
      have hfl := Nm.flat_run HR.out
      have hdl := Nm.len_run HR.out
      have hfine := Nm.fine_run HR.out
      rw [List.length_take] at hfl hdl hfine
      have hN24 : N ≤ 24 := by rw [← hN, pileAt_len]; omega
      have hD24 : D ≤ 24 := by omega
      obtain ⟨t, ht⟩ : ∃ t, l.getD k (0, 0) = t := ⟨_, rfl⟩
      have h3t : t.1 ≠ 3 := by
        rw [← ht]
        refine H3.out _ ?_
        rw [List.getD_eq_getElem?_getD, List.getElem?_eq_getElem hkl]
        exact List.getElem_mem hkl
      rw [ht] at x1 x2 hps
      have htk := pstep_ok hps
      obtain ⟨op, y⟩ := t
      have k1 := (hbel.cell (p := ⟨b, off + k * 2, none⟩) (by show b < _; omega)).trans x1
      have k2 := (hbel.cell (p := ⟨b, off + k * 2 + 1, none⟩) (by show b < _; omega)).trans x2
      have hki : (k : Int) < (n : Int) := by omega
      have HL := Lib.hid hl
      have HBL := Lib.hid hbel
      have hapt := own_apartK ho3 ho4 (by decide)
      have hapt' := own_apartK ho4 ho3 (by decide)
      clear x1 x2 hc ht hst' hl hfl hdl hkl hbel
      rcases Lv.tk_cases htk with e | e | e | e | e
      · obtain rfl : op = 0 := e
        obtain rfl := pstep_zero hps
        have ho4a := (ho4.alloc (.cells #[.int .i64 0, .int .i64 y] 66)).alloc (.cells #[.int .i64 N] 3)
        have ho3a := (ho3.alloc (.cells #[.int .i64 0, .int .i64 y] 66)).alloc (.cells #[.int .i64 N] 3)
        have hba := (HBL.out.alloc hszr (.cells #[.int .i64 0, .int .i64 y] 66)).alloc (by simp; omega) (.cells #[.int .i64 N] 3)
        clear hps htk h3t ho3 ho4 hfine
        go_wp2_with (at_builtin; first
          | (refine wpList_append_own _ rfl (.tmp 18) (.tmp 21) 27 rfl w.heap.size 3 j0 (.int .i64 0) 1 8 Tryd.underlying27 ji jz0 jz1 jz2 rfl (by decide) (.slice A4 D c4) D ((starts st).map (Value.int .i64)) rfl ho4a ⟨wr.heap.size + 1, 0, none⟩ 1 1 [.int .i64 N] rfl rfl (news_one _ _ _ _) (fun u hu => by simp at hu; subst hu; rfl) (by unfold maxLen; omega) (by omega) (by simp; omega) ?_
             intro v' w3 hown' hgrow hnil
             obtain ⟨g4, d4, rfl⟩ := own_form hown' (by omega)
             have ho3b := ho3a.kept hgrow hapt
             have hbb : Below w.heap.size w w3 := hba.grown hgrow (by simp; omega) (fun k h => (ho4a.lt k h).1)
             have ho4b := hown'.alloc (.cells #[.int .i64 (-1), .int .i64 0] 68)
             have ho3c := ho3b.alloc (.cells #[.int .i64 (-1), .int .i64 0] 68)
             have hap2 := own_apartK ho4b ho3c (by decide)
             have hz3 := hbb.size
             clear hown' hgrow hnil ho4a ho3a ho3b hba)
          | (refine wpList_append_own _ rfl (.tmp 23) (.tmp 25) 34 rfl w.heap.size 68 i0 (.agg #[.int .i64 0, .int .i64 0]) 2 16 Tryd.underlying34 hi hz0 hz1 hz2 rfl (by decide) (.slice A3 N c3) N (tokCells (pileAt st)) rfl ho3c ⟨w3.heap.size, 0, none⟩ 1 1 [.int .i64 (-1), .int .i64 0] rfl rfl (World.news_of_block (cs := #[.int .i64 (-1), .int .i64 0]) (t := 68) (fr := (0, 0)) (heap_alloc_new w3 _)) (by intro v hv; simp at hv; rcases hv with rfl | rfl <;> rfl) (by unfold maxLen; omega) (by omega) (by simp; omega) ?_
             intro v' w4 hown' hgrow hnil
             obtain ⟨g3, d3, rfl⟩ := own_form hown' (by omega)
             have HW4 : Hid (OwnI w4 w.heap.size (some ⟨g4, 0, none⟩) (D + 1) d4 (starts ([(-1, 0)] :: st))) := by
               show OwnI _ _ _ _ _ _
               unfold OwnI
               rw [starts_cons, List.map_append, hN]
               exact ho4b.kept hgrow hap2
             have HW3 : Hid (OwnA w4 w.heap.size (some ⟨g3, 0, none⟩) (N + 1) d3 (pileAt ([(-1, 0)] :: st))) := by
               show OwnA _ _ _ _ _ _
               unfold OwnA
               rw [pileAt_cons, tokCells_append]
               exact hown'
             have HB4 : Hid (Below w.heap.size w w4) := (hbb.alloc hz3 _).grown hgrow (by simp; omega) (fun k h => (ho3c.lt k h).1)
             clear hown' hgrow hnil ho4b ho3c hbb))
        go_wp2
        go_roundw
        case rel => exact ⟨k + 1, [(-1, 0)] :: st, some ⟨g3, 0, none⟩, N + 1, d3, some ⟨g4, 0, none⟩, D + 1, d4, by omega, by go_num, HR', rfl, by rw [pileAt_cons, List.length_append, hN]; rfl, HW3.out, rfl, by rw [List.length_cons, hD], HW4.out, HB4.out⟩
        case measure => simp [intOf]; omega
      · obtain rfl : op = 1 := e
        obtain ⟨a, s, rfl, rfl⟩ := pstep_succ hps
        obtain ⟨d, rfl⟩ : ∃ d, D = d + 1 := ⟨s.length, by rw [← hD]; rfl⟩
        obtain ⟨g4, c4', hA4⟩ := own_form ho4 (by omega)
        injection hA4 with hA4 _ hc4
        subst hA4
        clear hc4
        have hpl : (pileAt s).length + a.length = N := by rw [← hN, pileAt_cons, List.length_append]
        obtain ⟨P, hP⟩ : ∃ P, (pileAt s).length = P := ⟨_, rfl⟩
        obtain ⟨Q, hQ⟩ : ∃ Q, a.length = Q := ⟨_, rfl⟩
        have hQ0 : 0 < Q := by rw [← hQ]; exact List.length_pos_iff.2 (hfine a (by simp)).1
        rw [hP, hQ] at hpl
        subst hpl
        obtain ⟨g3, c3', hA3⟩ := own_form ho3 (by omega)
        injection hA3 with hA3 _ hc3
        subst hA3
        clear hc3
        have ho4a := ho4.alloc (.cells #[.int .i64 1, .int .i64 y] 66)
        have ho3a := ho3.alloc (.cells #[.int .i64 1, .int .i64 y] 66)
        have hls := starts_len s
        have hds : s.length = d := by simpa using hD
        have k4 := ho4a.cells (g := g4) rfl d (.int .i64 P) (by rw [starts_cons, List.map_append, List.getElem?_append_right (by rw [List.length_map, hls, hds]; exact Nat.le_refl _), List.length_map, hls, hds, hP]; simp)
        rw [own_adds] at k4
        have hg3 : Hid (w.heap.size ≤ g3) := (ho3.lt g3 rfl).1
        have hne34 : Hid (g3 ≠ g4) := by
          rcases hapt with h | h
          · cases h
          · exact fun e => h (by rw [e]; rfl)
        have HA := Lib.hid ho3a
        have HI := Lib.hid ho4a
        have HBa := Lib.hid (HBL.out.alloc hszr (.cells #[.int .i64 1, .int .i64 y] 66))
        have HPC : Hid (pileAt (a :: s) = pileAt s ++ a) := pileAt_cons a s
        have HSM : Hid (∀ j, j < Q → 0 ≤ (a.getD j (0, 0)).2 ∧ (a.getD j (0, 0)).2 ≤ 24) := by
          intro j hj
          have hmem : a.getD j (0, 0) ∈ a := by
            rw [List.getD_eq_getElem?_getD, List.getElem?_eq_getElem (by omega)]
            exact List.getElem_mem _
          have := (hfine a (by simp)).2 _ hmem
          omega
        have HP := Lib.hid hP
        have HQ := Lib.hid hQ
        have HD := Lib.hid hds
        clear hps htk h3t ho3 ho4 ho3a ho4a hfine hls hds hP hQ hD hN hapt hapt'
        go_wp2
        go_loopw [7] (fun i wx => ∃ (j : Nat) (m : List (Int × Int)), j ≤ Q ∧ i = .int .i64 ((P + j : Nat) : Int) ∧ Hid (Half a m 1 j) ∧ OwnA wx w.heap.size (some ⟨g3, 0, none⟩) (P + Q) c3 (pileAt s ++ m) ∧ OwnI wx w.heap.size (some ⟨g4, 0, none⟩) (d + 1) c4 (starts (a :: s)) ∧ Below w.heap.size w wx) (fun i _ => P + Q - (intOf i).toNat)
        case atStart => exact ⟨0, a, Nat.zero_le _, rfl, half_start a 1, by rw [← HPC.out]; exact HA.out, HI.out, HBa.out⟩
        case round =>
          obtain ⟨j, m, hj, rfl, HH, hown, howi, hbx⟩ := hrel
          by_cases hjq : j < Q
          · have hja : j < a.length := by rw [HQ.out]; exact hjq
            have hat := half_at HH.out hja
            have hsm := HSM.out j hjq
            obtain ⟨t, ht⟩ : ∃ t, a.getD j (0, 0) = t := ⟨_, rfl⟩
            rw [ht] at hat hsm
            obtain ⟨p, z⟩ := t
            simp only at hsm
            obtain ⟨z0, z1⟩ := hsm
            have HN := Lib.hid (half_step HH.out hja ht)
            have hat2 : (pileAt s ++ m)[P + j]? = some (p, z) := by rw [List.getElem?_append_right (by rw [HP.out]; omega), HP.out, Nat.add_sub_cancel_left]; exact hat
            have hgd : (pileAt s ++ m).getD (P + j) (0, 0) = (p, z) := by rw [List.getD_eq_getElem?_getD, hat2]; rfl
            have hcl := tokCells_at (pileAt s ++ m) (P + j) (by rw [List.length_append, HP.out, HH.out.1, HQ.out]; omega)
            rw [hgd] at hcl
            have k5 := hown.cells (g := g3) rfl ((P + j) * 2 + 1) _ hcl.2
            rw [own_adds] at k5
            have hput := own_put hown ((P + j) * 2 + 1) (.int .i64 (z + 1))
            have hse : (pileAt s ++ m).set (P + j) (p, z + 1) = pileAt s ++ m.set j (p, z + 1) := by rw [List.set_append_right _ _ (by rw [HP.out]; omega), HP.out, Nat.add_sub_cancel_left]
            rw [← tokCells_set (pileAt s ++ m) (P + j) p z (z + 1) hat2, hse] at hput
            have HPu := Lib.hid hput
            have HIu := Lib.hid (howi.kept (put_grown _ g3 ((P + j) * 2 + 1) (.int .i64 (z + 1))) (.inr (fun h => hne34.out (by injection h with h; exact h.symm))))
            have HBu := Lib.hid (hbx.setCell (p := ⟨g3, (P + j) * 2 + 1, none⟩) hg3.out (.int .i64 (z + 1)))
            obtain ⟨cs, hblk⟩ := own_blk hown g3 rfl
            have f1 := hblk.thawed ((P + j) * 2 + 1)
            have hlt5 : ((P + j : Nat) : Int) < ((P + Q : Nat) : Int) := by omega
            have hlt6 : P + j < P + Q := by omega
            clear hput hat ht hcl hgd hown hblk howi hbx hat2 hse
            go_wp2
            go_roundw
            case rel => exact ⟨j + 1, m.set j (p, z + 1), by omega, by go_num, HN, HPu.out, HIu.out, HBu.out⟩
            case measure => simp [intOf]; omega
          · obtain rfl : j = Q := by omega
            have hup : m = Nm.up 1 a := half_end (by have h := HH.out; rw [HQ.out]; exact h)
            subst hup
            have HA2 := Lib.hid hown
            have HI2 := Lib.hid howi
            have HUL : Hid ((Nm.up 1 a).length = j) := by show _ = _; rw [up_len]; exact HQ.out
            clear hown howi
            go_wp2
            go_roundw
            case rel => exact ⟨k + 1, Nm.up 1 a :: s, some ⟨g3, 0, none⟩, P + j, c3, some ⟨g4, 0, none⟩, d + 1, c4, by omega, by go_num, HR', rfl, by rw [pileAt_cons, List.length_append, HP.out, HUL.out], by rw [pileAt_cons]; exact HA2.out, rfl, by rw [List.length_cons, HD.out], HI2.out, hbx⟩
            case measure => simp [intOf]; omega
      · obtain rfl : op = 2 := e
        obtain ⟨a, b2, s, rfl, rfl⟩ := pstep_max hps
        obtain ⟨d, rfl⟩ : ∃ d, D = d + 1 := ⟨s.length + 1, by rw [← hD]; rfl⟩
        obtain ⟨g4, c4', hA4⟩ := own_form ho4 (by omega)
        injection hA4 with hA4 _ hc4
        subst hA4
        clear hc4
        have hds : (a :: s).length = d := by simpa using hD
        have hcap : d ≤ c4 := by
          rcases ho4.2 with ⟨h0, _⟩ | ⟨g', cap', cur, hv, hb, hgg, q1, q2, q3, q4⟩
          · cases h0
          · injection hv with e1 e2 e3
            omega
        have hst : (starts (b2 :: a :: s)).take d = starts ((a ++ b2) :: s) := by
          rw [starts_cons, List.take_append_of_le_length (by rw [starts_len, hds]; exact Nat.le_refl _), List.take_of_length_le (by rw [starts_len, hds]; exact Nat.le_refl _)]
          rfl
        have hot := own_take (ho4.alloc (.cells #[.int .i64 2, .int .i64 y] 66)) (show d ≤ d + 1 by omega)
        rw [← List.map_take, hst] at hot
        have HT := Lib.hid hot
        have HA := Lib.hid (ho3.alloc (.cells #[.int .i64 2, .int .i64 y] 66))
        have HBa := Lib.hid (HBL.out.alloc hszr (.cells #[.int .i64 2, .int .i64 y] 66))
        clear hps htk h3t ho3 ho4 hfine hst hot
        go_wp2
        go_roundw
        case rel => exact ⟨k + 1, (a ++ b2) :: s, A3, N, c3, some ⟨g4, 0, none⟩, d, c4, by omega, by go_num, HR', rfl, by rw [pileAt_max]; exact hN, by rw [pileAt_max]; exact HA.out, rfl, by rw [← hds]; rfl, HT.out, HBa.out⟩
        case measure => simp [intOf]; omega
      · exact absurd e h3t
      · obtain rfl : op = 4 := e
        obtain rfl := pstep_par hps
        have ho4a := (ho4.alloc (.cells #[.int .i64 4, .int .i64 y] 66)).alloc (.cells #[.int .i64 N] 3)
        have ho3a := (ho3.alloc (.cells #[.int .i64 4, .int .i64 y] 66)).alloc (.cells #[.int .i64 N] 3)
        have hba := (HBL.out.alloc hszr (.cells #[.int .i64 4, .int .i64 y] 66)).alloc (by simp; omega) (.cells #[.int .i64 N] 3)
        have hnew := own_new ho4
        clear hps htk h3t ho3 ho4 hfine
        go_wp2_with (at_builtin; first
          | (refine wpList_append_own _ rfl (.tmp 29) (.tmp 32) 27 rfl w.heap.size 3 j0 (.int .i64 0) 1 8 Tryd.underlying27 ji jz0 jz1 jz2 rfl (by decide) (.slice A4 D c4) D ((starts st).map (Value.int .i64)) rfl ho4a ⟨wr.heap.size + 1, 0, none⟩ 1 1 [.int .i64 N] rfl rfl (news_one _ _ _ _) (fun u hu => by simp at hu; subst hu; rfl) (by unfold maxLen; omega) (by omega) (by simp; omega) ?_
             intro v' w3 hown' hgrow hnil
             obtain ⟨g4, d4, rfl⟩ := own_form hown' (by omega)
             have ho3b := ho3a.kept hgrow hapt
             have hbb : Below w.heap.size w w3 := hba.grown hgrow (by simp; omega) (fun k h => (ho4a.lt k h).1)
             have ho4b := hown'.alloc (.cells #[.int .i64 y, .int .i64 0] 68)
             have ho3c := ho3b.alloc (.cells #[.int .i64 y, .int .i64 0] 68)
             have hap2 := own_apartK ho4b ho3c (by decide)
             have hz3 := hbb.size
             have ky := ((((Blk.made wr 66 #[.int .i64 4, .int .i64 y]).alloc (.cells #[.int .i64 N] 3)).grown hgrow hnew).cell 1)
             have ky' : w3.cell? ⟨wr.heap.size, 1, none⟩ = some (.int .i64 y) := ky
             clear ky
             clear hown' hgrow hnil ho4a ho3a ho3b hba)
          | (refine wpList_append_own _ rfl (.tmp 34) (.tmp 38) 34 rfl w.heap.size 68 i0 (.agg #[.int .i64 0, .int .i64 0]) 2 16 Tryd.underlying34 hi hz0 hz1 hz2 rfl (by decide) (.slice A3 N c3) N (tokCells (pileAt st)) rfl ho3c ⟨w3.heap.size, 0, none⟩ 1 1 [.int .i64 y, .int .i64 0] rfl rfl (World.news_of_block (cs := #[.int .i64 y, .int .i64 0]) (t := 68) (fr := (0, 0)) (heap_alloc_new w3 _)) (by intro v hv; simp at hv; rcases hv with rfl | rfl <;> rfl) (by unfold maxLen; omega) (by omega) (by simp; omega) ?_
             intro v' w4 hown' hgrow hnil
             obtain ⟨g3, d3, rfl⟩ := own_form hown' (by omega)
             have HW4 : Hid (OwnI w4 w.heap.size (some ⟨g4, 0, none⟩) (D + 1) d4 (starts ([(y, 0)] :: st))) := by
               show OwnI _ _ _ _ _ _
               unfold OwnI
               rw [starts_cons, List.map_append, hN]
               exact ho4b.kept hgrow hap2
             have HW3 : Hid (OwnA w4 w.heap.size (some ⟨g3, 0, none⟩) (N + 1) d3 (pileAt ([(y, 0)] :: st))) := by
               show OwnA _ _ _ _ _ _
               unfold OwnA
               rw [pileAt_cons, tokCells_append]
               exact hown'
             have HB4 : Hid (Below w.heap.size w w4) := (hbb.alloc hz3 _).grown hgrow (by simp; omega) (fun k h => (ho3c.lt k h).1)
             clear hown' hgrow hnil ho4b ho3c hbb))
        go_wp2
        go_roundw
        case rel => exact ⟨k + 1, [(y, 0)] :: st, some ⟨g3, 0, none⟩, N + 1, d3, some ⟨g4, 0, none⟩, D + 1, d4, by omega, by go_num, HR', rfl, by rw [pileAt_cons, List.length_append, hN]; rfl, HW3.out, rfl, by rw [List.length_cons, hD], HW4.out, HB4.out⟩
        case measure => simp [intOf]; omega
    · obtain rfl : k = n := by omega
      obtain ⟨a, ha⟩ := Nm.prun_one HOK.out H3.out
      have hst : st = [a] := by
        have h := HR.out
        rw [List.take_of_length_le (by rw [hl.1]; exact Nat.le_refl _), ha] at h
        injection h with h
        exact h.symm
      subst hst
      have HLF := Lib.hid (leafs_of ha)
      have hpa : pileAt [a] = a := by simp [pileAt]
      rw [hpa] at hN ho3
      have HA := Lib.hid ho3
      have HNN := Lib.hid hN
      clear ha hpa ho3 ho4 hN
      go_wp2
      go_ret
      exact ⟨A3, c3, by rw [HLF.out, HNN.out]; rfl, by rw [HLF.out, HNN.out]; exact HA.out, hbel⟩
end Go.Proofs.YtijiohdddfdjfaaDoor

namespace Go.Proofs.YtijiohdddfdjfaaDoor
open Go.RowKit

theorem hts_tk {l : List (Int × Int)} {n m : Int} (h : Lv.hts l n = some m) : ∀ t ∈ l, Lv.tkOk t = true := by
  induction l generalizing n with
  | nil => intro t ht; cases ht
  | cons a r ih =>
    simp only [Lv.hts] at h
    split at h
    · rename_i hc
      intro t ht
      rcases List.mem_cons.1 ht with rfl | ht
      · exact hc.1
      · exact ih h t ht
    · cases h
theorem no3_of {l : List (Int × Int)} (h : Lv.levelOk l = true) (hm : (3, 0) ∉ l) : ∀ t ∈ l, t.1 ≠ 3 := by
  simp only [Lv.levelOk, Bool.and_eq_true, decide_eq_true_eq] at h
  intro t ht e
  have hk := hts_tk h.2 t ht
  obtain ⟨a, b⟩ := t
  simp only at e
  subst e
  simp [Lv.tkOk] at hk
  have hb : b = 0 := by omega
  subst hb
  exact hm ht
theorem freeR_no {l : List (Int × Int)} (h : ¬ (Lv.levelOk l = true ∧ ∀ t ∈ l, t.1 ≠ 3)) : Nm.freeR l = none := if_neg h
theorem freeR_yes {l : List (Int × Int)} (h : Lv.levelOk l = true ∧ ∀ t ∈ l, t.1 ≠ 3) : Nm.freeR l = some (Nm.norm (Nm.leafs l)) := if_pos h
theorem ok_lenN {l : List (Int × Int)} (h : Lv.levelOk l = true) : 1 ≤ l.length ∧ l.length ≤ 24 := by
  simp only [Lv.levelOk, Bool.and_eq_true, decide_eq_true_eq] at h
  exact h.1
/-- the leaves of a right level without imax are few and right -/
theorem leafs_ok {l : List (Int × Int)} (h : Lv.levelOk l = true) (h3 : ∀ t ∈ l, t.1 ≠ 3) : 1 ≤ (Nm.leafs l).length ∧ (Nm.leafs l).length ≤ 24 ∧ Nm.AllOk (Nm.leafs l) := by
  obtain ⟨a, ha⟩ := Nm.prun_one h h3
  have hl := ok_lenN h
  have hf := Nm.fine_run ha
  have hn := Nm.flat_run ha
  rw [leafs_of ha]
  simp at hn
  refine ⟨List.length_pos_iff.2 (hf a (by simp)).1, by omega, hf.allOk (by omega) (by simp)⟩

set_option maxRecDepth 100000 in
set_option maxHeartbeats 3200000 in
theorem implNormFree_any (w : World) (B : Nat) (A : Option Addr) (n c : Nat) (l : List (Int × Int)) (T : TypeId) (pv : Value) (h0 : 0 < B) (hB : B ≤ w.heap.size) (hl : TokR w B A n l) (hn : (n : Int) ≤ 140737488355328) (hE : ErrAt w T pv) :
    Calls Tryd.prog 78 #[.slice A n c] w (ResA w (Nm.freeR l)) := by
  cases h1 : Lv.levelOk l with
  | false =>
    have HF : Hid (Nm.freeR l = none) := freeR_no (fun h => by rw [h1] at h; cases h.1)
    have HO := Lib.hid h1
    clear h1
    go_enter Tryd.func78, Tryd.ntmps78
    go_wp2_with fail
    refine (levelOk_any w B A n c l T pv h0 hB hl hn hE).mono ?_
    rintro e w1 ⟨rfl, hb1⟩
    rw [HO.out]
    go_wp2
    go_ret2
    rw [HF.out]
    exact resA_none hb1
  | true =>
    have HO := Lib.hid h1
    have hn24 : n ≤ 24 := by rw [← hl.1]; exact (ok_lenN h1).2
    clear h1
    by_cases hm : (3, 0) ∈ l
    · have HF : Hid (Nm.freeR l = none) := freeR_no (fun h => h.2 _ hm rfl)
      have HM : Hid (decide (((3 : Int), (0 : Int)) ∈ l) = true) := by show _ = _; simp [hm]
      clear hm
      go_enter Tryd.func78, Tryd.ntmps78
      go_wp2_with fail
      refine (levelOk_any w B A n c l T pv h0 hB hl hn hE).mono ?_
      rintro e w1 ⟨rfl, hb1⟩
      rw [HO.out]
      go_wp2_with fail
      refine (contains_any w1 B A n c l 3 0 (Nat.le_trans hB hb1.size) (hl.below (hb1.mono hB)) (by omega)).mono ?_
      rintro e w2 ⟨rfl, hb2⟩
      rw [HM.out]
      have HB := Lib.hid (hb1.trans (hb2.mono hb1.size))
      clear hb1 hb2
      go_wp2
      go_ret2
      rw [HF.out]
      exact resA_none HB.out
    · have h3 := no3_of HO.out hm
      have HF : Hid (Nm.freeR l = some (Nm.norm (Nm.leafs l))) := freeR_yes ⟨HO.out, h3⟩
      have HM : Hid (decide (((3 : Int), (0 : Int)) ∈ l) = false) := by show _ = _; simp [hm]
      have hlo := leafs_ok HO.out h3
      have HNO : Hid (Nm.normOf (Nm.leafs l) = some (Nm.norm (Nm.leafs l))) := normOf_yes ⟨hlo.1, by omega, hlo.2.2⟩
      have hl24 := hlo.2.1
      have H3 := Lib.hid h3
      clear hm h3 hlo
      go_enter Tryd.func78, Tryd.ntmps78
      go_wp2_with fail
      refine (levelOk_any w B A n c l T pv h0 hB hl hn hE).mono ?_
      rintro e w1 ⟨rfl, hb1⟩
      rw [HO.out]
      go_wp2_with fail
      refine (contains_any w1 B A n c l 3 0 (Nat.le_trans hB hb1.size) (hl.below (hb1.mono hB)) (by omega)).mono ?_
      rintro e w2 ⟨rfl, hb2⟩
      rw [HM.out]
      have hb12 := hb1.trans (hb2.mono hb1.size)
      clear hb1 hb2
      go_wp2_with fail
      refine (leafAtoms_any w2 B A n c l (Nat.le_trans hB hb12.size) (hl.below (hb12.mono hB)) hn24 HO.out H3.out).mono ?_
      rintro e w3 ⟨A3, c3, rfl, ho3, hb3⟩
      have hb13 := hb12.trans (hb3.mono hb12.size)
      obtain ⟨L, hL⟩ : ∃ L, (Nm.leafs l).length = L := ⟨_, rfl⟩
      rw [hL] at ho3 hl24 ⊢
      clear hb12 hb3
      go_wp2_with fail
      refine (implNormOf_any w3 w3.heap.size A3 L c3 (Nm.leafs l) (Nat.le_refl _) (OwnA.reads ho3) (by omega)).mono ?_
      rintro e w4 ⟨A4, c4, rfl, ho4, hb4⟩
      rw [HNO.out] at ho4 ⊢
      have HO4 := Lib.hid (own_base ho4 hb13.size)
      have HB4 := Lib.hid (hb13.trans (hb4.mono hb13.size))
      clear ho4 hb4 ho3 hb13
      go_wp2
      go_ret2
      rw [HF.out]
      exact ⟨A4, c4, rfl, HO4.out, HB4.out⟩
end Go.Proofs.YtijiohdddfdjfaaDoor

namespace Go.Proofs.YtijiohdddfdjfaaDoor
open Go.RowKit

/-- a leaf for a sign -/
def leafT (s : Int) (t : Int × Int) : Int × Int := if t.1 = 4 ∧ Sg.has s t.2 = false then (0, 0) else t
/-- a join for a sign -/
def joinT (s op : Int) (a b : List (Int × Int)) : List (Int × Int) := if op = 3 ∧ lsgR b s = 0 then [(0, 0)] else a ++ (b ++ [(2, 0)])

set_option maxHeartbeats 800000 in
theorem leafFor_any (w : World) (op y s : Int) :
    Calls Tryd.prog 100 #[.agg #[.int .i64 op, .int .i64 y], .int .i64 s] w fun e w' => e = .returned (.agg #[.int .i64 (leafT s (op, y)).1, .int .i64 (leafT s (op, y)).2]) ∧ Below w.heap.size w w' := by
  have HB : ∀ o : Obj, Below w.heap.size w ((w.alloc (.cells #[.int .i64 op, .int .i64 y] 66)).alloc o) := fun o => ((Below.refl _ _).alloc (Nat.le_refl _) _).alloc (by simp) _
  by_cases h4 : op = 4
  · subst h4
    cases hh : Sg.has s y with
    | true =>
      have HL : Hid (leafT s (4, y) = (4, y)) := by unfold Hid leafT; simp [hh]
      go_enter Tryd.func100, Tryd.ntmps100
      go_wp2_with fail
      refine (implSignHas_any _ s y).mono ?_
      rintro e w1 ⟨rfl, rfl⟩
      rw [hh]
      go_wp2
      exact bodyPost_ret (v := .agg #[.int .i64 4, .int .i64 y]) (by simp [results, Tryd.results100, go_sem]) rfl ⟨by rw [HL.out], HB _⟩
    | false =>
      have HL : Hid (leafT s (4, y) = (0, 0)) := by unfold Hid leafT; simp [hh]
      go_enter Tryd.func100, Tryd.ntmps100
      go_wp2_with fail
      refine (implSignHas_any _ s y).mono ?_
      rintro e w1 ⟨rfl, rfl⟩
      rw [hh]
      go_wp2
      exact bodyPost_ret (v := .agg #[.int .i64 0, .int .i64 0]) (by simp [results, Tryd.results100, go_sem]) rfl ⟨by rw [HL.out], HB _⟩
  · have HL : Hid (leafT s (op, y) = (op, y)) := by unfold Hid leafT; simp [h4]
    have d4 : (op == 4) = false := by simpa using h4
    clear h4
    go_enter Tryd.func100, Tryd.ntmps100
    go_wp2
    exact bodyPost_ret (v := .agg #[.int .i64 op, .int .i64 y]) (by simp [results, Tryd.results100, go_sem]) rfl ⟨by rw [HL.out], HB _⟩

theorem own_litJ {w : World} {g base : Nat} {a b : Int} (h : Blk w g 66 #[.int .i64 a, .int .i64 b]) (hb : base ≤ g) : OwnT w base (some ⟨g, 0, none⟩) 1 1 [(a, b)] :=
  ⟨rfl, .inr ⟨g, 1, #[.int .i64 a, .int .i64 b], rfl, hb, h, Nat.le_refl _, by simp [maxLen], rfl, rfl⟩⟩

set_option maxRecDepth 100000 in
set_option maxHeartbeats 1600000 in
theorem joinFor_any (w : World) (B : Nat) (op s : Int) (A0 : Option Addr) (n0 c0 : Nat) (l0 : List (Int × Int)) (A1 : Option Addr) (n1 c1 : Nat) (l1 : List (Int × Int)) (T : TypeId) (pv : Value) (h0 : 0 < B) (hB : B ≤ w.heap.size)
    (hl0 : TokR w B A0 n0 l0) (hn0 : n0 ≤ 100) (h10 : 1 ≤ n0) (hl1 : TokR w B A1 n1 l1) (hn1 : n1 ≤ 100) (h11 : 1 ≤ n1) (hE : ErrAt w T pv) :
    Calls Tryd.prog 101 #[.int .i64 op, .slice A0 n0 c0, .slice A1 n1 c1, .int .i64 s] w (ResT w (joinT s op l0 l1)) := by
  by_cases hz : op = 3 ∧ lsgR l1 s = 0
  · obtain ⟨rfl, hz⟩ := hz
    have HJ : Hid (joinT s 3 l0 l1 = [(0, 0)]) := by unfold Hid joinT; rw [if_pos ⟨rfl, hz⟩]
    have HZ := Lib.hid hz
    clear hz
    go_enter Tryd.func101, Tryd.ntmps101
    go_wp2_with fail
    refine (implLevelSign_any w B A1 n1 c1 l1 s T pv h0 hB hl1 (by omega) hE).mono ?_
    rintro e w1 ⟨rfl, hb1⟩
    rw [HZ.out]
    have HO : Hid (OwnT (w1.alloc (.cells #[.int .i64 0, .int .i64 0] 66)) w.heap.size (some ⟨w1.heap.size, 0, none⟩) 1 1 [(0, 0)]) := own_litJ (Blk.made w1 _ _) hb1.size
    have HB1 := Lib.hid (hb1.alloc hb1.size (.cells #[.int .i64 0, .int .i64 0] 66))
    clear hb1
    go_wp2
    go_ret
    rw [HJ.out]
    exact ⟨_, _, rfl, HO.out, HB1.out⟩
  · have HJ : Hid (joinT s op l0 l1 = l0 ++ (l1 ++ [(2, 0)])) := by unfold Hid joinT; rw [if_neg hz]
    have HFn : Hid ([l0, l1, [((2 : Int), (0 : Int))]].flatten.length = n0 + n1 + 1) := by show _ = _; simp [hl0.1, hl1.1]; omega
    have HFL : Hid ([l0, l1, [((2 : Int), (0 : Int))]].flatten = l0 ++ (l1 ++ [(2, 0)])) := by show _ = _; simp
    have HFN2 : Hid ((l0 ++ (l1 ++ [((2 : Int), (0 : Int))])).length = n0 + n1 + 1) := by show _ = _; simp [hl0.1, hl1.1]; omega
    by_cases h3 : op = 3
    · subst h3
      have hz' : (lsgR l1 s == 0) = false := by simp; exact fun h => hz ⟨rfl, h⟩
      obtain ⟨v, hv⟩ : ∃ v, lsgR l1 s = v := ⟨_, rfl⟩
      rw [hv] at hz'
      have HV := Lib.hid hv
      clear hz hv
      go_enter Tryd.func101, Tryd.ntmps101
      go_wp2_with fail
      refine (implLevelSign_any w B A1 n1 c1 l1 s T pv h0 hB hl1 (by omega) hE).mono ?_
      rintro e w2 ⟨rfl, hb12⟩
      rw [HV.out]
      have HS2 := Lib.hid hb12.size
      obtain ⟨q0, rfl, hq0⟩ := (hl0.below (hb12.mono hB)).tokA (by omega)
      obtain ⟨q1, rfl, hq1⟩ := (hl1.below (hb12.mono hB)).tokA (by omega)
      have HPt := Lib.hid (parts3 (c0 := c0) (c1 := c1) 2 (Nat.le_trans hB hb12.size) hq0 hq1 hl0.1 hl1.1)
      have HBA := Lib.hid ((hb12.alloc hb12.size (.cells #[.int .i64 2, .int .i64 0] 66)).alloc (by simp; exact Nat.le_succ_of_le hb12.size) (.cells #[.slice (some q0) n0 c0, .slice (some q1) n1 c1, .slice (some ⟨w2.heap.size, 0, none⟩) 1 1] 24))
      clear hq0 hq1 hb12
      go_wp2_with fail
      refine (concat_any _ (w2.heap.size + 2) (w2.heap.size + 1) 3 _ _ [l0, l1, [(2, 0)]] (by simp) HPt.out (by simp) (by rw [HFn.out]; omega) (by rw [HFn.out]; omega)).mono ?_
      rintro e w3 ⟨g3, c3, rfl, ho3, hb3⟩
      rw [HFn.out] at ho3 ⊢
      rw [HFL.out] at ho3
      have HO3 := Lib.hid (own_base (base' := w.heap.size) ho3 (by have := HS2.out; simp; omega))
      have HB3 := Lib.hid (HBA.out.trans (hb3.mono (by have := HS2.out; simp; omega)))
      clear ho3 hb3 HBA HPt
      go_wp2
      go_ret
      rw [HJ.out]
      exact ⟨_, _, by rw [HFN2.out]; rfl, by rw [HFN2.out]; exact HO3.out, HB3.out⟩
    · have d3 : (op == 3) = false := by simpa using h3
      have HS2 : Hid (w.heap.size ≤ w.heap.size) := Nat.le_refl _
      obtain ⟨q0, rfl, hq0⟩ := hl0.tokA (by omega)
      obtain ⟨q1, rfl, hq1⟩ := hl1.tokA (by omega)
      have HPt := Lib.hid (parts3 (c0 := c0) (c1 := c1) 2 hB hq0 hq1 hl0.1 hl1.1)
      have HBA := Lib.hid (((Below.refl w.heap.size w).alloc (Nat.le_refl _) (.cells #[.int .i64 2, .int .i64 0] 66)).alloc (by simp) (.cells #[.slice (some q0) n0 c0, .slice (some q1) n1 c1, .slice (some ⟨w.heap.size, 0, none⟩) 1 1] 24))
      clear hq0 hq1 hz h3
      go_enter Tryd.func101, Tryd.ntmps101
      go_wp2_with fail
      refine (concat_any _ (w.heap.size + 2) (w.heap.size + 1) 3 _ _ [l0, l1, [(2, 0)]] (by simp) HPt.out (by simp) (by rw [HFn.out]; omega) (by rw [HFn.out]; omega)).mono ?_
      rintro e w3 ⟨g3, c3, rfl, ho3, hb3⟩
      rw [HFn.out] at ho3 ⊢
      rw [HFL.out] at ho3
      have HO3 := Lib.hid (own_base (base' := w.heap.size) ho3 (by simp; omega))
      have HB3 := Lib.hid (HBA.out.trans (hb3.mono (by simp; omega)))
      clear ho3 hb3 HBA HPt HS2
      go_wp2
      go_ret
      rw [HJ.out]
      exact ⟨_, _, by rw [HFN2.out]; rfl, by rw [HFN2.out]; exact HO3.out, HB3.out⟩
end Go.Proofs.YtijiohdddfdjfaaDoor

namespace Go.Proofs.YtijiohdddfdjfaaDoor
open Go.Proofs.YtijiohdddfdjfaaDoor.Lv

namespace Nm
theorem pstep_frame {t : Tk} {u x st : List (List At)} (h : pstep t u = some x) : pstep t (u ++ st) = some (x ++ st) := by
  unfold pstep at h ⊢
  by_cases hok : tkOk t = true
  · rw [if_pos hok] at h ⊢
    by_cases h0 : t.1 = 0
    · rw [if_pos h0] at h ⊢; injection h with h; subst h; rfl
    · rw [if_neg h0] at h ⊢
      by_cases h4 : t.1 = 4
      · rw [if_pos h4] at h ⊢; injection h with h; subst h; rfl
      · rw [if_neg h4] at h ⊢
        by_cases h1 : t.1 = 1
        · rw [if_pos h1] at h ⊢
          match u, h with
          | a :: r, h => simp only at h; injection h with h; subst h; rfl
          | [], h => simp at h
        · rw [if_neg h1] at h ⊢
          by_cases h2 : t.1 = 2
          · rw [if_pos h2] at h ⊢
            match u, h with
            | b :: a :: r, h => simp only at h; injection h with h; subst h; rfl
            | [b], h => simp at h
            | [], h => simp at h
          · rw [if_neg h2] at h; cases h
  · rw [if_neg hok] at h; cases h
theorem prun_frame {l : List Tk} (st : List (List At)) : ∀ {u x : List (List At)}, prun l u = some x → prun l (u ++ st) = some (x ++ st) := by
  induction l with
  | nil => intro u x h; simp only [prun] at h ⊢; injection h with h; subst h; rfl
  | cons t r ih =>
    intro u x h
    simp only [prun] at h ⊢
    cases hq : pstep t u with
    | none => rw [hq] at h; cases h
    | some y =>
      rw [hq, Option.bind_some] at h
      rw [pstep_frame hq, Option.bind_some]
      exact ih h
/-- a level without imax whose leaves are these atoms -/
def TRel (ts : List Tk) (a : List At) : Prop := prun ts [] = some [a] ∧ ∀ t ∈ ts, t.1 ≠ 3
theorem TRel.ok {ts : List Tk} {a : List At} (h : TRel ts a) (hl : ts.length ≤ 24) : levelOk ts = true := by
  have h1 := prun_height h.2 []
  rw [h.1] at h1
  have hn : 1 ≤ ts.length := by
    cases ts with
    | nil => have := h.1; simp [prun] at this
    | cons => simp
  simp only [levelOk, Bool.and_eq_true, decide_eq_true_eq]
  exact ⟨⟨hn, hl⟩, by simpa using h1.symm⟩
theorem TRel.pos {ts : List Tk} {a : List At} (h : TRel ts a) : 1 ≤ ts.length := by
  cases ts with
  | nil => have := h.1; simp [prun] at this
  | cons => simp
theorem trel_zero : TRel [(0, 0)] [(-1, 0)] := ⟨by decide, by simp⟩
theorem trel_leaf {s y : Int} (h0 : 0 ≤ y) (h5 : y < 5) : TRel [leafT s (4, y)] [pl s (y, 0)] := by
  unfold leafT pl
  cases hh : Sg.has s y with
  | true =>
    simp only [Bool.true_eq_false, and_false, if_false]
    refine ⟨?_, by simp⟩
    simp [prun, pstep, tkOk, h0, h5]
  | false =>
    simp only [and_self, if_true, h0]
    exact trel_zero
theorem trel_succ {ts : List Tk} {a : List At} (h : TRel ts a) : TRel (ts ++ [(1, 0)]) (up 1 a) := by
  refine ⟨?_, fun t ht => ?_⟩
  · rw [prun_append, h.1]; rfl
  · rcases List.mem_append.1 ht with ht | ht
    · exact h.2 t ht
    · obtain rfl : t = (1, 0) := by simpa using ht
      simp
theorem trel_join {ta tb : List Tk} {a b : List At} (ha : TRel ta a) (hb : TRel tb b) : TRel (ta ++ (tb ++ [(2, 0)])) (a ++ b) := by
  refine ⟨?_, fun t ht => ?_⟩
  · rw [prun_append, ha.1, Option.bind_some, prun_append]
    have := prun_frame [a] hb.1
    rw [List.nil_append] at this
    rw [this]; rfl
  · rcases List.mem_append.1 ht with ht | ht
    · exact ha.2 t ht
    · rcases List.mem_append.1 ht with ht | ht
      · exact hb.2 t ht
      · obtain rfl : t = (2, 0) := by simpa using ht
        simp
theorem least_pos (s : Int) : Pos (Sg.least s) := fun x hx => ((envOk_mem (Sg.least_ok s)).2 x hx).1
theorem least_has {s p : Int} (h : Sg.has s p = true) : (Sg.least s).getD p.toNat 0 = 1 := by
  have hp : 0 ≤ p ∧ p < 5 := by unfold Sg.has at h; simp at h; omega
  rw [Sg.least_get s p.toNat (by omega)]
  unfold Sg.bit
  rw [show ((p.toNat : Nat) : Int) = p by omega, h, if_pos rfl]
theorem value_zero {s : Int} {a : List At} (hp : Pst s a) (hok : AllOk a) : value (Sg.least s) a = 0 ↔ zeroL a = true := by
  rw [zeroL_iff]
  constructor
  · intro h x hx
    have hv := value_mem (env := Sg.least s) hx
    have hm := hok.mem hx
    rw [h] at hv
    obtain ⟨p, y⟩ := x
    unfold val at hv
    simp only at hv hm
    rcases hp _ hx with e | e
    · simp only at e
      subst e
      rw [if_pos rfl] at hv
      have : y = 0 := by omega
      rw [this]
    · simp only at e
      have hl := least_has e
      have hpp : p ≠ -1 := by intro h; subst h; simp [Sg.has] at e
      rw [if_neg hpp, hl] at hv
      omega
  · intro h
    have h1 := value_ge (Sg.least s) a
    have h2 := value_le (env := Sg.least s) (l := a) (v := 0) (by omega) (fun x hx => by rw [h x hx]; simp [val])
    omega
theorem lsg_zero {s : Int} {ts : List Tk} {a : List At} (h : TRel ts a) (hl : ts.length ≤ 24) (hs : Sg.isSign s = true) (hp : Pst s a) (hok : AllOk a) : lsgR ts s = 0 ↔ zeroL a = true := by
  have hlo := h.ok hl
  have he := eval_leafs (least_pos s) hlo h.2
  rw [leafs_of h.1, value_norm (least_pos s) hok] at he
  rw [lsgR_some hs (v := value (Sg.least s) a) (by simp [evalR, Sg.least_ok, he]), ← value_zero hp hok]
  have := value_ge (Sg.least s) a
  omega
/-- rows of tokens that stand for the pile, both with their tops first -/
def TS : List (List Tk) → List (List At) → Prop
  | [], [] => True
  | t :: ts, a :: st => TRel t a ∧ TS ts st
  | _, _ => False
theorem TS.len : ∀ {ts : List (List Tk)} {st : List (List At)}, TS ts st → ts.length = st.length
  | [], [], _ => rfl
  | _ :: ts, _ :: st, h => by rw [List.length_cons, List.length_cons, TS.len h.2]
  | [], _ :: _, h => h.elim
  | _ :: _, [], h => h.elim
/-- the program's pile behind a token -/
theorem ts_join {s op : Int} {ta tb : List Tk} {a b : List At} (ha : TRel ta a) (hb : TRel tb b) (hl : tb.length ≤ 24) (hs : Sg.isSign s = true) (hp : Pst s b) (hok : AllOk b) : TRel (joinT s op ta tb) (if op = 3 ∧ zeroL b = true then [(-1, 0)] else a ++ b) := by
  unfold joinT
  have hz := lsg_zero hb hl hs hp hok
  by_cases h : op = 3 ∧ zeroL b = true
  · rw [if_pos h, if_pos ⟨h.1, hz.2 h.2⟩]; exact trel_zero
  · rw [if_neg h, if_neg (fun hh => h ⟨hh.1, hz.1 hh.2⟩)]; exact trel_join ha hb
theorem joinT_len (s op : Int) (ta tb : List Tk) : (joinT s op ta tb).length ≤ ta.length + tb.length + 1 := by
  unfold joinT
  split <;> simp <;> omega
theorem joinT_pos (s op : Int) (ta tb : List Tk) : 1 ≤ (joinT s op ta tb).length := by
  unfold joinT
  split <;> simp <;> omega
end Nm
end Go.Proofs.YtijiohdddfdjfaaDoor

namespace Go.Proofs.YtijiohdddfdjfaaDoor
open Go.RowKit

/-- a row of atoms of the call's own, wherever in its block it begins -/
def OwnO (w : World) (base : Nat) (A : Option Addr) (n c : Nat) (xs : List Value) : Prop :=
  xs.length = n * 2 ∧ ((A = none ∧ n = 0 ∧ c = 0) ∨ ∃ g o cur, A = some ⟨g, o, none⟩ ∧ base ≤ g ∧ Blk w g 68 cur ∧ n ≤ c ∧ o + c * 2 = cur.size ∧ ∀ j, j < n * 2 → cur[o + j]? = xs[j]?)
theorem OwnO.of {w : World} {base : Nat} {A : Option Addr} {n c : Nat} {xs : List Value} (h : w.ownsRow base 68 2 (.slice A n c) n xs) : OwnO w base A n c xs := by
  refine ⟨h.1, ?_⟩
  rcases h.2 with ⟨h0, h1⟩ | ⟨g, cap, cur, hv, hb, hgg, h1, h2, h3, h4⟩
  · injection h0 with e1 e2 e3
    exact .inl ⟨e1, h1, e3⟩
  · injection hv with e1 e2 e3
    subst e3
    refine .inr ⟨g, 0, cur, e1, hb, hgg, h1, by omega, fun j hj => ?_⟩
    rw [Nat.zero_add, ← h4, List.getElem?_take_of_lt hj, Array.getElem?_toList]
theorem OwnO.tail {w : World} {base g n c : Nat} {l : List (Int × Int)} (h : OwnA w base (some ⟨g, 0, none⟩) (n + 1) c l) : OwnO w base (some ⟨g, 2, none⟩) n (c - 1) (tokCells (l.drop 1)) := by
  have hl : l.length = n + 1 := by have := h.1; rw [tokCells_len] at this; omega
  rcases h.2 with ⟨h0, h1⟩ | ⟨g', cap, cur, hv, hb, hgg, h1, h2, h3, h4⟩
  · cases h0
  · injection hv with e1 e2 e3
    injection e1 with e1
    injection e1 with e1
    subst e1; subst e3
    refine ⟨by rw [tokCells_len, List.length_drop]; omega, .inr ⟨g, 2, cur, rfl, hb, hgg, by omega, by omega, fun j hj => ?_⟩⟩
    match l, hl with
    | a :: r, hl =>
      have ht : tokCells (a :: r) = .int .i64 a.1 :: .int .i64 a.2 :: tokCells r := rfl
      have h5 : (cur.toList.take ((n + 1) * 2))[2 + j]? = (tokCells (a :: r))[2 + j]? := by rw [h4]
      rw [List.getElem?_take_of_lt (by omega), Array.getElem?_toList, ht] at h5
      rw [h5, show 2 + j = j + 1 + 1 by omega, List.getElem?_cons_succ, List.getElem?_cons_succ, List.drop_one, List.tail_cons]
theorem OwnO.lt {w : World} {base : Nat} {A : Option Addr} {n c : Nat} {xs : List Value} (h : OwnO w base A n c xs) (k : Nat) (hk : (Value.slice A n c).ownBlock = some k) : base ≤ k ∧ k < w.heap.size := by
  rcases h.2 with ⟨rfl, _⟩ | ⟨g, o, cur, rfl, hb, hblk, _⟩
  · cases hk
  · have : g = k := by simpa [Value.ownBlock] using hk
    subst this
    exact ⟨hb, hblk.lt⟩
theorem at_in {w : World} {base : Nat} {A : Option Addr} {n c : Nat} {xs : List Value} (h : OwnO w base A n c xs) : InR (.slice A n c) base w.heap.size := fun k hk => h.lt k hk
theorem at_below {w w' : World} {B base : Nat} {A : Option Addr} {n c : Nat} {xs : List Value} (h : OwnO w base A n c xs) (hb : Below B w w') (hB : ∀ k, (Value.slice A n c).ownBlock = some k → k < B) : OwnO w' base A n c xs := by
  refine ⟨h.1, ?_⟩
  rcases h.2 with hn | ⟨g, o, cur, rfl, hbg, hblk, rest⟩
  · exact .inl hn
  · exact .inr ⟨g, o, cur, rfl, hbg, (hb.block g (hB g rfl)).trans hblk, rest⟩
theorem at_below' {w w' : World} {base : Nat} {A : Option Addr} {n c : Nat} {xs : List Value} (h : OwnO w base A n c xs) (hb : Below w.heap.size w w') : OwnO w' base A n c xs :=
  at_below h hb (fun k hk => (h.lt k hk).2)
theorem at_base {w : World} {base base' : Nat} {A : Option Addr} {n c : Nat} {xs : List Value} (h : OwnO w base A n c xs) (hb : base' ≤ base) : OwnO w base' A n c xs := by
  refine ⟨h.1, ?_⟩
  rcases h.2 with hn | ⟨g, o, cur, rfl, hbg, rest⟩
  · exact .inl hn
  · exact .inr ⟨g, o, cur, rfl, by omega, rest⟩
theorem at_kept {w w' : World} {base : Nat} {A : Option Addr} {n c : Nat} {xs : List Value} {row : Option Nat} (h : OwnO w base A n c xs) (hg : w.grownBy w' row) (hne : ∀ k, (Value.slice A n c).ownBlock = some k → row ≠ some k) : OwnO w' base A n c xs := by
  refine ⟨h.1, ?_⟩
  rcases h.2 with hn | ⟨g, o, cur, rfl, hbg, hblk, rest⟩
  · exact .inl hn
  · exact .inr ⟨g, o, cur, rfl, hbg, (hg.block g hblk.lt (fun e => hne g rfl e.symm)).trans hblk, rest⟩
theorem at_markKept {w w' : World} {base : Nat} {A : Option Addr} {n c : Nat} {xs : List Value} {v : Value} {lo hi lo' hi' : Nat} (hu : OwnO w base A n c xs) (hg : w.grownBy w' v.ownBlock)
    (hv : InR v lo hi) (hui : InR (.slice A n c) lo' hi') (hd : hi ≤ lo' ∨ hi' ≤ lo) : OwnO w' base A n c xs :=
  at_kept hu hg fun k hk he => by
    have h1 := hui k hk
    have h2 := hv k he
    omega
theorem at_markBelow {w0 w w' : World} {B : Nat} {v : Value} {lo hi : Nat} (h : Below B w0 w) (hg : w.grownBy w' v.ownBlock) (hv : InR v lo hi) (hb : B ≤ lo) (hB : B ≤ w.heap.size) : Below B w0 w' :=
  h.grown hg hB (fun k hk => Nat.le_trans hb (hv k hk).1)
theorem at_reads {w : World} {base : Nat} {A : Option Addr} {n c : Nat} {l : List (Int × Int)} (h : OwnO w base A n c (tokCells l)) : TokR w w.heap.size A n l := by
  have hl : l.length = n := by have := h.1; rw [tokCells_len] at this; omega
  refine ⟨hl, fun hn => ?_⟩
  rcases h.2 with ⟨_, h0, _⟩ | ⟨g, o, cur, rfl, hb, hblk, h1, h2, h3⟩
  · omega
  · refine ⟨g, o, rfl, hblk.lt, fun k hk => ?_⟩
    have ht := tokCells_at l k (by omega)
    have h5 := (hblk.cell (o + k * 2)).trans ((h3 (k * 2) (by omega)).trans ht.1)
    have h6 := (hblk.cell (o + k * 2 + 1)).trans ((h3 (k * 2 + 1) (by omega)).trans ht.2)
    exact ⟨h5, h6⟩

/-- the first j cells of a row that begins at o are marked -/
def MarkingO (w : World) (g : Nat) (sz o k j : Nat) (wr : World) : Prop :=
  w.grownBy wr (some g) ∧ wr.heap.size = w.heap.size ∧ ∃ cs, Blk wr g 68 cs ∧ cs.size = sz ∧ ∀ i, i < j → cs[o + i]? = some (.int .i64 ((k + i : Nat) : Int))
theorem markingO_step {w wr : World} {g sz o k j : Nat} (h : MarkingO w g sz o k j wr) (hj : o + j < sz) : MarkingO w g sz o k (j + 1) (wr.setCell ⟨g, o + j, none⟩ (.int .i64 ((k + j : Nat) : Int))) := by
  obtain ⟨hg, hz, cs, hblk, hs, hc⟩ := h
  refine ⟨⟨hg.os, hg.tape, hg.output, by simpa [World.setCell] using hg.size, fun i hi hne => (Below.heap_setCell wr ⟨g, o + j, none⟩ _ i (by intro he; subst he; exact hne rfl)).trans (hg.block i hi hne)⟩, by simpa [World.setCell] using hz, _, hblk.put _ _, by simp [hs], ?_⟩
  intro i hi
  by_cases e : i = j
  · subst e
    rw [Array.getElem?_setIfInBounds_self_of_lt (by omega)]
  · rw [Array.getElem?_setIfInBounds_ne (by omega)]
    exact hc i (by omega)
/-- a mark leaves: the row marked, nothing else turned -/
def MarkOutO (w : World) (base : Nat) (A : Option Addr) (n c k : Nat) (w' : World) : Prop :=
  w.grownBy w' (Value.slice A n c).ownBlock ∧ w'.heap.size = w.heap.size ∧ OwnO w' base A n c (marks k (n * 2))

set_option maxHeartbeats 1600000 in
theorem markAtomS_o (w : World) (base : Nat) (A : Option Addr) (n c : Nat) (xs : List Value) (hown : OwnO w base A n c xs) (k : Nat) (hn : n ≤ 3000000) (hk : k ≤ 3000000) :
    Calls Tryd.prog 29 #[.slice A n c, .int .i64 k] w fun e w' => e = .returned (.int .i64 ((k + n * 2 : Nat) : Int)) ∧ MarkOutO w base A n c k w' := by
  by_cases h0 : n = 0
  · subst h0
    have HO : Hid (OwnO w base A 0 c (marks k (0 * 2))) := ⟨marks_len _ _, by
      rcases hown.2 with hx | ⟨g, o, cur, h1, h2, h3, h4, h5, _⟩
      · exact .inl hx
      · exact .inr ⟨g, o, cur, h1, h2, h3, h4, h5, fun j hj => by omega⟩⟩
    clear hown
    go_enter Tryd.func29, Tryd.ntmps29
    go_wp2
    go_loop [1, 5] (fun m i => m = .int .i64 k ∧ i = .int .i64 0) (fun _ _ => 0)
    case atStart => exact ⟨rfl, rfl⟩
    case round =>
      obtain ⟨rfl, rfl⟩ := hrel
      go_wp2
      go_ret
      exact ⟨rfl, World.grownBy.refl _ _, rfl, HO.out⟩
  · rcases hown.2 with ⟨_, h, _⟩ | ⟨g, o, cur, rfl, hb, hblk, h1, h2, h3⟩
    · omega
    · have HS : Hid (MarkingO w g (o + c * 2) o k 0 w) := ⟨World.grownBy.refl _ _, rfl, cur, hblk, h2.symm, by intro i hi; omega⟩
      clear hblk h2 h3 hown
      go_enter Tryd.func29, Tryd.ntmps29
      go_wp2
      go_loopw [1, 5] (fun m i wr => ∃ j : Nat, j ≤ n ∧ i = .int .i64 j ∧ m = .int .i64 ((k + j * 2 : Nat) : Int) ∧ MarkingO w g (o + c * 2) o k (j * 2) wr) (fun _ i _ => n - (intOf i).toNat)
      case atStart => exact ⟨0, Nat.zero_le _, rfl, rfl, HS.out⟩
      case round =>
        obtain ⟨j, hj, rfl, rfl, hM⟩ := hrel
        by_cases hlt : j < n
        · have hM1 := markingO_step hM (by omega)
          have HN := Lib.hid (markingO_step hM1 (by omega))
          obtain ⟨_, _, cs, hblk, hs, _⟩ := hM
          have f1 := hblk.thawed (o + j * 2)
          have f2 := hblk.thawed (o + j * 2 + 1)
          obtain ⟨v1, d1⟩ : ∃ v1, wr.cell? ⟨g, o + j * 2, none⟩ = some v1 := ⟨_, (hblk.cell _).trans (Array.getElem?_eq_getElem (by omega))⟩
          obtain ⟨v2, d2⟩ : ∃ v2, wr.cell? ⟨g, o + j * 2 + 1, none⟩ = some v2 := ⟨_, (hblk.cell _).trans (Array.getElem?_eq_getElem (by omega))⟩
          clear hblk hs hM1
          go_wp2
          go_roundw
          case rel => exact ⟨j + 1, by omega, by go_num, by go_num, by
            have h := HN.out
            rw [show (j + 1) * 2 = j * 2 + 1 + 1 by omega]
            simpa [Nat.add_assoc, Int.add_assoc] using h⟩
          case measure => simp [intOf]; omega
        · obtain rfl : j = n := by omega
          have HM := Lib.hid hM
          clear hM
          go_wp2
          go_ret
          obtain ⟨m1, m2, cs, m3, m4, m5⟩ := HM.out
          exact ⟨rfl, m1, m2, marks_len _ _, .inr ⟨g, o, cs, rfl, hb, m3, h1, m4.symm, fun i hi => by rw [m5 i hi, marks_at _ _ _ hi]⟩⟩

set_option maxHeartbeats 1600000 in
theorem heldAtomS_o (w : World) (base : Nat) (A : Option Addr) (n c : Nat) (k : Nat) (hown : OwnO w base A n c (marks k (n * 2))) (hn : n ≤ 3000000) (hk : k ≤ 3000000) :
    Calls Tryd.prog 30 #[.slice A n c, .int .i64 k] w fun e w' => e = .returned (.int .i64 ((k + n * 2 : Nat) : Int)) ∧ w = w' := by
  by_cases h0 : n = 0
  · subst h0
    clear hown
    go_enter Tryd.func30, Tryd.ntmps30
    go_wp2
    go_loop [1, 5] (fun m i => m = .int .i64 k ∧ i = .int .i64 0) (fun _ _ => 0)
    case atStart => exact ⟨rfl, rfl⟩
    case round =>
      obtain ⟨rfl, rfl⟩ := hrel
      go_wp2
      go_ret
      exact ⟨rfl, rfl⟩
  · rcases hown.2 with ⟨_, h, _⟩ | ⟨g, o, cur, rfl, hb, hblk, h1, h2, h3⟩
    · omega
    · have HC : Hid (∀ j, j < n * 2 → w.cell? ⟨g, o + j, none⟩ = some (.int .i64 ((k + j : Nat) : Int))) := by
        intro j hj
        exact (hblk.cell (o + j)).trans ((h3 j hj).trans (marks_at k (n * 2) j hj))
      clear hblk h2 h3 hown
      go_enter Tryd.func30, Tryd.ntmps30
      go_wp2
      go_loop [1, 5] (fun m i => ∃ j : Nat, j ≤ n ∧ i = .int .i64 j ∧ m = .int .i64 ((k + j * 2 : Nat) : Int)) (fun _ i => n - (intOf i).toNat)
      case atStart => exact ⟨0, Nat.zero_le _, rfl, rfl⟩
      case round =>
        obtain ⟨j, hj, rfl, rfl⟩ := hrel
        by_cases hlt : j < n
        · have d1 := HC.out (j * 2) (by omega)
          have d2 := HC.out (j * 2 + 1) (by omega)
          rw [show ((k + (j * 2 + 1) : Nat) : Int) = (k : Int) + (j : Int) * 2 + 1 by omega, ← Nat.add_assoc] at d2
          go_wp2
          go_round
          case rel => exact ⟨j + 1, by omega, by go_num, by go_num⟩
          case measure => simp [intOf]; omega
        · obtain rfl : j = n := by omega
          go_wp2
          go_ret
          exact ⟨rfl, rfl⟩
end Go.Proofs.YtijiohdddfdjfaaDoor

namespace Go.Proofs.YtijiohdddfdjfaaDoor
open Go.RowKit

namespace Nm
/-- the greatest Off of a param -/
def topPar : List At → Int
  | [] => -1
  | a :: r => if 0 ≤ a.1 then max a.2 (topPar r) else topPar r
theorem topPar_ge (l : List At) : -1 ≤ topPar l := by
  induction l with
  | nil => simp [topPar]
  | cons a r ih => unfold topPar; split <;> omega
theorem topPar_append (a b : List At) : topPar (a ++ b) = max (topPar a) (topPar b) := by
  induction a with
  | nil => have := topPar_ge b; simp [topPar]; omega
  | cons x r ih => simp only [List.cons_append, topPar]; rw [ih]; split <;> omega
theorem topPar_take (l : List At) (k : Nat) (hk : k < l.length) : topPar (l.take (k + 1)) = if 0 ≤ (l.getD k (0, 0)).1 then max (topPar (l.take k)) (l.getD k (0, 0)).2 else topPar (l.take k) := by
  rw [List.take_succ_eq_append_getElem hk, topPar_append, List.getD_eq_getElem?_getD, List.getElem?_eq_getElem hk]
  have := topPar_ge (l.take k)
  simp only [topPar, Option.getD_some]
  split <;> omega
theorem topPar_mem {l : List At} {a : At} (h : a ∈ l) (h0 : 0 ≤ a.1) : a.2 ≤ topPar l := by
  induction l with
  | nil => simp at h
  | cons b r ih =>
    unfold topPar
    rcases List.mem_cons.1 h with rfl | h
    · rw [if_pos h0]; omega
    · have := ih h; split <;> omega
theorem topPar_at {l : List At} (h : topPar l ≠ -1) : ∃ a ∈ l, 0 ≤ a.1 ∧ a.2 = topPar l := by
  induction l with
  | nil => simp [topPar] at h
  | cons b r ih =>
    unfold topPar at h ⊢
    by_cases hb : 0 ≤ b.1
    · rw [if_pos hb] at h ⊢
      by_cases hm : topPar r ≤ b.2
      · exact ⟨b, by simp, hb, by omega⟩
      · obtain ⟨a, ha, h0, h1⟩ := ih (by omega)
        exact ⟨a, List.mem_cons_of_mem _ ha, h0, by omega⟩
    · rw [if_neg hb] at h ⊢
      obtain ⟨a, ha, h0, h1⟩ := ih h
      exact ⟨a, List.mem_cons_of_mem _ ha, h0, h1⟩
theorem topPar_norm (l : List At) : topPar (norm l) = most l 5 := by
  have g1 := topPar_ge (norm l)
  have g2 := most_ge l 5
  have h1 : topPar (norm l) ≤ most l 5 := by
    by_cases e : topPar (norm l) = -1
    · omega
    · obtain ⟨a, ha, h0, h1⟩ := topPar_at e
      obtain ⟨_, q2, _, q4⟩ := mem_norm.1 ha
      have := most_le l 5 a.1 h0 (by simpa using q2)
      omega
  have h2 : most l 5 ≤ topPar (norm l) := by
    by_cases e : most l 5 = -1
    · omega
    · obtain ⟨q, q1, q2, q3⟩ := most_at l 5 e
      have hm : (q, best q l) ∈ norm l := mem_norm.2 ⟨by simp; omega, by simpa using q2, by simp [keepB, show q ≠ -1 by omega]; omega, rfl⟩
      have := topPar_mem hm q1
      simp only at this
      omega
  omega
theorem map_take_succ (s : Int) (l : List At) (k : Nat) (hk : k < l.length) : (l.take (k + 1)).map (pl s) = (l.take k).map (pl s) ++ [pl s (l.getD k (0, 0))] := by
  rw [List.take_succ_eq_append_getElem hk, List.map_append, List.getD_eq_getElem?_getD, List.getElem?_eq_getElem hk]
  rfl
end Nm

theorem newsR (X : World) (o : Obj) (p x : Int) : ∀ j u, [Value.int .i64 p, .int .i64 x][j]? = some u → ((X.alloc o).alloc (.cells #[.int .i64 p, .int .i64 x] 68)).cell? ((⟨X.heap.size + 1, 0, none⟩ : Addr).add j) = some u := by
  have h := World.news_of_block (w := (X.alloc o).alloc (.cells #[.int .i64 p, .int .i64 x] 68)) (cs := #[.int .i64 p, .int .i64 x]) (t := 68) (fr := (0, 0)) (heap_alloc_new (X.alloc o) _)
  simpa using h

theorem own_formR {w : World} {base : Nat} {e : TypeId} {size n : Nat} {v : Value} {xs : List Value} (h : w.ownsRow base e size v n xs) (hn : 0 < n) : ∃ g c, v = .slice (some ⟨g, 0, none⟩) n c := by
  rcases h.2 with ⟨_, h0⟩ | ⟨g', cap', _, h0, _⟩
  · omega
  · exact ⟨g', cap', h0⟩
theorem own_capR {w : World} {base g n c : Nat} {e : TypeId} {size : Nat} {xs : List Value} (h : w.ownsRow base e size (.slice (some ⟨g, 0, none⟩) n c) n xs) : n ≤ c := by
  rcases h.2 with ⟨h0, _⟩ | ⟨_, _, _, hv, _, _, h6, _⟩
  · cases h0
  · injection hv with _ _ e3; subst e3; exact h6
set_option maxRecDepth 100000 in
theorem run_tail2 (g n c : Nat) (hn : 2 ≤ n) (hnc : n ≤ c) : ∀ wx : World, (Instr.slice 34 (.slice (some ⟨g, 0, none⟩) n c) (some (.int .i64 1)) none none).run Tryd.prog wx = .ok (.slice (some ⟨g, 2, none⟩) (n - 1) (c - 1)) wx := by
  intro wx
  have hr := run_slice_l (P := Tryd.prog) (w := wx) 34 (some ⟨g, 0, none⟩) n c Tryd.underlying34 .i64 1 (by omega) (by omega)
  have hs : (sizeOf (Tryd.prog.elem 34)).run Tryd.prog wx = .ok 2 wx := by kernel_rfl
  rw [hs] at hr
  simpa [Result.andThen, sliced, show c ≠ 1 by omega, Addr.add] using hr

/-- a row of atoms of the call's own is what is given back -/
def ResAO (w : World) (l : List (Int × Int)) (e : Ending) (w' : World) : Prop :=
  ∃ A c, e = .returned (.slice A l.length c) ∧ OwnO w' w.heap.size A l.length c (tokCells l) ∧ Below w.heap.size w w'

set_option maxRecDepth 100000 in
set_option maxHeartbeats 3200000 in
theorem l03Resid_any (w : World) (B : Nat) (A : Option Addr) (n c : Nat) (l : List (Int × Int)) (s : Int) (hB : B ≤ w.heap.size) (hl : TokR w B A n l) (hn : n ≤ 1000) (h1 : 1 ≤ n) (hok : Nm.AllOk l) :
    Calls Tryd.prog 51 #[.slice A n c, .int .i64 s] w (ResAO w (Nm.resid s l)) := by
  obtain ⟨i0, hi, hz0, hz1, hz2⟩ := info_parts info_atom
  have HO0 : Hid (OwnA (w.alloc (.cells #[] 68)) w.heap.size (some ⟨w.heap.size, 0, none⟩) 0 0 []) := World.ownsRow_made w #[] 0 (Nat.le_refl _) (by simp [maxLen]) (by simp)
  have HB0 : Hid (Below w.heap.size w (w.alloc (.cells #[] 68))) := (Below.refl _ _).alloc (Nat.le_refl _) _
  have HOK := Lib.hid hok
  clear hok
  go_enter Tryd.func51, Tryd.ntmps51
  go_wp2
  go_loopw [5, 6] (fun v i wr => ∃ (k g cap : Nat), k ≤ n ∧ i = .int .i64 k ∧ v = .slice (some ⟨g, 0, none⟩) k cap ∧ OwnA wr w.heap.size (some ⟨g, 0, none⟩) k cap ((l.take k).map (Nm.pl s)) ∧ Below w.heap.size w wr) (fun _ i _ => n - (intOf i).toNat)
  case atStart => exact ⟨0, w.heap.size, 0, Nat.zero_le _, rfl, rfl, HO0.out, HB0.out⟩
  case round =>
    obtain ⟨k, g, cap, hk, rfl, rfl, hown, hbel⟩ := hrel
    have hszr := hbel.size
    by_cases hlt : k < n
    · have HU := Lib.hid (Nm.map_take_succ s l k (by rw [hl.1]; exact hlt))
      obtain ⟨b, off, rfl, hb, hc⟩ := hl.2 (by omega)
      obtain ⟨e1, e2⟩ := hc k hlt
      have HL := Lib.hid hl
      generalize (l.take k).map (Nm.pl s) = a at hown HU
      generalize l.getD k (0, 0) = t at e1 e2 HU
      obtain ⟨p, y⟩ := t
      simp only at e1 e2 HU
      have k1 := (hbel.cell (p := ⟨b, off + k * 2, none⟩) (by show b < _; omega)).trans e1
      have k2 := (hbel.cell (p := ⟨b, off + k * 2 + 1, none⟩) (by show b < _; omega)).trans e2
      have hki : (k : Int) < (n : Int) := by omega
      clear e1 e2 hc hl
      have hcase : (p < 0 ∧ Nm.pl s (p, y) = (p, y)) ∨ (0 ≤ p ∧ Sg.has s p = true ∧ Nm.pl s (p, y) = (p, y)) ∨ (0 ≤ p ∧ Sg.has s p = false ∧ Nm.pl s (p, y) = (-1, y)) := by
        unfold Nm.pl
        by_cases hp : 0 ≤ p
        · cases hh : Sg.has s p with
          | true => right; left; exact ⟨hp, rfl, by simp⟩
          | false => right; right; exact ⟨hp, rfl, by simp [hp]⟩
        · left; exact ⟨by omega, by simp [hp]⟩
      rcases hcase with ⟨hp, hpl⟩ | ⟨hp, hh, hpl⟩ | ⟨hp, hh, hpl⟩
      · have HPL := Lib.hid hpl
        clear hpl
        go_wp2_with (at_builtin; refine wpList_append_own _ rfl (.tmp 33) (.tmp 35) 34 rfl w.heap.size 68 i0 (.agg #[.int .i64 0, .int .i64 0]) 2 16 Tryd.underlying34 hi hz0 hz1 hz2 rfl (by decide) (.slice (some ⟨g, 0, none⟩) k cap) k (tokCells a) rfl ((hown.alloc _).alloc _) ⟨wr.heap.size + 1, 0, none⟩ 1 1 [.int .i64 p, .int .i64 y] rfl rfl (newsR _ _ _ _) (by simp [Value.oneCell']) (by unfold maxLen; omega) (by omega) (by simp; omega) ?_; intro v' w3 hown' hgrow hnil)
        obtain ⟨g2, cap2, rfl⟩ := own_formR hown' (by omega)
        have HB1 : Hid (Below w.heap.size w w3) := ((hbel.alloc hszr _).alloc (by simp; omega) _).grown hgrow (by simp; omega) (fun k h => (hown.lt k h).1)
        have HW : Hid (OwnA w3 w.heap.size (some ⟨g2, 0, none⟩) (k + 1) cap2 ((l.take (k + 1)).map (Nm.pl s))) := by
          show OwnA _ _ _ _ _ _
          rw [HU.out, HPL.out]
          unfold OwnA
          rw [tokCells_append]
          exact hown'
        clear hown hown' hgrow hbel hnil
        go_wp2
        go_roundw
        case rel => exact ⟨k + 1, g2, cap2, by omega, by go_num, rfl, HW.out, HB1.out⟩
        case measure => simp [intOf]; omega
      · have HPL := Lib.hid hpl
        clear hpl
        go_wp2_with fail
        refine (specSignHas_any _ s p).mono ?_
        rintro e w1 ⟨rfl, rfl⟩
        rw [hh]
        go_wp2_with (at_builtin; refine wpList_append_own _ rfl (.tmp 33) (.tmp 35) 34 rfl w.heap.size 68 i0 (.agg #[.int .i64 0, .int .i64 0]) 2 16 Tryd.underlying34 hi hz0 hz1 hz2 rfl (by decide) (.slice (some ⟨g, 0, none⟩) k cap) k (tokCells a) rfl ((hown.alloc _).alloc _) ⟨wr.heap.size + 1, 0, none⟩ 1 1 [.int .i64 p, .int .i64 y] rfl rfl (newsR _ _ _ _) (by simp [Value.oneCell']) (by unfold maxLen; omega) (by omega) (by simp; omega) ?_; intro v' w3 hown' hgrow hnil)
        obtain ⟨g2, cap2, rfl⟩ := own_formR hown' (by omega)
        have HB1 : Hid (Below w.heap.size w w3) := ((hbel.alloc hszr _).alloc (by simp; omega) _).grown hgrow (by simp; omega) (fun k h => (hown.lt k h).1)
        have HW : Hid (OwnA w3 w.heap.size (some ⟨g2, 0, none⟩) (k + 1) cap2 ((l.take (k + 1)).map (Nm.pl s))) := by
          show OwnA _ _ _ _ _ _
          rw [HU.out, HPL.out]
          unfold OwnA
          rw [tokCells_append]
          exact hown'
        clear hown hown' hgrow hbel hnil
        go_wp2
        go_roundw
        case rel => exact ⟨k + 1, g2, cap2, by omega, by go_num, rfl, HW.out, HB1.out⟩
        case measure => simp [intOf]; omega
      · have HPL := Lib.hid hpl
        clear hpl
        go_wp2_with fail
        refine (specSignHas_any _ s p).mono ?_
        rintro e w1 ⟨rfl, rfl⟩
        rw [hh]
        go_wp2_with (at_builtin; refine wpList_append_own _ rfl (.tmp 33) (.tmp 35) 34 rfl w.heap.size 68 i0 (.agg #[.int .i64 0, .int .i64 0]) 2 16 Tryd.underlying34 hi hz0 hz1 hz2 rfl (by decide) (.slice (some ⟨g, 0, none⟩) k cap) k (tokCells a) rfl ((hown.alloc _).alloc _) ⟨wr.heap.size + 1, 0, none⟩ 1 1 [.int .i64 (-1), .int .i64 y] rfl rfl (newsR _ _ _ _) (by simp [Value.oneCell']) (by unfold maxLen; omega) (by omega) (by simp; omega) ?_; intro v' w3 hown' hgrow hnil)
        obtain ⟨g2, cap2, rfl⟩ := own_formR hown' (by omega)
        have HB1 : Hid (Below w.heap.size w w3) := ((hbel.alloc hszr _).alloc (by simp; omega) _).grown hgrow (by simp; omega) (fun k h => (hown.lt k h).1)
        have HW : Hid (OwnA w3 w.heap.size (some ⟨g2, 0, none⟩) (k + 1) cap2 ((l.take (k + 1)).map (Nm.pl s))) := by
          show OwnA _ _ _ _ _ _
          rw [HU.out, HPL.out]
          unfold OwnA
          rw [tokCells_append]
          exact hown'
        clear hown hown' hgrow hbel hnil
        go_wp2
        go_roundw
        case rel => exact ⟨k + 1, g2, cap2, by omega, by go_num, rfl, HW.out, HB1.out⟩
        case measure => simp [intOf]; omega
    · obtain rfl : k = n := by omega
      rw [List.take_of_length_le (by have := hl.1; omega)] at hown
      have HLL := Lib.hid hl.1
      obtain ⟨L, hL⟩ : ∃ L, l.map (Nm.pl s) = L := ⟨_, rfl⟩
      have HRS : Hid (Nm.resid s l = Nm.rnorm L) := by unfold Hid Nm.resid; rw [hL]
      have hLo : Nm.AllOk L := by rw [← hL]; exact HOK.out.pl
      have hLn : L ≠ [] := by rw [← hL]; intro e; have := congrArg List.length e; rw [List.length_map, hl.1] at this; simp at this; omega
      rw [hL] at hown
      have hread := hown.reads
      clear hl hL
      go_wp2_with fail
      refine (specNorm_any wr wr.heap.size _ k cap L (Nat.le_refl _) hread (by omega)).mono ?_
      rintro e w2 ⟨g2, cap2, rfl, ho2, hb2⟩
      have HB2 := Lib.hid (hbel.trans (hb2.mono hszr))
      have HO2 := Lib.hid (own_base ho2 hszr)
      have hr2 := OwnA.reads ho2
      have hlen := Nm.norm_len L
      have hne := Nm.norm_ne hLn hLo
      have hNok := (Nm.norm_ok hLn hLo).2.1
      obtain ⟨N, hN⟩ : ∃ N, Nm.norm L = N := ⟨_, rfl⟩
      obtain ⟨M, hM⟩ : ∃ M, N.length = M := ⟨_, rfl⟩
      rw [hN, hM] at hr2 HO2 ⊢
      rw [hN] at hlen hne hNok
      rw [hM] at hlen
      have hM1 : 1 ≤ M := by rw [← hM]; exact List.length_pos_iff.2 hne
      have HNN := Lib.hid hN
      have HMM := Lib.hid hM
      have HNO := Lib.hid hNok
      obtain ⟨b, off, e, hb, hc⟩ := hr2.2 (by omega)
      injection e with e
      injection e with e1 e2
      subst e1; subst e2
      have HC := Lib.hid hc
      clear hc hr2 hNok hne ho2 hb2 hbel hread hown hN hM
      go_wp2
      go_loop [9, 10] (fun v i => ∃ j : Nat, j ≤ M ∧ i = .int .i64 j ∧ v = .int .i64 (Nm.topPar (N.take j))) (fun _ i => M - (intOf i).toNat)
      case atStart => exact ⟨0, Nat.zero_le _, rfl, rfl⟩
      case round =>
        obtain ⟨j, hj, rfl, rfl⟩ := hrel
        by_cases hlt2 : j < M
        · have HTT := Lib.hid (Nm.topPar_take N j (by rw [HMM.out]; exact hlt2))
          obtain ⟨e1, e2⟩ := HC.out j hlt2
          have hat := (Nm.atOk_iff _).1 (HNO.out j (by rw [HMM.out]; exact hlt2))
          have htg := Nm.topPar_ge (N.take j)
          generalize Nm.topPar (N.take j) = tv at HTT htg ⊢
          generalize N.getD j (0, 0) = t at e1 e2 HTT hat
          obtain ⟨p, x⟩ := t
          simp only at e1 e2 HTT hat
          obtain ⟨a1, a2, a3, a4⟩ := hat
          rw [Nat.zero_add] at e1 e2
          have hji : (j : Int) < (M : Int) := by omega
          by_cases hp : 0 ≤ p
          · have HT2 : Hid (Nm.topPar (N.take (j + 1)) = if tv < x then x else tv) := by show _ = _; rw [HTT.out, if_pos hp]; split <;> omega
            go_wp2
            go_round
            case rel => exact ⟨j + 1, by omega, by go_num, by rw [HT2.out]⟩
            case measure => simp [intOf]; omega
          · have HT2 : Hid (Nm.topPar (N.take (j + 1)) = tv) := by show _ = _; rw [HTT.out, if_neg hp]
            go_wp2
            go_round
            case rel => exact ⟨j + 1, by omega, by go_num, by rw [HT2.out]⟩
            case measure => simp [intOf]; omega
        · obtain rfl : j = M := by omega
          have htop : Nm.topPar (N.take j) = Nm.most L 5 := by
            rw [List.take_of_length_le (by rw [HMM.out]; exact Nat.le_refl _), ← HNN.out]
            exact Nm.topPar_norm L
          rw [htop]
          have hmg := Nm.most_ge L 5
          have hml : Nm.most L 5 ≤ 1000 := by
            by_cases e : Nm.most L 5 = -1
            · omega
            · obtain ⟨q, _, _, q3⟩ := Nm.most_at L 5 e
              rw [q3]; exact Nm.best_le q hLo
          obtain ⟨e1, e2⟩ := HC.out 0 (by omega)
          rw [Nat.zero_mul, Nat.add_zero] at e1 e2
          have hi0 : 0 < j := by omega
          rcases Nm.norm_parts L with ⟨hlt3, hnp⟩ | ⟨hlt3, hnp, hrn⟩
          · rw [HNN.out] at hnp
            have hrn := Nm.rnorm_of_norm hlt3
            have hbl := Nm.best_le (-1) hLo
            have hpm := Nm.pars_max (l := L) (Nm.best (-1) L - 1)
            rw [HNN.out] at hrn
            have h00 : N.getD 0 (0, 0) = (-1, Nm.best (-1) L) := by rw [hnp]; rfl
            rw [h00] at e1 e2
            simp only at e1 e2
            generalize Nm.best (-1) L = x at *
            generalize Nm.most L 5 = mv at *
            by_cases hred : 0 ≤ mv ∧ x ≤ mv + 1
            · obtain ⟨hr1, hr2⟩ := hred
              have hne : ¬ (Nm.exceeds (x - 1) (Nm.pars L 5) = true) := by
                rw [Nm.exceeds_iff, Nm.exceeds_mem, hpm]; omega
              rw [if_neg hne] at hrn
              have hdrop : N.drop 1 = Nm.pars L 5 := by rw [hnp]; rfl
              have hln : (Nm.pars L 5).length = j - 1 := by rw [← hdrop, List.length_drop, HMM.out]
              have HRN : Hid (Nm.resid s l = N.drop 1) := by unfold Hid; rw [HRS.out, hrn, hdrop]
              have HTL : Hid ((N.drop 1).length = j - 1) := by unfold Hid; rw [List.length_drop, HMM.out]
              have hpn : 1 ≤ j - 1 := by
                rw [← hln]
                refine List.length_pos_iff.2 (fun e => hne ?_)
                rw [Nm.exceeds_iff, Nm.exceeds_mem, e]; intro a ha; simp at ha
              obtain ⟨jj, rfl⟩ : ∃ jj, j = jj + 1 := ⟨j - 1, by omega⟩
              have HOT := Lib.hid (OwnO.tail HO2.out)
              have hsl := run_tail2 g2 (jj + 1) cap2 (by omega) (own_capR HO2.out)
              have hmi : ((mv : Int) + 1) = mv + 1 := rfl
              clear hne hrn hdrop hln hpm hnp h00 htop hmi
              simp only [Nat.add_sub_cancel] at hsl HTL
              go_wp2
              go_ret
              rw [HRN.out]
              exact ⟨_, _, by rw [HTL.out]; rfl, by rw [HTL.out]; exact HOT.out, HB2.out⟩
            · have hex : Nm.exceeds (x - 1) (Nm.pars L 5) = true := by
                rw [Nm.exceeds_iff, Nm.exceeds_mem, hpm]; omega
              rw [if_pos hex] at hrn
              have HRN : Hid (Nm.resid s l = N) := by unfold Hid; rw [HRS.out, hrn]
              have hor : mv < 0 ∨ 0 ≤ mv ∧ mv + 1 < x := by omega
              clear hex hrn hpm hnp h00 htop hred
              rcases hor with hm0 | ⟨hm0, hm1⟩
              · go_wp2
                go_ret
                rw [HRN.out]
                exact ⟨_, _, by rw [HMM.out]; rfl, by rw [HMM.out]; exact OwnO.of HO2.out, HB2.out⟩
              · go_wp2
                go_ret
                rw [HRN.out]
                exact ⟨_, _, by rw [HMM.out]; rfl, by rw [HMM.out]; exact OwnO.of HO2.out, HB2.out⟩
          · have HRN : Hid (Nm.resid s l = N) := by unfold Hid; rw [HRS.out, hrn, ← HNN.out, hnp]
            have hp0 : 0 ≤ (N.getD 0 (0, 0)).1 := by
              rw [HNN.out] at hnp
              have hmem := Nm.mem_getD (l := N) (k := 0) (by rw [HMM.out]; omega)
              rw [hnp] at hmem ⊢
              exact (Nm.pars_mem.1 hmem).1
            generalize N.getD 0 (0, 0) = t at e1 e2 hp0
            obtain ⟨p, x⟩ := t
            simp only at e1 e2 hp0
            have dp : (p == -1) = false := by simp; omega
            clear hrn hnp htop
            generalize Nm.most L 5 = mv at *
            go_wp2
            go_ret
            rw [HRN.out]
            exact ⟨_, _, by rw [HMM.out]; rfl, by rw [HMM.out]; exact OwnO.of HO2.out, HB2.out⟩
end Go.Proofs.YtijiohdddfdjfaaDoor
