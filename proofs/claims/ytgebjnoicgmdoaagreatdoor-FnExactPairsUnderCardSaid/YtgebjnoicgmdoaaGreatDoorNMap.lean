/- NormOk of the program. -/
/- A region that draws its order, whose own operations only read and whose callees may make memory but turn none that was there: one walk, in the order of the text, over the class of all later worlds. -/
/- NormUp of the program and of the reference model. -/
/- The program's map of the greatest Offs, and whether its number is redundant. -/
import Derived.Test.YtgebjnoicgmdoaaGreatDoorNOk1
import Derived.Test.YtgebjnoicgmdoaaGreatDoorBase
import Derived.Test.YtgebjnoicgmdoaaGreatDoorSlc
import Derived.Deep.AppendLies
import Derived.Maps.RangeWalk
import Derived.Maps.OwnSet

namespace Go.Proofs.YtgebjnoicgmdoaaGreatDoor
open Go.RowKit

theorem TokR.tail {w : World} {B b off n : Nat} {l : List (Int × Int)} (h : TokR w B (some ⟨b, off, none⟩) n l) (hn : 1 ≤ n) : TokR w B (some ⟨b, off + 2, none⟩) (n - 1) (l.drop 1) := by
  refine ⟨by rw [List.length_drop, h.1], fun h0 => ?_⟩
  obtain ⟨b', off', e, hb, hc⟩ := h.2 (by omega)
  injection e with e
  injection e with e1 e2
  subst e1; subst e2
  refine ⟨b, off + 2, rfl, hb, fun k hk => ?_⟩
  have := hc (k + 1) (by omega)
  rw [Nm.getD_drop1, show off + 2 + k * 2 = off + (k + 1) * 2 by omega]
  exact this

set_option maxRecDepth 100000 in
/-- 'n[1:]' of a slice of atoms that is not empty -/
theorem run_tail (b off n c : Nat) (h1 : 1 ≤ n) (hnc : n ≤ c) : ∃ A', (∀ wx : World, (Instr.slice 138 (.slice (some ⟨b, off, none⟩) n c) (some (.int .i64 1)) none none).run Tryz.prog wx = .ok (.slice A' (n - 1) (c - 1)) wx) ∧
    ∀ (w : World) (B : Nat) (l : List (Int × Int)), TokR w B (some ⟨b, off, none⟩) n l → TokR w B A' (n - 1) (l.drop 1) := by
  by_cases e : c = 1
  · refine ⟨some ⟨b, off, none⟩, fun wx => ?_, fun w B l h => ?_⟩
    · have hr := run_slice_l (P := Tryz.prog) (w := wx) 138 (some ⟨b, off, none⟩) n c Tryz.underlying138 .i64 1 (by omega) (by omega)
      have hs : (sizeOf (Tryz.prog.elem 138)).run Tryz.prog wx = .ok 2 wx := by kernel_rfl
      rw [hs] at hr
      simpa [Result.andThen, sliced, e] using hr
    · exact ⟨by rw [List.length_drop, h.1], fun h0 => absurd h0 (by omega)⟩
  · refine ⟨some ⟨b, off + 2, none⟩, fun wx => ?_, fun w B l h => h.tail h1⟩
    have hr := run_slice_l (P := Tryz.prog) (w := wx) 138 (some ⟨b, off, none⟩) n c Tryz.underlying138 .i64 1 (by omega) (by omega)
    have hs : (sizeOf (Tryz.prog.elem 138)).run Tryz.prog wx = .ok 2 wx := by kernel_rfl
    rw [hs] at hr
    simpa [Result.andThen, sliced, e, Addr.add] using hr

end Go.Proofs.YtgebjnoicgmdoaaGreatDoor

namespace Go.Proofs.YtgebjnoicgmdoaaGreatDoor
open Go.RowKit

/-- a world in which all that w holds is as it was -/
structure Later (w : World) : Type where
  out : World
  bel : Below w.heap.size w out
instance (w : World) : Nonempty (Later w) := ⟨⟨w, Below.refl _ _⟩⟩
theorem Later.cell {w : World} (d : Later w) {p : Addr} {v : Value} (hp : p.block < w.heap.size) (h : w.cell? p = some v) : d.out.cell? p = some v := (d.bel.cell hp).trans h

end Go.Proofs.YtgebjnoicgmdoaaGreatDoor

namespace Go.Proofs.YtgebjnoicgmdoaaGreatDoor
open Go.RowKit

/-- a call gives back a slice of atoms of its own and a bool -/
def ResA (w : World) (R : Option (List (Int × Int))) (e : Ending) (w' : World) : Prop :=
  ∃ A c, e = .returned (.tuple #[.slice A (R.getD []).length c, .bool R.isSome]) ∧ OwnA w' w.heap.size A (R.getD []).length c (R.getD []) ∧ Below w.heap.size w w'
theorem resA_none {w w' : World} (hb : Below w.heap.size w w') : ResA w none (.returned (.tuple #[.slice none 0 0, .bool false])) w' := ⟨none, 0, rfl, World.ownsRow_nil _ _ _ _, hb⟩

theorem own_put {w : World} {base g n c size : Nat} {e : TypeId} {xs : List Value} (h : w.ownsRow base e size (.slice (some ⟨g, 0, none⟩) n c) n xs) (i : Nat) (u : Value) :
    (w.setCell ⟨g, i, none⟩ u).ownsRow base e size (.slice (some ⟨g, 0, none⟩) n c) n (xs.set i u) := by
  refine ⟨by rw [List.length_set]; exact h.1, ?_⟩
  rcases h.2 with ⟨h0, _⟩ | ⟨g', cap, cur, hv, hb, hgg, h1, h2, h3, h4⟩
  · cases h0
  · injection hv with e1 e2 e3
    injection e1 with e1
    injection e1 with e1
    subst e1; subst e3
    refine .inr ⟨g, c, _, rfl, hb, Blk.put (w := w) (t := e) hgg i u, h1, h2, by simp [h3], ?_⟩
    rw [Array.toList_setIfInBounds, List.take_set, h4]
theorem tokCells_set (l : List (Int × Int)) (j : Nat) (p x y : Int) (h : l[j]? = some (p, x)) : tokCells (l.set j (p, y)) = (tokCells l).set (j * 2 + 1) (.int .i64 y) := by
  induction l generalizing j with
  | nil => simp at h
  | cons t r ih =>
    cases j with
    | zero =>
      simp at h
      subst h
      rfl
    | succ j =>
      rw [List.set_cons_succ, tokCells_cons, tokCells_cons, ih j (by simpa using h), show (j + 1) * 2 + 1 = j * 2 + 1 + 1 + 1 by omega, List.set_cons_succ, List.set_cons_succ]

theorem up_take (k : Int) (l : List (Int × Int)) (j : Nat) (hj : j < l.length) : Nm.up k (l.take (j + 1)) = Nm.up k (l.take j) ++ [((l.getD j (0, 0)).1, (l.getD j (0, 0)).2 + k)] := by
  have e : l.getD j (0, 0) = l[j] := by simp [List.getD_eq_getElem?_getD, List.getElem?_eq_getElem hj]
  rw [List.take_succ_eq_append_getElem hj, e]
  unfold Nm.up
  rw [List.map_append]
  rfl
/-- Offs that a number of this size may be added to -/
def Small (l : List (Int × Int)) : Prop := ∀ j, j < l.length → 0 ≤ (l.getD j (0, 0)).2 ∧ (l.getD j (0, 0)).2 ≤ 1000000

set_option maxRecDepth 100000 in
set_option maxHeartbeats 1600000 in
theorem specUp_any (w : World) (B : Nat) (A : Option Addr) (n c : Nat) (l : List (Int × Int)) (x : Int) (hB : B ≤ w.heap.size) (hl : TokR w B A n l) (hn : n ≤ 1000) (hs : Small l) (hx0 : 0 ≤ x) (hx1 : x ≤ 1000000) :
    Calls Tryz.prog 132 #[.slice A n c, .int .i64 x] w fun e w' => ∃ g cap, e = .returned (.slice (some ⟨g, 0, none⟩) n cap) ∧ OwnA w' w.heap.size (some ⟨g, 0, none⟩) n cap (Nm.up x l) ∧ Below w.heap.size w w' := by
  obtain ⟨i0, hi, hz0, hz1, hz2⟩ := info_parts info_atom
  have HS := Lib.hid hs
  have HO0 : Hid (OwnA (w.alloc (.cells #[] 92)) w.heap.size (some ⟨w.heap.size, 0, none⟩) 0 0 []) := World.ownsRow_made w #[] 0 (Nat.le_refl _) (by simp [maxLen]) (by simp)
  have HB0 : Hid (Below w.heap.size w (w.alloc (.cells #[] 92))) := (Below.refl _ _).alloc (Nat.le_refl _) _
  clear hs
  go_enter Tryz.func132, Tryz.ntmps132
  go_wp2
  go_loopw [5, 6] (fun v i wr => ∃ (k g cap : Nat), k ≤ n ∧ i = .int .i64 k ∧ v = .slice (some ⟨g, 0, none⟩) k cap ∧ OwnA wr w.heap.size (some ⟨g, 0, none⟩) k cap (Nm.up x (l.take k)) ∧ Below w.heap.size w wr) (fun _ i _ => n - (intOf i).toNat)
  case atStart => exact ⟨0, w.heap.size, 0, Nat.zero_le _, rfl, rfl, HO0.out, HB0.out⟩
  case round =>
    obtain ⟨k, g, cap, hk, rfl, rfl, hown, hbel⟩ := hrel
    have hszr := hbel.size
    by_cases hlt : k < n
    · have HU := Lib.hid (up_take x l k (by rw [hl.1]; exact hlt))
      have hsm := HS.out k (by rw [hl.1]; exact hlt)
      obtain ⟨b, off, rfl, hb, hc⟩ := hl.2 (by omega)
      obtain ⟨e1, e2⟩ := hc k hlt
      have HL := Lib.hid hl
      generalize Nm.up x (l.take k) = a at hown HU
      generalize l.getD k (0, 0) = t at e1 e2 HU hsm
      obtain ⟨p, y⟩ := t
      simp only at e1 e2 HU hsm
      obtain ⟨y0, y1⟩ := hsm
      have k1 := (hbel.cell (p := ⟨b, off + k * 2, none⟩) (by show b < _; omega)).trans e1
      have k2 := (hbel.cell (p := ⟨b, off + k * 2 + 1, none⟩) (by show b < _; omega)).trans e2
      have hw1 : IntKind.i64.wrap (y + x) = y + x := by rw [IntKind.wrap_i64]; omega
      have hki : (k : Int) < (n : Int) := by omega
      have H1 : Hid (OwnA (wr.alloc (.cells #[.int .i64 p, .int .i64 (y + x)] 92)).drew w.heap.size (some ⟨g, 0, none⟩) k cap a) := (hown.alloc _).drew
      have H2 : Hid (Below w.heap.size w (wr.alloc (.cells #[.int .i64 p, .int .i64 (y + x)] 92)).drew) := (hbel.alloc hszr _).drew
      have H3 : Hid (∀ j u, ([Value.int .i64 p, .int .i64 (y + x)] : List Value)[j]? = some u → (wr.alloc (.cells #[.int .i64 p, .int .i64 (y + x)] 92)).drew.cell? ((⟨wr.heap.size, 0, none⟩ : Addr).add j) = some u) := World.news_of_block (cs := #[.int .i64 p, .int .i64 (y + x)]) (t := 92) (fr := (0, 0)) (heap_alloc_new wr _)
      have HGL : Hid (∀ j, (Value.slice (some ⟨g, 0, none⟩) k cap).ownBlock = some j → w.heap.size ≤ j) := fun j h => (hown.lt j h).1
      have HE1 := Lib.hid e1
      have HE2 := Lib.hid e2
      have hbw : b < w.heap.size := by omega
      clear e1 e2 hc hl hown
      go_wp2_with fail
      go_region_held3 (fun w' => w'.cell? ⟨b, off + k * 2, none⟩ = some (.int .i64 p) ∧ w'.cell? ⟨b, off + k * 2 + 1, none⟩ = some (.int .i64 y))
        (first
          | go_keep
          | exact ⟨((H2.out.grown hgrow (by simp; omega) HGL.out).cell (p := ⟨b, off + k * 2, none⟩) hbw).trans HE1.out, ((H2.out.grown hgrow (by simp; omega) HGL.out).cell (p := ⟨b, off + k * 2 + 1, none⟩) hbw).trans HE2.out⟩)
        ((refine step_append_lies _ (by rfl) _ _ _ (by rfl) w.heap.size 92 i0 _ 2 16 Tryz.underlying138 hi hz0 hz1 hz2 rfl (by omega) (.slice (some ⟨g, 0, none⟩) k cap) k (tokCells a) (by rfl) H1.out
            ⟨wr.heap.size, 0, none⟩ 1 1 [.int .i64 p, .int .i64 (y + x)] (by rfl) (by rfl) H3.out (by simp [Value.oneCell']) (by omega) (by unfold maxLen; omega) (by omega) (by simp; omega) (wr.heap.size + 1) (by simp) ?_; intro g' cap' w3 hown' hgrow hat hlt3))
      have HB3 : Hid (Below w.heap.size w w3) := H2.out.grown hgrow (by simp; omega) HGL.out
      have HW : Hid (OwnA w3 w.heap.size (some ⟨g', 0, none⟩) (k + 1) cap' (Nm.up x (l.take (k + 1)))) := by
        show OwnA _ _ _ _ _ _
        rw [HU.out]
        unfold OwnA
        rw [tokCells_append]
        exact hown'
      clear hown' hgrow hat hlt3
      go_wp2
      go_roundw
      case rel => exact ⟨k + 1, g', cap', by omega, by go_num, rfl, HW.out, HB3.out⟩
      case measure => simp [intOf]; omega
    · obtain rfl : k = n := by omega
      rw [List.take_of_length_le (by have := hl.1; omega)] at hown
      have HW := Lib.hid hown
      clear hl hown
      go_wp2
      go_ret
      exact ⟨g, cap, rfl, HW.out, hbel⟩
end Go.Proofs.YtgebjnoicgmdoaaGreatDoor

namespace Go.Proofs.YtgebjnoicgmdoaaGreatDoor
open Go.RowKit Go.Maps

set_option maxRecDepth 100000 in
theorem lawInt : Keyed Tryz.prog 3 := int_keyed Tryz.underlying3
set_option maxRecDepth 100000 in
theorem zeroInt (w : World) : (zeroValue 3).run Tryz.prog w = .ok (.int .i64 0) w := by kernel_rfl
abbrev ik (p : Int) : Lit := .int .i64 p
/-- the map D reads as: u tells its keys, o what stands at them -/
def Reads (D : DataW Unit) (u : Int → Bool) (o : Int → Int) : Prop := ∀ p : Int, Maps.has D (ik p) = u p ∧ (u p = true → ∀ z, D.atKey (ik p) z = .lit (.int .i64 (o p)))
def hasB (l : List (Int × Int)) (p : Int) : Bool := decide (0 ≤ Nm.best p l)
def GM (D : DataW Unit) (l : List (Int × Int)) : Prop := Reads D (hasB l) (fun p => Nm.best p l)

theorem gm_start : GM (.map []) [] := fun p => ⟨by simp [Maps.has, hasB, Nm.best], fun h => by simp [hasB, Nm.best] at h⟩
theorem ik_ne {p q : Int} (h : q ≠ p) : ik q ≠ ik p := by intro e; injection e with _ e; exact h e
theorem ik_key (p : Int) : WideAt.IsKeyLit (ik p) := trivial
theorem gm_step {D : DataW Unit} {l : List (Int × Int)} {k : Nat} {p x c : Int} (hk : k < l.length) (hp : l.getD k (0, 0) = (p, x)) (hx : 0 ≤ x) (h : GM D (l.take k)) (hD : IsMap D) (hc : D.atKey (ik p) (.lit (.int .i64 0)) = .lit (.int .i64 c)) :
    GM (D.put (ik p) (.lit (.int .i64 (if c < x then x else c)))) (l.take (k + 1)) := by
  intro q
  have hb := Nm.best_take q l k hk
  rw [hp] at hb
  simp only at hb
  have hge := Nm.best_ge q (l.take k)
  by_cases e : q = p
  · subst e
    rw [if_pos rfl] at hb
    have hcv : c = max (Nm.best q (l.take k)) 0 := by
      have h1 := h q
      by_cases hh : hasB (l.take k) q = true
      · have h2 : D.atKey (ik q) (.lit (.int .i64 0)) = .lit (.int .i64 (Nm.best q (l.take k))) := h1.2 hh (.lit (.int .i64 0))
        rw [h2] at hc
        injection hc with hc
        injection hc with _ hc
        simp [hasB] at hh
        omega
      · have h3 : Maps.has D (ik q) = false := by rw [h1.1]; simpa using hh
        rw [atKey_of_not_has h3] at hc
        injection hc with hc
        injection hc with _ hc
        simp [hasB] at hh
        omega
    have hv : (if c < x then x else c) = Nm.best q (l.take (k + 1)) := by rw [hb]; split <;> omega
    refine ⟨?_, fun _ z => ?_⟩
    · rw [has_put_same hD (ik_key q), hasB, hb]; symm; simp; omega
    · rw [atKey_put_same hD (ik_key q), hv]
  · rw [if_neg (fun h => e h.symm)] at hb
    have h1 := h q
    refine ⟨?_, fun hu z => ?_⟩
    · rw [has_put_other (ik_ne e), h1.1, hasB, hasB, hb]
    · rw [atKey_put_other (ik_ne e)]
      have := h1.2 (by rw [hasB] at hu ⊢; rw [hb] at hu; exact hu) z
      rw [this]
      show DataW.lit (.int .i64 (Nm.best q (l.take k))) = .lit (.int .i64 (Nm.best q (l.take (k + 1))))
      rw [hb]

set_option maxRecDepth 100000 in
set_option maxHeartbeats 1600000 in
theorem greatestOffs_any (w : World) (B : Nat) (A : Option Addr) (n c : Nat) (l : List (Int × Int)) (hB : B ≤ w.heap.size) (hl : TokR w B A n l) (hn : n ≤ 100) (hok : Nm.AllOk l) :
    Calls Tryz.prog 162 #[.slice A n c] w fun e w' => ∃ D : DataW Unit, e = .returned (.map (some w.heap.size)) ∧ w'.ownsMap Tryz.prog 3 (plainElem Tryz.prog 3) w.heap.size n D ∧ GM D l ∧ Below w.heap.size w w' := by
  have hmm := @run_makeMap Tryz.prog
  have HOK := Lib.hid hok
  clear hok
  go_enter Tryz.func162, Tryz.ntmps162
  go_wp2
  go_loopw [9] (fun i wr => ∃ (k : Nat) (D : DataW Unit), k ≤ n ∧ i = .int .i64 k ∧ wr.ownsMap Tryz.prog 3 (plainElem Tryz.prog 3) w.heap.size k D ∧ Hid (GM D (l.take k)) ∧ Below w.heap.size w wr) (fun i _ => n - (intOf i).toNat)
  case atStart => exact ⟨0, .map [], Nat.zero_le _, rfl, World.ownsMap_made _ _ _ _, gm_start, (Below.refl _ _).alloc (Nat.le_refl _) _⟩
  case round =>
    obtain ⟨k, D, hk, rfl, hown, HG, hbel⟩ := hrel
    by_cases hlt : k < n
    · have hkl : k < l.length := by rw [hl.1]; exact hlt
      have hat := (Nm.atOk_iff _).1 (HOK.out k hkl)
      obtain ⟨b, off, rfl, hb, hc⟩ := hl.2 (by omega)
      obtain ⟨e1, e2⟩ := hc k hlt
      obtain ⟨t, ht⟩ : ∃ t, l.getD k (0, 0) = t := ⟨_, rfl⟩
      rw [ht] at e1 e2 hat
      obtain ⟨p, x⟩ := t
      simp only at hat e1 e2
      obtain ⟨g1, g2, g3, g4⟩ := hat
      have HT := Lib.hid ht
      have k1 := (hbel.cell (p := ⟨b, off + k * 2, none⟩) (by show b < _; omega)).trans e1
      have k2 := (hbel.cell (p := ⟨b, off + k * 2 + 1, none⟩) (by show b < _; omega)).trans e2
      have hwp : (Lit.int .i64 p).wf = true := WalkArith.wf_i64 (by omega)
      have hwx : (Lit.int .i64 x).wf = true := WalkArith.wf_i64 (by omega)
      have hkey := keyOf_int_mk Tryz.underlying3 hwp
      have HWF : Hid (∀ c, (Lit.int .i64 c).wf = true → (Lit.int .i64 (if c < x then x else c)).wf = true) := by intro c h; split <;> assumption
      have hownA : (wr.alloc (.cells #[.int .i64 p, .int .i64 x] 92)).ownsMap Tryz.prog 3 (plainElem Tryz.prog 3) w.heap.size k D := hown.alloc _
      have HBA := Lib.hid (hbel.alloc hbel.size (.cells #[.int .i64 p, .int .i64 x] 92))
      have HIM := Lib.hid hown.isMap
      have HKL := Lib.hid hkl
      clear e1 e2 hc hl ht hown hwp hwx hkl
      go_wp2_with (first
        | (at_lookup; refine wpList_lookup_own_int _ rfl _ _ 214 rfl 3 3 .i64 lawInt Tryz.underlying214 Tryz.underlying3 (zeroInt _) w.heap.size k _ rfl hownA _ _ rfl hkey ?_; intro c hat hwc)
        | (at_mapUpdate; refine wpList_mapUpdate_own _ rfl _ _ _ 214 rfl 3 3 lawInt Tryz.underlying214 _ w.heap.size k _ rfl hownA (by unfold maxLen; omega) _ _ _ rfl rfl hkey _ [] (plainElem_int Tryz.underlying3 (HWF.out _ hwc)) ?_; intro w1 hown1 hgrow1)
        | go_in)
      have HG2 := Lib.hid (gm_step HKL.out HT.out g3 HG.out HIM.out hat)
      have HB2 : Hid (Below w.heap.size w w1) := HBA.out.grown hgrow1 HBA.out.size (fun j hj => by cases hj; exact Nat.le_refl _)
      have HO2 := Lib.hid hown1
      clear hown1 hgrow1 hat hwc hownA
      go_wp2
      go_roundw
      case rel => exact ⟨k + 1, _, by omega, by go_num, HO2.out, HG2.out, HB2.out⟩
      case measure => simp [intOf]; omega
    · obtain rfl : k = n := by omega
      have hg := HG.out
      rw [List.take_of_length_le (by have := hl.1; omega)] at hg
      have HG2 := Lib.hid hg
      have HO := Lib.hid hown
      clear hl hg hown
      go_wp2
      go_ret
      exact ⟨D, rfl, HO.out, HG2.out, hbel⟩

/-- the number is redundant -/
def redB (l : List (Int × Int)) : Bool := decide (0 ≤ Nm.best (-1) l ∧ Nm.best (-1) l ≤ Nm.most l 5)

theorem gm_at {D : DataW Unit} {l : List (Int × Int)} (h : GM D l) {x c : Int} (hat : ∀ z, D.atKey (ik x) z = .lit (.int .i64 c)) : 0 ≤ Nm.best x l ∧ c = Nm.best x l := by
  have hh : Maps.has D (ik x) = true := has_true_of_atKey hat
  have h1 := h x
  rw [h1.1] at hh
  have h2 : D.atKey (ik x) (.lit (.int .i64 0)) = .lit (.int .i64 (Nm.best x l)) := h1.2 hh _
  rw [hat] at h2
  injection h2 with h2
  injection h2 with _ h2
  exact ⟨by simpa [hasB] using hh, h2⟩
theorem best_range {l : List (Int × Int)} (h : Nm.AllOk l) {p : Int} (hb : 0 ≤ Nm.best p l) : -1 ≤ p ∧ p < 5 := by
  have := h.mem (Nm.best_at (p := p) (l := l) (by omega))
  exact ⟨this.1, this.2.1⟩
theorem same_ik (a b : Int) : (ik a).sameKey (ik b) = decide (a = b) := by
  by_cases e : a = b
  · subst e; rw [(WideAt.sameKey_iff (ik_key a)).2 rfl]; simp
  · rw [Maps.sameKey_ne (ik_ne e)]; simp [e]

set_option maxRecDepth 100000 in
set_option maxHeartbeats 1600000 in
theorem numberIsRedundant_any (w : World) (b n : Nat) (D : DataW Unit) (l : List (Int × Int)) (hown : w.ownsMap Tryz.prog 3 (plainElem Tryz.prog 3) b n D) (hg : GM D l) (hok : Nm.AllOk l) :
    Calls Tryz.prog 163 #[.map (some b)] w fun e w' => e = .returned (.bool (redB l)) ∧ Below w.heap.size w w' := by
  have hkey : keyOf Tryz.prog 3 (.int .i64 (-1)) = some (.int .i64 (-1)) := keyOf_int_mk Tryz.underlying3 (WalkArith.wf_i64 (by omega))
  have h1 := hg (-1)
  have HG := Lib.hid hg
  have HOK := Lib.hid hok
  clear hg hok
  by_cases hn : 0 ≤ Nm.best (-1) l
  · have hh : Maps.has D (ik (-1)) = true := by rw [h1.1]; simp [hasB, hn]
    have HAT : Hid (D.atKey (ik (-1)) (.lit (.int .i64 0)) = .lit (.int .i64 (Nm.best (-1) l))) := h1.2 (by simp [hasB, hn]) _
    have hh' : Maps.has D (Lit.int .i64 (-1)) = true := hh
    clear h1 hh
    go_enter Tryz.func163, Tryz.ntmps163
    go_wp2_with (first
      | (at_lookup; refine wpList_lookup_own_ok_int _ rfl _ _ 214 rfl 3 3 .i64 lawInt Tryz.underlying214 Tryz.underlying3 (zeroInt _) b n _ rfl hown _ _ rfl hkey ?_; intro c hat hwc; rw [hh'])
      | (at_range; refine wpList_range_own _ rfl _ 214 rfl 3 3 lawInt Tryz.underlying214 _ b n _ rfl hown ?_; intro w0 hrg0 hg0 hs0)
      | go_in)
    obtain rfl : Nm.best (-1) l = c := by
      have h2 := HAT.out
      have hat' : D.atKey (ik (-1)) (.lit (.int .i64 0)) = .lit (.int .i64 c) := hat
      rw [hat'] at h2
      injection h2 with h2
      injection h2 with _ h2
      exact h2.symm
    have HB0 : Hid (Below w.heap.size w w0) := (Below.refl _ _).grown hg0 (Nat.le_refl _) (fun j hj => by cases hj)
    clear hat hwc hs0 hg0
    go_frame
    go_loopw [5] (fun _ wr => ∃ (left : Lit → Bool) (cnt : Nat), wr.ranges Tryz.prog 3 (plainElem Tryz.prog 3) b w.heap.size n D left cnt ∧ Hid (∀ q : Int, 0 ≤ Nm.best q l → left (ik q) = false → ¬ (q ≠ -1 ∧ Nm.best (-1) l ≤ Nm.best q l)) ∧ Below w.heap.size w wr)
      (fun _ wr => wr.rangeLeft b w.heap.size)
    case atStart =>
      refine ⟨_, _, hrg0, fun q hq hl => ?_, HB0.out⟩
      rw [(HG.out q).1] at hl
      simp [hasB, hq] at hl
    case round =>
      obtain ⟨left, cnt, hrg, HQ, hbel⟩ := hrel
      go_wp2_with (first
        | (at_next; refine wpList_next_ranges_ii _ rfl _ rfl 3 3 .i64 .i64 lawInt Tryz.underlying3 Tryz.underlying3 b w.heap.size n _ _ _ rfl hrg ?_ ?_)
        | go_in)
      · intro _ hl0
        have HF : Hid (redB l = false) := by
          show _ = _
          simp only [redB, decide_eq_false_iff_not]
          rintro ⟨_, hm⟩
          by_cases em : Nm.most l 5 = -1
          · omega
          · obtain ⟨q, q1, q2, q3⟩ := Nm.most_at l 5 em
            exact HQ.out q (by omega) (hl0 _) ⟨by omega, by omega⟩
        go_wp2
        go_ret
        exact ⟨by rw [HF.out]; rfl, hbel⟩
      · intro x c w1 cnt1 hwx hwc hlx hat hrg1 hlt hg1 hs1 hen
        obtain ⟨hx0, rfl⟩ := gm_at HG.out hat
        have hxr := best_range HOK.out hx0
        have HB1 : Hid (Below w.heap.size w w1) := hbel.grown hg1 hbel.size (fun j hj => by cases hj; exact Nat.le_refl _)
        have step_of : ¬ (x ≠ -1 ∧ Nm.best (-1) l ≤ Nm.best x l) → Hid (∀ q : Int, 0 ≤ Nm.best q l → (left (ik q) && !(ik q).sameKey (ik x)) = false → ¬ (q ≠ -1 ∧ Nm.best (-1) l ≤ Nm.best q l)) := by
          intro h q hq hl
          by_cases e : q = x
          · subst e; exact h
          · rw [same_ik] at hl
            simp [e] at hl
            exact HQ.out q hq hl
        have HM : Hid (wr.rangeLeft b w.heap.size = cnt) := hrg.left_eq
        clear hat hwx hwc hlx hg1 hs1 hrg
        by_cases ex : x = -1
        · have HQ2 := step_of (fun h => h.1 ex)
          subst ex
          clear step_of
          go_wp2
          go_roundw
          case rel => exact ⟨_, cnt1, hrg1, HQ2.out, HB1.out⟩
          case measure => rw [hrg1.left_eq, HM.out]; exact hlt
        · have dx : (x != -1) = true := by simpa using ex
          by_cases hle : Nm.best (-1) l ≤ Nm.best x l
          · have HF : Hid (redB l = true) := by
              show _ = _
              have := Nm.most_le l 5 x (by omega) (by omega)
              simp only [redB, decide_eq_true_eq]
              omega
            clear step_of
            generalize Nm.best x l = bx at *
            generalize Nm.best (-1) l = bn at *
            go_wp2
            go_ret
            exact ⟨by rw [HF.out]; rfl, HB1.out⟩
          · have HQ2 := step_of (fun h => hle h.2)
            have dle : decide (Nm.best (-1) l ≤ Nm.best x l) = false := by simp; omega
            clear step_of hle
            go_wp2
            go_roundw
            case rel => exact ⟨_, cnt1, hrg1, HQ2.out, HB1.out⟩
            case measure => rw [hrg1.left_eq, HM.out]; exact hlt
  · have hh : Maps.has D (Lit.int .i64 (-1)) = false := by show Maps.has D (ik (-1)) = false; rw [h1.1]; simp [hasB]; omega
    have HF : Hid (redB l = false) := by show _ = _; simp [redB]; omega
    clear h1
    go_enter Tryz.func163, Tryz.ntmps163
    go_wp2_with (first
      | (at_lookup; refine wpList_lookup_own_ok_int _ rfl _ _ 214 rfl 3 3 .i64 lawInt Tryz.underlying214 Tryz.underlying3 (zeroInt _) b n _ rfl hown _ _ rfl hkey ?_; intro c hat hwc; rw [hh])
      | go_in)
    go_ret
    exact ⟨by rw [HF.out]; rfl, Below.refl _ _⟩
end Go.Proofs.YtgebjnoicgmdoaaGreatDoor
