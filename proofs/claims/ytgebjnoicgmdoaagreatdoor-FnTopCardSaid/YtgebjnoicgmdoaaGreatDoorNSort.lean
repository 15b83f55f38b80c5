/- The program's map of the greatest Offs, and whether its number is redundant. -/
/- The program's norm, read out of its map. -/
import Derived.Test.YtgebjnoicgmdoaaGreatDoorNNorm
import Derived.Maps.RangeWalk
import Derived.Maps.OwnSet

namespace Go.Proofs.YtgebjnoicgmdoaaGreatDoor
open Go.RowKit Go.Maps

set_option maxRecDepth 100000 in
theorem lawInt : Keyed Tryz.prog 3 := int_keyed Tryz.underlying3
set_option maxRecDepth 100000 in
theorem zeroInt (w : World) : (zeroValue 3).run Tryz.prog w = .ok (.int .i64 0) w := by kernel_rfl
abbrev ik (p : Int) : Lit := .int .i64 p
/-- the map D reads as: u tells its keys, o what stands at them -/
def Reads (D : DataW Unit) (u : Int → Bool) (o : Int → Int) : Prop := ∀ p : Int, Maps.has D (ik p) = u p ∧ (u p = true → ∀ z, D.atKey (ik p) z = .lit (.int .i64 (o p)))
def hasB (l : List (Int × Int)) (p : Int) : Bool := decide (0 ≤ Nm.best p l)
def GM (D : DataW Unit) (l : List (Int × Int)) : Prop := Reads D (hasB l) (fun p => Nm.best p l)

theorem gm_start : GM (.map []) [] := fun p => ⟨by simp [Maps.has, hasB, Nm.best], fun h => by simp [hasB, Nm.best] at h⟩
theorem ik_ne {p q : Int} (h : q ≠ p) : ik q ≠ ik p := by intro e; injection e with _ e; exact h e
theorem ik_key (p : Int) : WideAt.IsKeyLit (ik p) := trivial
theorem gm_step {D : DataW Unit} {l : List (Int × Int)} {k : Nat} {p x c : Int} (hk : k < l.length) (hp : l.getD k (0, 0) = (p, x)) (hx : 0 ≤ x) (h : GM D (l.take k)) (hD : IsMap D) (hc : D.atKey (ik p) (.lit (.int .i64 0)) = .lit (.int .i64 c)) :
    GM (D.put (ik p) (.lit (.int .i64 (if c < x then x else c)))) (l.take (k + 1)) := by
  intro q
  have hb := Nm.best_take q l k hk
  rw [hp] at hb
  simp only at hb
  have hge := Nm.best_ge q (l.take k)
  by_cases e : q = p
  · subst e
    rw [if_pos rfl] at hb
    have hcv : c = max (Nm.best q (l.take k)) 0 := by
      have h1 := h q
      by_cases hh : hasB (l.take k) q = true
      · have h2 : D.atKey (ik q) (.lit (.int .i64 0)) = .lit (.int .i64 (Nm.best q (l.take k))) := h1.2 hh (.lit (.int .i64 0))
        rw [h2] at hc
        injection hc with hc
        injection hc with _ hc
        simp [hasB] at hh
        omega
      · have h3 : Maps.has D (ik q) = false := by rw [h1.1]; simpa using hh
        rw [atKey_of_not_has h3] at hc
        injection hc with hc
        injection hc with _ hc
        simp [hasB] at hh
        omega
    have hv : (if c < x then x else c) = Nm.best q (l.take (k + 1)) := by rw [hb]; split <;> omega
    refine ⟨?_, fun _ z => ?_⟩
    · rw [has_put_same hD (ik_key q), hasB, hb]; symm; simp; omega
    · rw [atKey_put_same hD (ik_key q), hv]
  · rw [if_neg (fun h => e h.symm)] at hb
    have h1 := h q
    refine ⟨?_, fun hu z => ?_⟩
    · rw [has_put_other (ik_ne e), h1.1, hasB, hasB, hb]
    · rw [atKey_put_other (ik_ne e)]
      have := h1.2 (by rw [hasB] at hu ⊢; rw [hb] at hu; exact hu) z
      rw [this]
      show DataW.lit (.int .i64 (Nm.best q (l.take k))) = .lit (.int .i64 (Nm.best q (l.take (k + 1))))
      rw [hb]

set_option maxRecDepth 100000 in
set_option maxHeartbeats 1600000 in
theorem greatestOffs_any (w : World) (B : Nat) (A : Option Addr) (n c : Nat) (l : List (Int × Int)) (hB : B ≤ w.heap.size) (hl : TokR w B A n l) (hn : n ≤ 100) (hok : Nm.AllOk l) :
    Calls Tryz.prog 162 #[.slice A n c] w fun e w' => ∃ D : DataW Unit, e = .returned (.map (some w.heap.size)) ∧ w'.ownsMap Tryz.prog 3 (plainElem Tryz.prog 3) w.heap.size n D ∧ GM D l ∧ Below w.heap.size w w' := by
  have hmm := @run_makeMap Tryz.prog
  have HOK := Lib.hid hok
  clear hok
  go_enter Tryz.func162, Tryz.ntmps162
  go_wp2
  go_loopw [9] (fun i wr => ∃ (k : Nat) (D : DataW Unit), k ≤ n ∧ i = .int .i64 k ∧ wr.ownsMap Tryz.prog 3 (plainElem Tryz.prog 3) w.heap.size k D ∧ Hid (GM D (l.take k)) ∧ Below w.heap.size w wr) (fun i _ => n - (intOf i).toNat)
  case atStart => exact ⟨0, .map [], Nat.zero_le _, rfl, World.ownsMap_made _ _ _ _, gm_start, (Below.refl _ _).alloc (Nat.le_refl _) _⟩
  case round =>
    obtain ⟨k, D, hk, rfl, hown, HG, hbel⟩ := hrel
    by_cases hlt : k < n
    · have hkl : k < l.length := by rw [hl.1]; exact hlt
      have hat := (Nm.atOk_iff _).1 (HOK.out k hkl)
      obtain ⟨b, off, rfl, hb, hc⟩ := hl.2 (by omega)
      obtain ⟨e1, e2⟩ := hc k hlt
      obtain ⟨t, ht⟩ : ∃ t, l.getD k (0, 0) = t := ⟨_, rfl⟩
      rw [ht] at e1 e2 hat
      obtain ⟨p, x⟩ := t
      simp only at hat e1 e2
      obtain ⟨g1, g2, g3, g4⟩ := hat
      have HT := Lib.hid ht
      have k1 := (hbel.cell (p := ⟨b, off + k * 2, none⟩) (by show b < _; omega)).trans e1
      have k2 := (hbel.cell (p := ⟨b, off + k * 2 + 1, none⟩) (by show b < _; omega)).trans e2
      have hwp : (Lit.int .i64 p).wf = true := WalkArith.wf_i64 (by omega)
      have hwx : (Lit.int .i64 x).wf = true := WalkArith.wf_i64 (by omega)
      have hkey := keyOf_int_mk Tryz.underlying3 hwp
      have HWF : Hid (∀ c, (Lit.int .i64 c).wf = true → (Lit.int .i64 (if c < x then x else c)).wf = true) := by intro c h; split <;> assumption
      have hownA : (wr.alloc (.cells #[.int .i64 p, .int .i64 x] 92)).ownsMap Tryz.prog 3 (plainElem Tryz.prog 3) w.heap.size k D := hown.alloc _
      have HBA := Lib.hid (hbel.alloc hbel.size (.cells #[.int .i64 p, .int .i64 x] 92))
      have HIM := Lib.hid hown.isMap
      have HKL := Lib.hid hkl
      clear e1 e2 hc hl ht hown hwp hwx hkl
      go_wp2_with (first
        | (at_lookup; refine wpList_lookup_own_int _ rfl _ _ 214 rfl 3 3 .i64 lawInt Tryz.underlying214 Tryz.underlying3 (zeroInt _) w.heap.size k _ rfl hownA _ _ rfl hkey ?_; intro c hat hwc)
        | (at_mapUpdate; refine wpList_mapUpdate_own _ rfl _ _ _ 214 rfl 3 3 lawInt Tryz.underlying214 _ w.heap.size k _ rfl hownA (by unfold maxLen; omega) _ _ _ rfl rfl hkey _ [] (plainElem_int Tryz.underlying3 (HWF.out _ hwc)) ?_; intro w1 hown1 hgrow1)
        | go_in)
      have HG2 := Lib.hid (gm_step HKL.out HT.out g3 HG.out HIM.out hat)
      have HB2 : Hid (Below w.heap.size w w1) := HBA.out.grown hgrow1 HBA.out.size (fun j hj => by cases hj; exact Nat.le_refl _)
      have HO2 := Lib.hid hown1
      clear hown1 hgrow1 hat hwc hownA
      go_wp2
      go_roundw
      case rel => exact ⟨k + 1, _, by omega, by go_num, HO2.out, HG2.out, HB2.out⟩
      case measure => simp [intOf]; omega
    · obtain rfl : k = n := by omega
      have hg := HG.out
      rw [List.take_of_length_le (by have := hl.1; omega)] at hg
      have HG2 := Lib.hid hg
      have HO := Lib.hid hown
      clear hl hg hown
      go_wp2
      go_ret
      exact ⟨D, rfl, HO.out, HG2.out, hbel⟩

/-- the number is redundant -/
def redB (l : List (Int × Int)) : Bool := decide (0 ≤ Nm.best (-1) l ∧ Nm.best (-1) l ≤ Nm.most l 5)

theorem gm_at {D : DataW Unit} {l : List (Int × Int)} (h : GM D l) {x c : Int} (hat : ∀ z, D.atKey (ik x) z = .lit (.int .i64 c)) : 0 ≤ Nm.best x l ∧ c = Nm.best x l := by
  have hh : Maps.has D (ik x) = true := has_true_of_atKey hat
  have h1 := h x
  rw [h1.1] at hh
  have h2 : D.atKey (ik x) (.lit (.int .i64 0)) = .lit (.int .i64 (Nm.best x l)) := h1.2 hh _
  rw [hat] at h2
  injection h2 with h2
  injection h2 with _ h2
  exact ⟨by simpa [hasB] using hh, h2⟩
theorem best_range {l : List (Int × Int)} (h : Nm.AllOk l) {p : Int} (hb : 0 ≤ Nm.best p l) : -1 ≤ p ∧ p < 5 := by
  have := h.mem (Nm.best_at (p := p) (l := l) (by omega))
  exact ⟨this.1, this.2.1⟩
theorem same_ik (a b : Int) : (ik a).sameKey (ik b) = decide (a = b) := by
  by_cases e : a = b
  · subst e; rw [(WideAt.sameKey_iff (ik_key a)).2 rfl]; simp
  · rw [Maps.sameKey_ne (ik_ne e)]; simp [e]

set_option maxRecDepth 100000 in
set_option maxHeartbeats 1600000 in
theorem numberIsRedundant_any (w : World) (b n : Nat) (D : DataW Unit) (l : List (Int × Int)) (hown : w.ownsMap Tryz.prog 3 (plainElem Tryz.prog 3) b n D) (hg : GM D l) (hok : Nm.AllOk l) :
    Calls Tryz.prog 163 #[.map (some b)] w fun e w' => e = .returned (.bool (redB l)) ∧ Below w.heap.size w w' := by
  have hkey : keyOf Tryz.prog 3 (.int .i64 (-1)) = some (.int .i64 (-1)) := keyOf_int_mk Tryz.underlying3 (WalkArith.wf_i64 (by omega))
  have h1 := hg (-1)
  have HG := Lib.hid hg
  have HOK := Lib.hid hok
  clear hg hok
  by_cases hn : 0 ≤ Nm.best (-1) l
  · have hh : Maps.has D (ik (-1)) = true := by rw [h1.1]; simp [hasB, hn]
    have HAT : Hid (D.atKey (ik (-1)) (.lit (.int .i64 0)) = .lit (.int .i64 (Nm.best (-1) l))) := h1.2 (by simp [hasB, hn]) _
    have hh' : Maps.has D (Lit.int .i64 (-1)) = true := hh
    clear h1 hh
    go_enter Tryz.func163, Tryz.ntmps163
    go_wp2_with (first
      | (at_lookup; refine wpList_lookup_own_ok_int _ rfl _ _ 214 rfl 3 3 .i64 lawInt Tryz.underlying214 Tryz.underlying3 (zeroInt _) b n _ rfl hown _ _ rfl hkey ?_; intro c hat hwc; rw [hh'])
      | (at_range; refine wpList_range_own _ rfl _ 214 rfl 3 3 lawInt Tryz.underlying214 _ b n _ rfl hown ?_; intro w0 hrg0 hg0 hs0)
      | go_in)
    obtain rfl : Nm.best (-1) l = c := by
      have h2 := HAT.out
      have hat' : D.atKey (ik (-1)) (.lit (.int .i64 0)) = .lit (.int .i64 c) := hat
      rw [hat'] at h2
      injection h2 with h2
      injection h2 with _ h2
      exact h2.symm
    have HB0 : Hid (Below w.heap.size w w0) := (Below.refl _ _).grown hg0 (Nat.le_refl _) (fun j hj => by cases hj)
    clear hat hwc hs0 hg0
    go_frame
    go_loopw [5] (fun _ wr => ∃ (left : Lit → Bool) (cnt : Nat), wr.ranges Tryz.prog 3 (plainElem Tryz.prog 3) b w.heap.size n D left cnt ∧ Hid (∀ q : Int, 0 ≤ Nm.best q l → left (ik q) = false → ¬ (q ≠ -1 ∧ Nm.best (-1) l ≤ Nm.best q l)) ∧ Below w.heap.size w wr)
      (fun _ wr => wr.rangeLeft b w.heap.size)
    case atStart =>
      refine ⟨_, _, hrg0, fun q hq hl => ?_, HB0.out⟩
      rw [(HG.out q).1] at hl
      simp [hasB, hq] at hl
    case round =>
      obtain ⟨left, cnt, hrg, HQ, hbel⟩ := hrel
      go_wp2_with (first
        | (at_next; refine wpList_next_ranges_ii _ rfl _ rfl 3 3 .i64 .i64 lawInt Tryz.underlying3 Tryz.underlying3 b w.heap.size n _ _ _ rfl hrg ?_ ?_)
        | go_in)
      · intro _ hl0
        have HF : Hid (redB l = false) := by
          show _ = _
          simp only [redB, decide_eq_false_iff_not]
          rintro ⟨_, hm⟩
          by_cases em : Nm.most l 5 = -1
          · omega
          · obtain ⟨q, q1, q2, q3⟩ := Nm.most_at l 5 em
            exact HQ.out q (by omega) (hl0 _) ⟨by omega, by omega⟩
        go_wp2
        go_ret
        exact ⟨by rw [HF.out]; rfl, hbel⟩
      · intro x c w1 cnt1 hwx hwc hlx hat hrg1 hlt hg1 hs1 hen
        obtain ⟨hx0, rfl⟩ := gm_at HG.out hat
        have hxr := best_range HOK.out hx0
        have HB1 : Hid (Below w.heap.size w w1) := hbel.grown hg1 hbel.size (fun j hj => by cases hj; exact Nat.le_refl _)
        have step_of : ¬ (x ≠ -1 ∧ Nm.best (-1) l ≤ Nm.best x l) → Hid (∀ q : Int, 0 ≤ Nm.best q l → (left (ik q) && !(ik q).sameKey (ik x)) = false → ¬ (q ≠ -1 ∧ Nm.best (-1) l ≤ Nm.best q l)) := by
          intro h q hq hl
          by_cases e : q = x
          · subst e; exact h
          · rw [same_ik] at hl
            simp [e] at hl
            exact HQ.out q hq hl
        have HM : Hid (wr.rangeLeft b w.heap.size = cnt) := hrg.left_eq
        clear hat hwx hwc hlx hg1 hs1 hrg
        by_cases ex : x = -1
        · have HQ2 := step_of (fun h => h.1 ex)
          subst ex
          clear step_of
          go_wp2
          go_roundw
          case rel => exact ⟨_, cnt1, hrg1, HQ2.out, HB1.out⟩
          case measure => rw [hrg1.left_eq, HM.out]; exact hlt
        · have dx : (x != -1) = true := by simpa using ex
          by_cases hle : Nm.best (-1) l ≤ Nm.best x l
          · have HF : Hid (redB l = true) := by
              show _ = _
              have := Nm.most_le l 5 x (by omega) (by omega)
              simp only [redB, decide_eq_true_eq]
              omega
            clear step_of
            generalize Nm.best x l = bx at *
            generalize Nm.best (-1) l = bn at *
            go_wp2
            go_ret
            exact ⟨by rw [HF.out]; rfl, HB1.out⟩
          · have HQ2 := step_of (fun h => hle h.2)
            have dle : decide (Nm.best (-1) l ≤ Nm.best x l) = false := by simp; omega
            clear step_of hle
            go_wp2
            go_roundw
            case rel => exact ⟨_, cnt1, hrg1, HQ2.out, HB1.out⟩
            case measure => rw [hrg1.left_eq, HM.out]; exact hlt
  · have hh : Maps.has D (Lit.int .i64 (-1)) = false := by show Maps.has D (ik (-1)) = false; rw [h1.1]; simp [hasB]; omega
    have HF : Hid (redB l = false) := by show _ = _; simp [redB]; omega
    clear h1
    go_enter Tryz.func163, Tryz.ntmps163
    go_wp2_with (first
      | (at_lookup; refine wpList_lookup_own_ok_int _ rfl _ _ 214 rfl 3 3 .i64 lawInt Tryz.underlying214 Tryz.underlying3 (zeroInt _) b n _ rfl hown _ _ rfl hkey ?_; intro c hat hwc; rw [hh])
      | go_in)
    go_ret
    exact ⟨by rw [HF.out]; rfl, Below.refl _ _⟩
end Go.Proofs.YtgebjnoicgmdoaaGreatDoor

namespace Go.Proofs.YtgebjnoicgmdoaaGreatDoor
open Go.RowKit Go.Maps

def arrI (V : Nat → Int) : Array Value := #[.int .i64 (V 0), .int .i64 (V 1), .int .i64 (V 2), .int .i64 (V 3), .int .i64 (V 4), .int .i64 (V 5)]
def arrB (U : Nat → Bool) : Array Value := #[.bool (U 0), .bool (U 1), .bool (U 2), .bool (U 3), .bool (U 4), .bool (U 5)]
theorem six {k : Nat} (h : k < 6) : k = 0 ∨ k = 1 ∨ k = 2 ∨ k = 3 ∨ k = 4 ∨ k = 5 := by omega
theorem arrI_put (V : Nat → Int) (k : Nat) (h : k < 6) (v : Int) : (arrI V).setIfInBounds k (.int .i64 v) = arrI (fun i => if i = k then v else V i) := by
  rcases six h with rfl | rfl | rfl | rfl | rfl | rfl <;> rfl
theorem arrB_put (U : Nat → Bool) (k : Nat) (h : k < 6) (v : Bool) : (arrB U).setIfInBounds k (.bool v) = arrB (fun i => if i = k then v else U i) := by
  rcases six h with rfl | rfl | rfl | rfl | rfl | rfl <;> rfl
theorem arrI_at (V : Nat → Int) (k : Nat) (h : k < 6) : (arrI V)[k]? = some (.int .i64 (V k)) := by
  rcases six h with rfl | rfl | rfl | rfl | rfl | rfl <;> rfl
theorem arrB_at (U : Nat → Bool) (k : Nat) (h : k < 6) : (arrB U)[k]? = some (.bool (U k)) := by
  rcases six h with rfl | rfl | rfl | rfl | rfl | rfl <;> rfl
set_option maxRecDepth 100000 in
theorem run_index6 (V : Nat → Int) (k : Nat) (h : k < 6) (wx : World) : (Instr.index 83 (.agg (arrI V)) (.int .i64 (k : Int))).run Tryz.prog wx = .ok (.int .i64 (V k)) wx := by
  rcases six h with rfl | rfl | rfl | rfl | rfl | rfl <;> kernel_rfl

/-- what the two arrays hold while some entries are still to come -/
def Filled (u : Int → Bool) (o : Int → Int) (left : Lit → Bool) (V : Nat → Int) (U : Nat → Bool) : Prop :=
  ∀ i : Nat, i < 6 → U i = (u ((i : Int) - 1) && !left (ik ((i : Int) - 1))) ∧ (U i = true → V i = o ((i : Int) - 1))
theorem filled_step {u : Int → Bool} {o : Int → Int} {left : Lit → Bool} {V : Nat → Int} {U : Nat → Bool} {k : Nat} (h : Filled u o left V U) (hu : u ((k : Int) - 1) = true) :
    Filled u o (fun z => left z && !z.sameKey (ik ((k : Int) - 1))) (fun i => if i = k then o ((k : Int) - 1) else V i) (fun i => if i = k then true else U i) := by
  intro i hi
  by_cases e : i = k
  · subst e
    simp [same_ik, hu]
  · have := h i hi
    have hne : ¬ ((i : Int) - 1 = (k : Int) - 1) := by omega
    simp only [e, if_false, same_ik, hne, decide_false, Bool.not_false, Bool.and_true]
    exact this

theorem readOut_take (u : Int → Bool) (o : Int → Int) (k : Nat) : Nm.readOut u o (k + 1) = Nm.readOut u o k ++ if u ((k : Int) - 1) = true then [((k : Int) - 1, o ((k : Int) - 1))] else [] := rfl

set_option maxRecDepth 100000 in
set_option maxHeartbeats 3200000 in
theorem sortedAtoms_any (w : World) (b n : Nat) (D : DataW Unit) (u : Int → Bool) (o : Int → Int) (hown : w.ownsMap Tryz.prog 3 (plainElem Tryz.prog 3) b n D) (hr : Reads D u o) (hu : ∀ p, u p = true → -1 ≤ p ∧ p < 5) :
    Calls Tryz.prog 164 #[.map (some b)] w fun e w' => ∃ A c, e = .returned (.slice A (Nm.readOut u o 6).length c) ∧ OwnA w' w.heap.size A (Nm.readOut u o 6).length c (Nm.readOut u o 6) ∧ Below w.heap.size w w' := by
  obtain ⟨i0, hi, hz0, hz1, hz2⟩ := info_parts info_atom
  have HR := Lib.hid hr
  have HU := Lib.hid hu
  have hbl := hown.lt
  have HK1 : Hid (Blk ((w.alloc (.cells (arrI fun _ => 0) 83)).alloc (.cells (arrB fun _ => false) 226)) w.heap.size 83 (arrI fun _ => 0)) := (Blk.made _ _ _).alloc _
  have HK2 : Hid (Blk ((w.alloc (.cells (arrI fun _ => 0) 83)).alloc (.cells (arrB fun _ => false) 226)) (w.heap.size + 1) 226 (arrB fun _ => false)) := by
    have h := Blk.made (w.alloc (.cells (arrI fun _ => 0) 83)) 226 (arrB fun _ => false)
    exact Lib.hid (by simpa using h)
  have HB0 : Hid (Below w.heap.size w ((w.alloc (.cells (arrI fun _ => 0) 83)).alloc (.cells (arrB fun _ => false) 226))) := ((Below.refl _ _).alloc (Nat.le_refl _) _).alloc (by simp) _
  have hown2 : ((w.alloc (.cells (arrI fun _ => 0) 83)).alloc (.cells (arrB fun _ => false) 226)).ownsMap Tryz.prog 3 (plainElem Tryz.prog 3) b n D := (hown.alloc _).alloc _
  have e1 : ((w.alloc (.cells (arrI fun _ => 0) 83)).alloc (.cells (arrB fun _ => false) 226)).heap.size = w.heap.size + 1 + 1 := by simp
  clear hr hu hown
  go_enter Tryz.func164, Tryz.ntmps164
  go_wp2_with (first
    | (at_range; refine wpList_range_own _ rfl _ 214 rfl 3 3 lawInt Tryz.underlying214 _ b n _ rfl hown2 ?_; intro w0 hrg0 hg0 hs0)
    | go_in)
  have hrg1 : w0.ranges Tryz.prog 3 (plainElem Tryz.prog 3) b (w.heap.size + 1 + 1) n D (Maps.has D) (Maps.size D) := by rw [← e1]; exact hrg0
  have HK10 := Lib.hid (HK1.out.grown hg0 (by simp))
  have HK20 := Lib.hid (HK2.out.grown hg0 (by simp))
  have HB1 : Hid (Below w.heap.size w w0) := HB0.out.grown hg0 (by rw [e1]; omega) (fun j hj => by cases hj)
  clear HK1 HK2 HB0 hown2 hg0 hrg0 hs0
  go_loopw [5] (fun _ wr => ∃ (left : Lit → Bool) (cnt : Nat) (V : Nat → Int) (U : Nat → Bool), wr.ranges Tryz.prog 3 (plainElem Tryz.prog 3) b (w.heap.size + 1 + 1) n D left cnt ∧ Blk wr w.heap.size 83 (arrI V) ∧ Blk wr (w.heap.size + 1) 226 (arrB U) ∧ Hid (Filled u o left V U) ∧ Below w.heap.size w wr)
    (fun _ wr => wr.rangeLeft b (w.heap.size + 1 + 1))
  case atStart =>
    refine ⟨_, _, fun _ => 0, fun _ => false, hrg1, HK10.out, HK20.out, fun i hi => ?_, HB1.out⟩
    rw [(HR.out _).1]
    simp
  case round =>
    obtain ⟨left, cnt, V, U, hrg, hk1, hk2, HF, hbel⟩ := hrel
    have hbs := hbel.size
    have hl2 := hk2.lt
    go_wp2_with (first
      | (at_next; refine wpList_next_ranges_ii _ rfl _ rfl 3 3 .i64 .i64 lawInt Tryz.underlying3 Tryz.underlying3 b (w.heap.size + 1 + 1) n _ _ _ rfl hrg ?_ ?_)
      | go_in)
    · intro _ hl0
      have HFE : Hid (∀ i : Nat, i < 6 → U i = u ((i : Int) - 1) ∧ (U i = true → V i = o ((i : Int) - 1))) := by
        intro i hi
        have := HF.out i hi
        rw [hl0] at this
        simpa using this
      have hix := run_index6 V
      have hrow : wr.heap[w.heap.size]? = some (.cells (arrI V) 83 (0, 0)) := hk1
      clear hrg HF hl0
      go_wp2_with (first | (refine wpList_load_row rfl 83 _ rfl w.heap.size rfl 83 (arrI V) (0, 0) _ hrow Tryz.underlying83 rfl (by kernel_rfl) ?_) | go_in)
      go_loopw [7, 25] (fun v i wq => ∃ (k : Nat) (A' : Option Addr) (c' : Nat), k ≤ 6 ∧ i = .int .i64 k ∧ v = .slice A' (Nm.readOut u o k).length c' ∧ OwnA wq w.heap.size A' (Nm.readOut u o k).length c' (Nm.readOut u o k) ∧ Blk wq (w.heap.size + 1) 226 (arrB U) ∧ Below w.heap.size w wq) (fun _ i _ => 6 - (intOf i).toNat)
      case atStart => exact ⟨0, none, 0, by omega, rfl, rfl, World.ownsRow_nil _ _ _ _, hk2, hbel⟩
      case round =>
        rename_i wr0 _
        obtain ⟨k, A', c', hk, rfl, rfl, hown, hkq, hbq⟩ := hrel
        have hln := Nm.readOut_len u o k
        have hszq := hbq.size
        by_cases hlt : k < 6
        · have hixk := hix k hlt
          have hul := (hkq.cell k).trans (arrB_at U k hlt)
          obtain ⟨f1, f2⟩ := HFE.out k hlt
          have HRO := Lib.hid (readOut_take u o k)
          have hki : (k : Int) < 6 := by omega
          cases hU : U k with
          | true =>
            rw [hU] at hul f1 f2
            have hv := f2 rfl
            have HRO2 : Hid (Nm.readOut u o (k + 1) = Nm.readOut u o k ++ [((k : Int) + -1, V k)]) := by show _ = _; rw [HRO.out, if_pos f1.symm, hv]; rfl
            generalize Nm.readOut u o k = a at hown hln HRO2 ⊢
            have hap := own_apart hown hkq (by decide)
            have HNB : Hid (∀ j u, ([Value.int .i64 ((k : Int) + -1), .int .i64 (V k)] : List Value)[j]? = some u → (wr.alloc (.cells #[.int .i64 ((k : Int) + -1), .int .i64 (V k)] 92)).cell? ((⟨wr.heap.size, 0, none⟩ : Addr).add j) = some u) := World.news_of_block (cs := #[.int .i64 ((k : Int) + -1), .int .i64 (V k)]) (t := 92) (fr := (0, 0)) (heap_alloc_new wr _)
            clear f1 f2 hv hU HRO
            go_wp2_with (at_builtin; refine wpList_append_own _ rfl (.tmp 32) (.tmp 37) 138 rfl w.heap.size 92 i0 (.agg #[.int .i64 0, .int .i64 0]) 2 16 Tryz.underlying138 hi hz0 hz1 hz2 rfl (by decide) (.slice A' a.length c') a.length (tokCells a) rfl (hown.alloc _) ⟨wr.heap.size, 0, none⟩ 1 1 [.int .i64 ((k : Int) + -1), .int .i64 (V k)] rfl rfl HNB.out (by intro v hv; simp at hv; rcases hv with rfl | rfl <;> rfl) (by unfold maxLen; omega) (by omega) (by simp; omega) ?_; intro v' w3 hown' hgrow _)
            obtain ⟨g', cap', rfl⟩ : ∃ g' cap', v' = .slice (some ⟨g', 0, none⟩) (a.length + 1) cap' := by
              rcases hown'.2 with ⟨_, h⟩ | ⟨g', cap', _, h, _⟩
              · omega
              · exact ⟨g', cap', h⟩
            have HB3 : Hid (Below w.heap.size w w3) := (hbq.alloc hszq _).grown hgrow (by simp; omega) (fun j h => (hown.lt j h).1)
            have HK3 := Lib.hid ((hkq.alloc (.cells #[.int .i64 ((k : Int) + -1), .int .i64 (V k)] 92)).grown hgrow (fun h => hap h.symm))
            have HLN : Hid ((Nm.readOut u o (k + 1)).length = a.length + 1) := by show _ = _; rw [HRO2.out, List.length_append]; rfl
            have HW : Hid (OwnA w3 w.heap.size (some ⟨g', 0, none⟩) (Nm.readOut u o (k + 1)).length cap' (Nm.readOut u o (k + 1))) := by
              show OwnA _ _ _ _ _ _
              rw [HLN.out, HRO2.out]
              unfold OwnA
              rw [tokCells_append]
              exact hown'
            clear hown' hgrow hown hap
            go_wp2
            go_roundw
            case rel => exact ⟨k + 1, some ⟨g', 0, none⟩, cap', by omega, by go_num, by rw [HLN.out], HW.out, HK3.out, HB3.out⟩
            case measure => simp [intOf]; omega
          | false =>
            rw [hU] at hul f1
            have HRO2 : Hid (Nm.readOut u o (k + 1) = Nm.readOut u o k) := by show _ = _; rw [HRO.out, if_neg (by rw [← f1]; simp), List.append_nil]
            have HW := Lib.hid hown
            clear f1 f2 hU HRO hown
            go_wp2
            go_roundw
            case rel => exact ⟨k + 1, A', c', by omega, by go_num, by rw [HRO2.out], by rw [HRO2.out]; exact HW.out, hkq, hbq⟩
            case measure => simp [intOf]; omega
        · obtain rfl : k = 6 := by omega
          have HW := Lib.hid hown
          clear hown
          go_wp2
          go_ret
          exact ⟨A', c', rfl, HW.out, hbq⟩
    · intro x c w1 cnt1 hwx hwc hlx hat hrg1 hlt hg1 hs1 hen
      have hhas : Maps.has D (ik x) = true := has_true_of_atKey hat
      have hux : u x = true := by rw [← (HR.out x).1]; exact hhas
      have hov : c = o x := by
        have h2 := (HR.out x).2 hux (.lit (.int .i64 0))
        rw [hat] at h2
        injection h2 with h2
        injection h2 with _ h2
      subst hov
      obtain ⟨hx1, hx2⟩ := HU.out x hux
      obtain ⟨xn, rfl⟩ : ∃ xn : Nat, x = (xn : Int) - 1 := ⟨(x + 1).toNat, by omega⟩
      have hxn : xn < 6 := by omega
      have HFN := Lib.hid (filled_step HF.out hux)
      have HM : Hid (wr.rangeLeft b (w.heap.size + 1 + 1) = cnt) := hrg.left_eq
      have hk11 := hk1.grown hg1 (by intro h; injection h with h; omega)
      have hk21 := hk2.grown hg1 (by intro h; injection h with h; omega)
      have hbs1 : Below w.heap.size w w1 := hbel.grown hg1 hbel.size (fun j hj => by cases hj; omega)
      have c1 := (hk11.cell xn).trans (arrI_at V xn hxn)
      have t1 := hk11.thawed xn
      have hq1 := hk11.put xn (.int .i64 (o ((xn : Int) - 1)))
      rw [arrI_put V xn hxn] at hq1
      have hq2 := hk21.other (p := ⟨w.heap.size, xn, none⟩) (by simp) (.int .i64 (o ((xn : Int) - 1)))
      have c2 := (hq2.cell xn).trans (arrB_at U xn hxn)
      have t2 := hq2.thawed xn
      have hq3 := hq2.put xn (.bool true)
      rw [arrB_put U xn hxn] at hq3
      have HQ1 := Lib.hid (hq1.other (p := ⟨w.heap.size + 1, xn, none⟩) (by simp) (.bool true))
      have HQ2 := Lib.hid hq3
      have HB2 := Lib.hid ((hbs1.setCell (p := ⟨w.heap.size, xn, none⟩) (Nat.le_refl _) (.int .i64 (o ((xn : Int) - 1)))).setCell (p := ⟨w.heap.size + 1, xn, none⟩) (Nat.le_succ _) (.bool true))
      have HRG : Hid (((w1.setCell ⟨w.heap.size, xn, none⟩ (.int .i64 (o ((xn : Int) - 1)))).setCell ⟨w.heap.size + 1, xn, none⟩ (.bool true)).ranges Tryz.prog 3 (plainElem Tryz.prog 3) b (w.heap.size + 1 + 1) n D (fun z => left z && !z.sameKey (ik ((xn : Int) - 1))) cnt1) := by
        have s1 : w1.grownBy (w1.setCell ⟨w.heap.size, xn, none⟩ (.int .i64 (o ((xn : Int) - 1)))) (some w.heap.size) := ⟨rfl, rfl, rfl, by simp [World.setCell], fun i _ hne => Below.heap_setCell w1 ⟨w.heap.size, xn, none⟩ _ i (by intro he; subst he; exact hne rfl)⟩
        have s2 : (w1.setCell ⟨w.heap.size, xn, none⟩ (.int .i64 (o ((xn : Int) - 1)))).grownBy ((w1.setCell ⟨w.heap.size, xn, none⟩ (.int .i64 (o ((xn : Int) - 1)))).setCell ⟨w.heap.size + 1, xn, none⟩ (.bool true)) (some (w.heap.size + 1)) := ⟨rfl, rfl, rfl, by simp [World.setCell], fun i _ hne => Below.heap_setCell _ ⟨w.heap.size + 1, xn, none⟩ _ i (by intro he; subst he; exact hne rfl)⟩
        exact (hrg1.kept s1 (by intro h; injection h with h; omega) (by intro h; injection h with h; omega)).kept s2 (by intro h; injection h with h; omega) (by intro h; injection h with h; omega)
      have hxi : (xn : Int) < 6 := by omega
      clear hk1 hk2 hk11 hk21 hq1 hq2 hq3 hrg hrg1 hat hlx hwx hwc hg1 hs1 hbs1 HF hhas hux
      generalize o ((xn : Int) - 1) = ov at *
      go_wp2
      go_roundw
      case rel => exact ⟨_, cnt1, _, _, HRG.out, HQ1.out, HQ2.out, HFN.out, HB2.out⟩
      case measure => rw [HRG.out.left_eq, HM.out]; exact hlt
end Go.Proofs.YtgebjnoicgmdoaaGreatDoor
