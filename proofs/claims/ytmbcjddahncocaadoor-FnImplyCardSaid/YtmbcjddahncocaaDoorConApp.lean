/- LeUnder and EqUnder of the program. -/
/- Constraints of the program: implies, ConsImply. -/
/- ConsHold, of the program and of the reference model. -/
/- Plain facts: Counter's env is one in which the first level is greater; an env of small numbers. -/
/- Words for an append to a row of constraints of the call's own. -/
import Derived.Test.YtmbcjddahncocaaDoorUnCu
import Derived.Test.YtmbcjddahncocaaDoorImpSem
import Derived.Test.YtmbcjddahncocaaDoorSgHas
import Derived.Test.YtmbcjddahncocaaDoorCsMath7
import Derived.Test.YtmbcjddahncocaaDoorUnMath
import Derived.Test.YtmbcjddahncocaaDoorSpec
import Derived.Test.YtmbcjddahncocaaDoorGoodCons

namespace Go.Proofs.YtmbcjddahncocaaDoor
open Go.RowKit
open Cs (Cn Tb)

/-- compareUnder gives back nil just where the first level is at most the second one -/
theorem cmpV_le (l : List Cn) (a b : List (Int × Int)) (Tc : TypeId) (pc : Value) (T : TypeId) (pv : Value) :
    (cmpV l a b Tc pc T pv = .nilIface ∧ leUnR l a b = true) ∨ ((∃ t v, cmpV l a b Tc pc T pv = .iface t v) ∧ leUnR l a b = false) := by
  cases h : consOkR l with
  | false => exact .inr ⟨⟨_, _, cmpV_c h⟩, leUnR_c h⟩
  | true =>
    cases h1 : Lv.levelOk a with
    | false => exact .inr ⟨⟨_, _, cmpV_a h (fun q => by rw [h1] at q; cases q.1)⟩, leUnR_a h1⟩
    | true =>
      cases h2 : Lv.levelOk b with
      | false => exact .inr ⟨⟨_, _, cmpV_a h (fun q => by rw [h2] at q; cases q.2)⟩, leUnR_b h2⟩
      | true =>
        rw [cmpV_y h ⟨h1, h2⟩, leUnR_y h h1 h2]
        cases Un.exR l a b with
        | none => exact .inl ⟨rfl, rfl⟩
        | some r => exact .inr ⟨⟨_, _, rfl⟩, rfl⟩

set_option maxRecDepth 100000 in
set_option maxHeartbeats 1600000 in
theorem implLeUnder_any (w : World) (B : Nat) (A : Option Addr) (n c : Nat) (l : List Cn) (A1 : Option Addr) (n1 c1 : Nat) (a : List (Int × Int)) (A2 : Option Addr) (n2 c2 : Nat) (m : List (Int × Int)) (T : TypeId) (pv : Value) (Tc : TypeId) (pc : Value) (h0 : 0 < B) (h0c : 1 < B) (hB : B ≤ w.heap.size)
    (hA : SlOk A n c) (hl : ConR w B A n l) (hn : (n : Int) ≤ 140737488355328) (ha : TokR w B A1 n1 a) (hn1 : (n1 : Int) ≤ 140737488355328) (hm : TokR w B A2 n2 m) (hn2 : (n2 : Int) ≤ 140737488355328) (hE : ErrAt w T pv) (hEc : ErrCAt w Tc pc) :
    Calls Tryd.prog 21 #[.slice A n c, .slice A1 n1 c1, .slice A2 n2 c2] w fun e w' => e = .returned (.bool (leUnR l a m)) ∧ Below w.heap.size w w' := by
  have HE := Lib.hid hE
  have HEc := Lib.hid hEc
  have HL := Lib.hid hl
  have HA := Lib.hid ha
  have HM := Lib.hid hm
  clear hE hEc hl ha hm
  go_enter Tryd.func21, Tryd.ntmps21
  go_wp2_with fail
  refine (compareUnder_any w B A n c l A1 n1 c1 a A2 n2 c2 m T pv Tc pc h0 h0c hB hA HL.out hn HA.out hn1 HM.out hn2 HE.out HEc.out).mono ?_
  rintro e w1 ⟨rfl, hb1⟩
  have HB1 := Lib.hid hb1
  clear hb1
  rcases cmpV_le l a m Tc pc T pv with ⟨hv, hr⟩ | ⟨⟨t, v, hv⟩, hr⟩
  · have HR := Lib.hid hr
    rw [hv]
    clear hv hr
    go_wp2
    go_ret
    exact ⟨by rw [HR.out]; rfl, HB1.out⟩
  · have HR := Lib.hid hr
    rw [hv]
    clear hv hr
    go_wp2
    go_ret
    exact ⟨by rw [HR.out]; rfl, HB1.out⟩
set_option maxRecDepth 100000 in
set_option maxHeartbeats 1600000 in
theorem implEqUnder_any (w : World) (B : Nat) (A : Option Addr) (n c : Nat) (l : List Cn) (A1 : Option Addr) (n1 c1 : Nat) (a : List (Int × Int)) (A2 : Option Addr) (n2 c2 : Nat) (m : List (Int × Int)) (T : TypeId) (pv : Value) (Tc : TypeId) (pc : Value) (h0 : 0 < B) (h0c : 1 < B) (hB : B ≤ w.heap.size)
    (hA : SlOk A n c) (hl : ConR w B A n l) (hn : (n : Int) ≤ 140737488355328) (ha : TokR w B A1 n1 a) (hn1 : (n1 : Int) ≤ 140737488355328) (hm : TokR w B A2 n2 m) (hn2 : (n2 : Int) ≤ 140737488355328) (hE : ErrAt w T pv) (hEc : ErrCAt w Tc pc) :
    Calls Tryd.prog 29 #[.slice A n c, .slice A1 n1 c1, .slice A2 n2 c2] w fun e w' => e = .returned (.bool (eqUnR l a m)) ∧ Below w.heap.size w w' := by
  have HE := Lib.hid hE
  have HEc := Lib.hid hEc
  have HL := Lib.hid hl
  have HA := Lib.hid ha
  have HM := Lib.hid hm
  clear hE hEc hl ha hm
  go_enter Tryd.func29, Tryd.ntmps29
  go_wp2_with fail
  refine (implLeUnder_any w B A n c l A1 n1 c1 a A2 n2 c2 m T pv Tc pc h0 h0c hB hA HL.out hn HA.out hn1 HM.out hn2 HE.out HEc.out).mono ?_
  rintro e w1 ⟨rfl, hb1⟩
  have HB1 := Lib.hid hb1
  have hs1 := hb1.size
  clear hb1
  cases h1 : leUnR l a m with
  | false =>
    have HF : Hid (eqUnR l a m = false) := by show _ = _; unfold eqUnR; rw [h1]; rfl
    clear h1
    go_wp2
    go_ret
    exact ⟨by rw [HF.out]; rfl, HB1.out⟩
  | true =>
    have HF : Hid (eqUnR l a m = leUnR l m a) := by show _ = _; unfold eqUnR; rw [h1]; rfl
    clear h1
    go_wp2_with fail
    refine (implLeUnder_any w1 B A n c l A2 n2 c2 m A1 n1 c1 a T pv Tc pc h0 h0c (by omega) hA (HL.out.below (HB1.out.mono hB)) hn (HM.out.below (HB1.out.mono hB)) hn2 (HA.out.below (HB1.out.mono hB)) hn1 (HE.out.below (HB1.out.mono hB) h0) (HEc.out.below (HB1.out.mono hB) h0c)).mono ?_
    rintro e w2 ⟨rfl, hb2⟩
    have HB2 := Lib.hid (HB1.out.trans (hb2.mono hs1))
    obtain ⟨R, hR⟩ : ∃ R, leUnR l m a = R := ⟨_, rfl⟩
    rw [hR] at HF ⊢
    clear hb2 hR
    go_wp2
    go_ret
    exact ⟨by rw [HF.out]; rfl, HB2.out⟩
end Go.Proofs.YtmbcjddahncocaaDoor

namespace Go.Proofs.YtmbcjddahncocaaDoor
open Go.RowKit
open Cs (Cn Tb)

/-- what a table implies -/
def impT (T : Tb) (u v : Nat) (R : Int) : Bool := if R = 1 then decide (1 ≤ T u v) else if R = 2 then decide (0 ≤ T u v) && decide (0 ≤ T v u) else decide (0 ≤ T u v)
theorem impT_imp {l : List Cn} {U R V : Int} {u v : Nat} (hu : U + 1 = u) (hv : V + 1 = v) (h0 : 0 ≤ R) (h2 : R ≤ 2) : impT (Cs.tab l) u v R = Cs.imp l (U, R, V) := by
  rw [imp_at hu hv]
  unfold impT
  by_cases e1 : R = 1
  · rw [if_pos e1, if_neg (by omega), if_pos e1]
  · by_cases e2 : R = 2
    · rw [if_neg e1, if_pos e2, if_neg (by omega), if_neg e1]
    · rw [if_neg e1, if_neg e2, if_pos (by omega)]

set_option maxRecDepth 100000 in
set_option maxHeartbeats 1600000 in
theorem implies_any (w : World) (T : Tb) (U R V : Int) (u v : Nat) (hu : U + 1 = u) (hu6 : u < 6) (hv : V + 1 = v) (hv6 : v < 6) :
    Calls Tryd.prog 76 #[tabV T, .agg #[.int .i64 U, .int .i64 R, .int .i64 V]] w fun e w' => e = .returned (.bool (impT T u v R)) ∧ Below w.heap.size w w' := by
  obtain ⟨W, hW⟩ : ∃ W, (w.alloc (.cells (tabA T) 111)).alloc (.cells #[.int .i64 U, .int .i64 R, .int .i64 V] 39) = W := ⟨_, rfl⟩
  have hb0 : Below w.heap.size w W := by rw [← hW]; exact ((Below.refl _ _).alloc (Nat.le_refl _) _).alloc (by simp) _
  have c0 : Blk W w.heap.size 111 (tabA T) := by
    rw [← hW]
    exact Blk.below (Blk.made w _ _) ((Below.refl _ _).alloc (Nat.le_refl _) _) (by simp)
  have c1 : Blk W (w.heap.size + 1) 39 #[.int .i64 U, .int .i64 R, .int .i64 V] := by
    have h1 : Blk ((w.alloc (.cells (tabA T) 111)).alloc (.cells #[.int .i64 U, .int .i64 R, .int .i64 V] 39)) (w.alloc (.cells (tabA T) 111)).heap.size 39 #[.int .i64 U, .int .i64 R, .int .i64 V] := Blk.made _ _ _
    rw [show (w.alloc (.cells (tabA T) 111)).heap.size = w.heap.size + 1 by simp] at h1
    rw [← hW]
    exact h1
  have y0 : W.cell? ⟨w.heap.size + 1, 0, none⟩ = some (.int .i64 U) := c1.cell 0
  have y1 : W.cell? ⟨w.heap.size + 1, 1, none⟩ = some (.int .i64 R) := c1.cell 1
  have y2 : W.cell? ⟨w.heap.size + 1, 2, none⟩ = some (.int .i64 V) := c1.cell 2
  have HC1 := Lib.hid c1
  have HC0 := Lib.hid c0
  have HB0 := Lib.hid hb0
  have HU := Lib.hid hu
  have HV := Lib.hid hv
  clear c1 hu hv hb0
  go_enter Tryd.func76, Tryd.ntmps76
  go_wp2_with (refine wpList_load_row rfl 111 _ rfl w.heap.size rfl 111 (tabA T) (0, 0) _ c0 Tryd.underlying111 rfl (size_tab T) ?_)
  refine (far_any W T U V u v HU.out hu6 HV.out hv6).mono ?_
  rintro e w1 ⟨rfl, hb1⟩
  have HB1 := Lib.hid (HB0.out.trans (hb1.mono HB0.out.size))
  have k0 := Blk.below HC0.out hb1 HC0.out.lt
  have k1 := Blk.below HC1.out hb1 HC1.out.lt
  have z0 : w1.cell? ⟨w.heap.size + 1, 0, none⟩ = some (.int .i64 U) := k1.cell 0
  have z1 : w1.cell? ⟨w.heap.size + 1, 1, none⟩ = some (.int .i64 R) := k1.cell 1
  have z2 : w1.cell? ⟨w.heap.size + 1, 2, none⟩ = some (.int .i64 V) := k1.cell 2
  obtain ⟨x, hx⟩ : ∃ x, T u v = x := ⟨_, rfl⟩
  rw [hx]
  have HX := Lib.hid hx
  clear hb1 k1 hW y0 y1 y2 c0 hx
  by_cases e1 : R = 1
  · have HF : Hid (impT T u v R = decide (1 ≤ x)) := by show _ = _; unfold impT; rw [if_pos e1, HX.out]
    subst e1
    go_wp2
    go_ret
    exact ⟨by rw [HF.out]; rfl, HB1.out⟩
  · have d1 : (R == 1) = false := by simpa using e1
    by_cases e2 : R = 2
    · subst e2
      by_cases h0 : 0 ≤ x
      · have HF : Hid (impT T u v 2 = decide (0 ≤ T v u)) := by show _ = _; unfold impT; rw [if_neg (by decide), if_pos rfl, HX.out, decide_eq_true h0, Bool.true_and]
        have dx : decide (0 ≤ x) = true := decide_eq_true h0
        go_wp2_with (refine wpList_load_row_g rfl 111 _ rfl w.heap.size rfl 111 (tabA T) (0, 0) _ k0 Tryd.underlying111 rfl (size_tab T) ?_)
        refine (far_any w1 T V U v u HV.out hv6 HU.out hu6).mono ?_
        rintro e w2 ⟨rfl, hb2⟩
        have HB2 := Lib.hid (HB1.out.trans (hb2.mono HB1.out.size))
        clear hb2
        obtain ⟨y, hy⟩ : ∃ y, T v u = y := ⟨_, rfl⟩
        rw [hy] at HF ⊢
        clear hy
        go_wp2
        go_ret
        exact ⟨by rw [HF.out]; rfl, HB2.out⟩
      · have HF : Hid (impT T u v 2 = false) := by show _ = _; unfold impT; rw [if_neg (by decide), if_pos rfl, HX.out, decide_eq_false h0, Bool.false_and]
        have dx : decide (0 ≤ x) = false := decide_eq_false h0
        go_wp2
        go_ret
        exact ⟨by rw [HF.out]; rfl, HB1.out⟩
    · have HF : Hid (impT T u v R = decide (0 ≤ x)) := by show _ = _; unfold impT; rw [if_neg e1, if_neg e2, HX.out]
      have d2 : (R == 2) = false := by simpa using e2
      clear e1 e2
      go_wp2
      go_ret
      exact ⟨by rw [HF.out]; rfl, HB1.out⟩

set_option maxRecDepth 100000 in
set_option maxHeartbeats 1600000 in
theorem implConsImply_any (w : World) (B : Nat) (A : Option Addr) (n c : Nat) (l : List Cn) (U R V : Int) (hB : B ≤ w.heap.size) (hl : ConR w B A n l) (hn : (n : Int) ≤ 140737488355328) :
    Calls Tryd.prog 23 #[.slice A n c, .agg #[.int .i64 U, .int .i64 R, .int .i64 V]] w fun e w' => e = .returned (.bool (impR l (U, R, V))) ∧ Below w.heap.size w w' := by
  have hz := zeros_tab
  obtain ⟨W0, hW0⟩ : ∃ W, w.alloc (.cells #[.int .i64 U, .int .i64 R, .int .i64 V] 39) = W := ⟨_, rfl⟩
  have hb0 : Below w.heap.size w W0 := by rw [← hW0]; exact (Below.refl _ _).alloc (Nat.le_refl _) _
  have hs0 : w.heap.size < W0.heap.size := by rw [← hW0]; simp
  have HX : Hid (Blk W0 w.heap.size 39 #[.int .i64 U, .int .i64 R, .int .i64 V]) := by show Blk _ _ _ _; rw [← hW0]; exact Blk.made _ _ _
  have HL := Lib.hid (hl.below (hb0.mono hB))
  have HB0 := Lib.hid hb0
  clear hl hb0
  go_enter Tryd.func23, Tryd.ntmps23
  go_wp2_with fail
  refine (pathsOf_any W0 B A n c l (by omega) HL.out hn).mono ?_
  rintro e w1 ⟨rfl, hb1⟩
  obtain ⟨T, hT⟩ : ∃ T, pathT l = T := ⟨_, rfl⟩
  rw [hT]
  have HT := Lib.hid hT
  clear hT
  obtain ⟨W1, hW1⟩ : ∃ W, w1.alloc (.cells (tabA zeroT) 111) = W := ⟨_, rfl⟩
  have c1 : Blk W1 w1.heap.size 111 (tabA zeroT) := by rw [← hW1]; exact Blk.made _ _ _
  obtain ⟨S, hS⟩ : ∃ S, w1.heap.size = S := ⟨_, rfl⟩
  rw [hS] at c1
  obtain ⟨W2, hW2⟩ : ∃ W, W1.setRow S (tabA T) = W := ⟨_, rfl⟩
  have c2 : Blk W2 S 111 (tabA T) := by rw [← hW2]; exact BlkT.lay c1 T
  have hSw : w.heap.size < S := by have := hb1.size; omega
  have HB2 : Hid (Below w.heap.size w W2) := by
    show Below _ _ _
    have q1 : Below w1.heap.size w1 W1 := by rw [← hW1]; exact (Below.refl _ _).alloc (Nat.le_refl _) _
    have := q1.size
    have := hb1.size
    rw [← hW2]
    exact (Wrote.row _ _ _).below (HB0.out.trans (hb1.mono (by omega)) |>.trans (q1.mono (by omega))) (by omega) (by omega)
  have HX2 : Hid (Blk W2 w.heap.size 39 #[.int .i64 U, .int .i64 R, .int .i64 V]) := by
    show Blk _ _ _ _
    have q1 : Below w1.heap.size w1 W1 := by rw [← hW1]; exact (Below.refl _ _).alloc (Nat.le_refl _) _
    rw [← hW2]
    exact (Wrote.row _ _ _).blk (Blk.below (Blk.below HX.out hb1 hs0) q1 (by omega)) (by omega)
  have y0 : W2.cell? ⟨w.heap.size, 0, none⟩ = some (.int .i64 U) := HX2.out.cell 0
  have y1 : W2.cell? ⟨w.heap.size, 1, none⟩ = some (.int .i64 R) := HX2.out.cell 1
  have y2 : W2.cell? ⟨w.heap.size, 2, none⟩ = some (.int .i64 V) := HX2.out.cell 2
  clear hb1 hW0
  cases h1 : satR l with
  | false =>
    have HF : Hid (impR l (U, R, V) = false) := by show _ = _; unfold impR; rw [h1, Bool.false_and, Bool.false_and]
    clear h1
    go_wp2_with (refine wpList_store_row rfl 111 _ _ rfl S (tabA T) rfl rfl 111 (tabA zeroT) c1 (size_tab T) rfl (tabA_one T) ?_)
    go_ret
    exact ⟨by rw [HF.out]; rfl, HB2.out⟩
  | true =>
    have H1 := Lib.hid h1
    clear h1
    go_wp2_with (refine wpList_store_row rfl 111 _ _ rfl S (tabA T) rfl rfl 111 (tabA zeroT) c1 (size_tab T) rfl (tabA_one T) ?_)
    refine (implConOk_any W2 U R V).mono ?_
    rintro e w3 ⟨rfl, hb3⟩
    have HB3 := Lib.hid (HB2.out.trans (hb3.mono HB2.out.size))
    have HX3 := Lib.hid (Blk.below HX2.out hb3 HX2.out.lt)
    have z0 : w3.cell? ⟨w.heap.size, 0, none⟩ = some (.int .i64 U) := HX3.out.cell 0
    have z1 : w3.cell? ⟨w.heap.size, 1, none⟩ = some (.int .i64 R) := HX3.out.cell 1
    have z2 : w3.cell? ⟨w.heap.size, 2, none⟩ = some (.int .i64 V) := HX3.out.cell 2
    have c3 := Blk.below c2 hb3 c2.lt
    clear hb3 y0 y1 y2 c1 c2 hW1 hW2 hS
    cases h2 : Cs.cOk (U, R, V) with
    | false =>
      have HF : Hid (impR l (U, R, V) = false) := by show _ = _; unfold impR; rw [H1.out, h2, Bool.true_and, Bool.false_and]
      clear h2
      go_wp2
      go_ret
      exact ⟨by rw [HF.out]; rfl, HB3.out⟩
    | true =>
      have ho := (Cs.cOk_iff _).1 h2
      obtain ⟨u, hu⟩ : ∃ u : Nat, U + 1 = u := ⟨(U + 1).toNat, by have := ho.1.1; have h : -1 ≤ U := this; omega⟩
      obtain ⟨v, hv⟩ : ∃ v : Nat, V + 1 = v := ⟨(V + 1).toNat, by have := ho.2.1.1; have h : -1 ≤ V := this; omega⟩
      have hu6 : u < 6 := by have := ho.1.2; have h : U < 5 := this; omega
      have hv6 : v < 6 := by have := ho.2.1.2; have h : V < 5 := this; omega
      have HF : Hid (impR l (U, R, V) = impT T u v R) := by
        show _ = _
        unfold impR
        rw [H1.out, h2, Bool.true_and, Bool.true_and, ← HT.out, pathT_yes H1.out]
        exact (impT_imp hu hv ho.2.2.1 ho.2.2.2).symm
      have HU := Lib.hid hu
      have HV := Lib.hid hv
      clear h2 ho hu hv
      go_wp2_with (refine wpList_load_row_g rfl 111 _ rfl S rfl 111 (tabA T) (0, 0) _ c3 Tryd.underlying111 rfl (size_tab T) ?_)
      refine (implies_any w3 T U R V u v HU.out hu6 HV.out hv6).mono ?_
      rintro e w4 ⟨rfl, hb4⟩
      have HB4 := Lib.hid (HB3.out.trans (hb4.mono HB3.out.size))
      clear hb4
      rw [← HF.out]
      go_wp2
      go_ret
      exact ⟨rfl, HB4.out⟩
end Go.Proofs.YtmbcjddahncocaaDoor

namespace Go.Proofs.YtmbcjddahncocaaDoor
open Go.RowKit
open Cs (Cn)

theorem consHold_bad {l : List Cn} {env : List Int} {k : Nat} {t : Cn} (hk : k < l.length) (ht : l.getD k (0, 0, 0) = t) (h : conHoldsR t env = false) : consHoldR l env = false := by
  cases e : consHoldR l env with
  | false => rfl
  | true =>
    unfold consHoldR at e
    simp only [Bool.and_eq_true, List.all_eq_true] at e
    have hm : t ∈ l := by rw [← ht, List.getD_eq_getElem?_getD, List.getElem?_eq_getElem hk]; exact List.getElem_mem _
    have : conHoldsR t env = true := by unfold conHoldsR; rw [(consOkR_ok e.1.1).1 t hm, e.1.2, e.2 t hm]; rfl
    rw [h] at this
    cases this
theorem consHold_all {l : List Cn} {env : List Int} (h : ∀ j, j < l.length → conHoldsR (l.getD j (0, 0, 0)) env = true) : consHoldR l env = (consOkR l && envOk env) := by
  unfold consHoldR
  have : l.all (holdR env) = true := by
    rw [List.all_eq_true]
    intro t ht
    obtain ⟨j, hj, rfl⟩ := List.getElem_of_mem ht
    have := h j hj
    unfold conHoldsR at this
    simp only [Bool.and_eq_true] at this
    rw [List.getD_eq_getElem?_getD, List.getElem?_eq_getElem hj] at this
    exact this.2
  rw [this, Bool.and_true]
theorem consHold_no {l : List Cn} {env : List Int} {k : Nat} {t : Cn} (hk : k < l.length) (ht : l.getD k (0, 0, 0) = t) (h : holdR env t = false) : consHoldR l env = false := by
  refine consHold_bad hk ht ?_
  unfold conHoldsR
  rw [h, Bool.and_false]
theorem consHold_yes {l : List Cn} {env : List Int} (h1 : consOkR l = true) (h2 : envOk env = true) (h : ∀ j, j < l.length → holdR env (l.getD j (0, 0, 0)) = true) : consHoldR l env = true := by
  rw [consHold_all fun j hj => ?_, h1, h2]
  · rfl
  · unfold conHoldsR
    rw [h j hj, h2, (consOkR_ok h1).1 (l.getD j (0, 0, 0)) (by rw [List.getD_eq_getElem?_getD, List.getElem?_eq_getElem hj]; exact List.getElem_mem _)]
    rfl

set_option maxRecDepth 100000 in
set_option maxHeartbeats 1600000 in
theorem implConsHold_any (w : World) (B : Nat) (A : Option Addr) (n c : Nat) (l : List Cn) (A1 : Option Addr) (n1 c1 : Nat) (env : List Int) (hB : B ≤ w.heap.size) (hl : ConR w B A n l) (hn : (n : Int) ≤ 140737488355328) (hR : IntR w B A1 n1 env) (hn1 : (n1 : Int) ≤ 140737488355328) :
    Calls Tryd.prog 27 #[.slice A n c, .slice A1 n1 c1] w fun e w' => e = .returned (.bool (consHoldR l env)) ∧ Below w.heap.size w w' := by
  have HR := Lib.hid hR
  have HLL := Lib.hid hl
  clear hR
  go_enter Tryd.func27, Tryd.ntmps27
  go_wp2_with fail
  refine (implConsOk_any w B A n c l hB hl hn).mono ?_
  rintro e w1 ⟨rfl, hb1⟩
  have HB1 := Lib.hid hb1
  have hs1 := hb1.size
  clear hb1
  cases h1 : consOkR l with
  | false =>
    have HF : Hid (consHoldR l env = false) := by show _ = _; unfold consHoldR; rw [h1]; rfl
    clear h1
    go_wp2
    go_ret
    exact ⟨by rw [HF.out]; rfl, HB1.out⟩
  | true =>
    have H1 := Lib.hid h1
    clear h1
    go_wp2_with fail
    refine (envOk_any w1 B A1 n1 c1 env (HR.out.below (HB1.out.mono hB)) hn1).mono ?_
    rintro e w2 ⟨rfl, rfl⟩
    cases h2 : envOk env with
    | false =>
      have HF : Hid (consHoldR l env = false) := by show _ = _; unfold consHoldR; rw [H1.out, h2]; rfl
      clear h2
      go_wp2
      go_ret
      exact ⟨by rw [HF.out]; rfl, HB1.out⟩
    | true =>
      have H2 := Lib.hid h2
      obtain rfl : n1 = 5 := by rw [← HR.out.1]; exact envOk_len h2
      clear h2
      go_wp2
      go_loopw [17] (fun i wr => ∃ k : Nat, k ≤ n ∧ i = .int .i64 k ∧ Hid (∀ j, j < k → holdR env (l.getD j (0, 0, 0)) = true) ∧ Hid (Below w.heap.size w wr)) (fun i _ => n - (intOf i).toNat)
      case atStart => exact ⟨0, Nat.zero_le _, rfl, (fun j hj => absurd hj (by omega)), HB1.out⟩
      case round =>
        obtain ⟨k, hk, rfl, HA, HBR⟩ := hrel
        have hszr := HBR.out.size
        by_cases hlt : k < n
        · have hki : (k : Int) < (n : Int) := by omega
          obtain ⟨b, off, hA, hb, hc⟩ := hl.2 (by omega)
          obtain ⟨x1, x2, x3⟩ := hc k hlt
          have HL := Lib.hid hl.1
          obtain ⟨t, ht⟩ : ∃ t, l.getD k (0, 0, 0) = t := ⟨_, rfl⟩
          have hkl : k < l.length := by rw [HL.out]; exact hlt
          have HOK := Lib.hid ((consOkR_ok H1.out).1 (l.getD k (0, 0, 0)) (by rw [List.getD_eq_getElem?_getD, List.getElem?_eq_getElem hkl]; exact List.getElem_mem _))
          rw [ht] at x1 x2 x3 HOK
          obtain ⟨U, R, V⟩ := t
          have HT := Lib.hid ht
          subst hA
          have k1 := (HBR.out.cell (p := ⟨b, off + k * 3, none⟩) (by show b < _; omega)).trans x1
          have k2 := (HBR.out.cell (p := ⟨b, off + k * 3 + 1, none⟩) (by show b < _; omega)).trans x2
          have k3 := (HBR.out.cell (p := ⟨b, off + k * 3 + 2, none⟩) (by show b < _; omega)).trans x3
          obtain ⟨W1, hW1⟩ : ∃ W1, wr.alloc (.cells #[.int .i64 U, .int .i64 R, .int .i64 V] 39) = W1 := ⟨_, rfl⟩
          have hb1 : Below wr.heap.size wr W1 := by rw [← hW1]; exact (Below.refl _ _).alloc (Nat.le_refl _) _
          have hbx : Blk W1 wr.heap.size 39 #[.int .i64 U, .int .i64 R, .int .i64 V] := by rw [← hW1]; exact Blk.made _ _ _
          have y0 : W1.cell? ⟨wr.heap.size, 0, none⟩ = some (.int .i64 U) := hbx.cell 0
          have y1 : W1.cell? ⟨wr.heap.size, 1, none⟩ = some (.int .i64 R) := hbx.cell 1
          have y2 : W1.cell? ⟨wr.heap.size, 2, none⟩ = some (.int .i64 V) := hbx.cell 2
          have HBW := Lib.hid (HBR.out.trans (hb1.mono hszr))
          have hsw := HBW.out.size
          clear hc ht x1 x2 x3 hl hbx hb1
          go_wp2_with fail
          refine (conHolds_any W1 B A1 c1 env U R V (by omega) (HR.out.below (HBW.out.mono hB)) HOK.out).mono ?_
          rintro e w2 ⟨rfl, hb2⟩
          have HB2 := Lib.hid (HBW.out.trans (hb2.mono hsw))
          clear hb2
          cases hok : holdR env (U, R, V) with
          | true =>
            have HA2 : Hid (∀ j, j < k + 1 → holdR env (l.getD j (0, 0, 0)) = true) := fun j hj => by
              by_cases e : j = k
              · subst e; rw [HT.out]; exact hok
              · exact HA.out j (by omega)
            clear hok
            go_wp2
            go_roundw
            case rel => exact ⟨k + 1, by omega, by go_num, HA2.out, HB2.out⟩
            case measure => simp [intOf]; omega
          | false =>
            have HF := Lib.hid (consHold_no (l := l) (by rw [HL.out]; exact hlt) HT.out hok)
            clear hok
            go_wp2
            go_ret
            exact ⟨by rw [HF.out]; rfl, HB2.out⟩
        · obtain rfl : k = n := by omega
          have hkk : ¬ (k : Int) < (k : Int) := by omega
          have HF := Lib.hid (consHold_yes (l := l) H1.out H2.out (fun j hj => HA.out j (by rw [← hl.1]; exact hj)))
          clear hl
          go_wp2
          go_ret
          exact ⟨by rw [HF.out]; rfl, HBR.out⟩
end Go.Proofs.YtmbcjddahncocaaDoor

namespace Go.Proofs.YtmbcjddahncocaaDoor
open Nm

namespace Dc
theorem misL_not {b l : List At} {p : Int} (h : misL b l = some p) : ∃ x ∈ l, x.1 = p ∧ ¬ ratomLe x b := by
  induction l with
  | nil => cases h
  | cons x t ih =>
    simp only [misL] at h
    split at h
    · obtain ⟨y, hy, e⟩ := ih h
      exact ⟨y, by simp [hy], e⟩
    · rename_i h1
      injection h with h
      exact ⟨x, by simp, h, fun q => h1 ((ratomLeB_iff _ _).2 q)⟩
theorem cenv_peak {S : Nat} {p : Int} (hp : p = -1 ∨ Sg.has (S : Int) p = true) : cenv S p = gpeak 100 (S : Int) p := by
  have hr : List.range 5 = [0, 1, 2, 3, 4] := rfl
  rcases hp with rfl | hp
  · simp [cenv, gpeak, Sg.least, Sg.bit, hr]
  · have hb := has_bd hp
    have h5 : p = 0 ∨ p = 1 ∨ p = 2 ∨ p = 3 ∨ p = 4 := by omega
    rcases h5 with rfl | rfl | rfl | rfl | rfl <;> simp [cenv, gpeak, Sg.least, Sg.bit, hr, hp]
theorem gpeak_ok (s p : Int) : envOk (gpeak 100 s p) = true := by
  unfold envOk
  rw [Bool.and_eq_true, decide_eq_true_iff, List.all_eq_true]
  refine ⟨gpeak_len _ _ _, fun x hx => ?_⟩
  simp only [gpeak, List.mem_map] at hx
  obtain ⟨i, _, rfl⟩ := hx
  split
  · split <;> decide
  · decide
theorem ctr_mis {a b : List (Int × Int)} (ha : Lv.levelOk a = true) (hb : Lv.levelOk b = true) : ctrR a b = (misR 0 a b).map fun x => cenv x.1 x.2 := by unfold ctrR; rw [if_pos ⟨ha, hb⟩]
theorem ctr_none {a b : List (Int × Int)} (ha : Lv.levelOk a = true) (hb : Lv.levelOk b = true) (h : ctrR a b = none) : leR a b = true := by
  rw [← le_at]
  unfold atR
  rw [ha, hb, Bool.true_and, Bool.true_and]
  rw [ctr_mis ha hb, Option.map_eq_none_iff] at h
  rw [h]
  rfl
theorem ctr_some {a b : List (Int × Int)} (ha : Lv.levelOk a = true) (hb : Lv.levelOk b = true) {e : List Int} (h : ctrR a b = some e) : leR a b = false ∧ e.length = 5 ∧ envOk e = true ∧ ev e b < ev e a := by
  rw [ctr_mis ha hb, Option.map_eq_some_iff] at h
  obtain ⟨⟨S, p⟩, hm, rfl⟩ := h
  have hle : leR a b = false := by
    rw [← le_at]
    unfold atR
    rw [hm, ha, hb]
    rfl
  obtain ⟨_, hS, h1⟩ := misS_some hm
  have hS32 : S < 32 := by omega
  rw [up_zero] at h1
  obtain ⟨x, hx, rfl, hn⟩ := misL_not h1
  have hsg := isSign_nat hS32
  have hra := rs_rok ha hsg
  have hrb := rs_rok hb hsg
  obtain ⟨j, hj, rfl⟩ := getD_of_mem hx
  have hbd := hra.2.2.1.mem hx
  have hps := hra.2.2.2.2.1 j hj
  have hg := peak_gt (N := 100) (M := 24) hrb (rs_small hb) (by omega) (by omega) hbd.1 hbd.2.1 hbd.2.2.1 hps hn
  have he := gpeak_env (N := 100) (s := (S : Int)) (p := ((rs a (S : Int)).getD j (0, 0)).1) (by omega)
  refine ⟨hle, cenv_len _ _, ?_, ?_⟩
  · rw [cenv_peak hps]
    exact gpeak_ok _ _
  · rw [cenv_peak hps, ev_resid he ha, ev_resid he hb]
    exact Int.lt_of_lt_of_le hg (value_mem hx)
end Dc
theorem evalU_ok {env : List Int} {l : List (Int × Int)} (he : envOk env = true) (h : Lv.levelOk l = true) : evalV (evalR env l) = .tuple #[.int .i64 (Dc.ev env l), .bool true] := by
  unfold evalR
  rw [if_pos he, Dc.ev_some h]
  rfl
theorem env_small {env : List Int} {m : Int} (h5 : env.length = 5) (hm : m ≤ 1000) (h : ∀ x ∈ env, 0 ≤ x ∧ x ≤ m) : envOk env = true ∧ Pos env := by
  refine ⟨?_, fun x hx => (h x hx).1⟩
  unfold envOk
  rw [Bool.and_eq_true, decide_eq_true_iff, List.all_eq_true]
  refine ⟨h5, fun x hx => ?_⟩
  have := h x hx
  simp
  omega
end Go.Proofs.YtmbcjddahncocaaDoor

namespace Go.Proofs.YtmbcjddahncocaaDoor
open Go.RowKit
open Cs (Cn)

theorem tok_two {w : World} {base : Nat} {v : Value} {xs : List Value} (h : w.ownsRow base 48 2 v (1 + 1) xs) : ∃ g c, v = .slice (some ⟨g, 0, none⟩) 2 c := by
  rcases h.2 with ⟨_, h0⟩ | ⟨g', cap', _, h0, _⟩
  · omega
  · exact ⟨g', cap', h0⟩
end Go.Proofs.YtmbcjddahncocaaDoor
