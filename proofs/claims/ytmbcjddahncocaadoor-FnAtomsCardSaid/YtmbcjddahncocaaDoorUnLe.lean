/- LeUnder and EqUnder of the program. -/
import Derived.Test.YtmbcjddahncocaaDoorUnCu
import Derived.Test.YtmbcjddahncocaaDoorRegInvIn

namespace Go.Proofs.YtmbcjddahncocaaDoor
open Go.RowKit
open Cs (Cn Tb)

/-- compareUnder gives back nil just where the first level is at most the second one -/
theorem cmpV_le (l : List Cn) (a b : List (Int × Int)) (Tc : TypeId) (pc : Value) (T : TypeId) (pv : Value) :
    (cmpV l a b Tc pc T pv = .nilIface ∧ leUnR l a b = true) ∨ ((∃ t v, cmpV l a b Tc pc T pv = .iface t v) ∧ leUnR l a b = false) := by
  cases h : consOkR l with
  | false => exact .inr ⟨⟨_, _, cmpV_c h⟩, leUnR_c h⟩
  | true =>
    cases h1 : Lv.levelOk a with
    | false => exact .inr ⟨⟨_, _, cmpV_a h (fun q => by rw [h1] at q; cases q.1)⟩, leUnR_a h1⟩
    | true =>
      cases h2 : Lv.levelOk b with
      | false => exact .inr ⟨⟨_, _, cmpV_a h (fun q => by rw [h2] at q; cases q.2)⟩, leUnR_b h2⟩
      | true =>
        rw [cmpV_y h ⟨h1, h2⟩, leUnR_y h h1 h2]
        cases Un.exR l a b with
        | none => exact .inl ⟨rfl, rfl⟩
        | some r => exact .inr ⟨⟨_, _, rfl⟩, rfl⟩

set_option maxRecDepth 100000 in
set_option maxHeartbeats 1600000 in
theorem implLeUnder_any (w : World) (B : Nat) (A : Option Addr) (n c : Nat) (l : List Cn) (A1 : Option Addr) (n1 c1 : Nat) (a : List (Int × Int)) (A2 : Option Addr) (n2 c2 : Nat) (m : List (Int × Int)) (T : TypeId) (pv : Value) (Tc : TypeId) (pc : Value) (h0 : 0 < B) (h0c : 1 < B) (hB : B ≤ w.heap.size)
    (hA : SlOk A n c) (hl : ConR w B A n l) (hn : (n : Int) ≤ 140737488355328) (ha : TokR w B A1 n1 a) (hn1 : (n1 : Int) ≤ 140737488355328) (hm : TokR w B A2 n2 m) (hn2 : (n2 : Int) ≤ 140737488355328) (hE : ErrAt w T pv) (hEc : ErrCAt w Tc pc) :
    Calls Tryd.prog 21 #[.slice A n c, .slice A1 n1 c1, .slice A2 n2 c2] w fun e w' => e = .returned (.bool (leUnR l a m)) ∧ Below w.heap.size w w' := by
  have HE := Lib.hid hE
  have HEc := Lib.hid hEc
  have HL := Lib.hid hl
  have HA := Lib.hid ha
  have HM := Lib.hid hm
  clear hE hEc hl ha hm
  go_enter Tryd.func21, Tryd.ntmps21
  go_wp2_with fail
  refine (compareUnder_any w B A n c l A1 n1 c1 a A2 n2 c2 m T pv Tc pc h0 h0c hB hA HL.out hn HA.out hn1 HM.out hn2 HE.out HEc.out).mono ?_
  rintro e w1 ⟨rfl, hb1⟩
  have HB1 := Lib.hid hb1
  clear hb1
  rcases cmpV_le l a m Tc pc T pv with ⟨hv, hr⟩ | ⟨⟨t, v, hv⟩, hr⟩
  · have HR := Lib.hid hr
    rw [hv]
    clear hv hr
    go_wp2
    go_ret
    exact ⟨by rw [HR.out]; rfl, HB1.out⟩
  · have HR := Lib.hid hr
    rw [hv]
    clear hv hr
    go_wp2
    go_ret
    exact ⟨by rw [HR.out]; rfl, HB1.out⟩
set_option maxRecDepth 100000 in
set_option maxHeartbeats 1600000 in
theorem implEqUnder_any (w : World) (B : Nat) (A : Option Addr) (n c : Nat) (l : List Cn) (A1 : Option Addr) (n1 c1 : Nat) (a : List (Int × Int)) (A2 : Option Addr) (n2 c2 : Nat) (m : List (Int × Int)) (T : TypeId) (pv : Value) (Tc : TypeId) (pc : Value) (h0 : 0 < B) (h0c : 1 < B) (hB : B ≤ w.heap.size)
    (hA : SlOk A n c) (hl : ConR w B A n l) (hn : (n : Int) ≤ 140737488355328) (ha : TokR w B A1 n1 a) (hn1 : (n1 : Int) ≤ 140737488355328) (hm : TokR w B A2 n2 m) (hn2 : (n2 : Int) ≤ 140737488355328) (hE : ErrAt w T pv) (hEc : ErrCAt w Tc pc) :
    Calls Tryd.prog 29 #[.slice A n c, .slice A1 n1 c1, .slice A2 n2 c2] w fun e w' => e = .returned (.bool (eqUnR l a m)) ∧ Below w.heap.size w w' := by
  have HE := Lib.hid hE
  have HEc := Lib.hid hEc
  have HL := Lib.hid hl
  have HA := Lib.hid ha
  have HM := Lib.hid hm
  clear hE hEc hl ha hm
  go_enter Tryd.func29, Tryd.ntmps29
  go_wp2_with fail
  refine (implLeUnder_any w B A n c l A1 n1 c1 a A2 n2 c2 m T pv Tc pc h0 h0c hB hA HL.out hn HA.out hn1 HM.out hn2 HE.out HEc.out).mono ?_
  rintro e w1 ⟨rfl, hb1⟩
  have HB1 := Lib.hid hb1
  have hs1 := hb1.size
  clear hb1
  cases h1 : leUnR l a m with
  | false =>
    have HF : Hid (eqUnR l a m = false) := by show _ = _; unfold eqUnR; rw [h1]; rfl
    clear h1
    go_wp2
    go_ret
    exact ⟨by rw [HF.out]; rfl, HB1.out⟩
  | true =>
    have HF : Hid (eqUnR l a m = leUnR l m a) := by show _ = _; unfold eqUnR; rw [h1]; rfl
    clear h1
    go_wp2_with fail
    refine (implLeUnder_any w1 B A n c l A2 n2 c2 m A1 n1 c1 a T pv Tc pc h0 h0c (by omega) hA (HL.out.below (HB1.out.mono hB)) hn (HM.out.below (HB1.out.mono hB)) hn2 (HA.out.below (HB1.out.mono hB)) hn1 (HE.out.below (HB1.out.mono hB) h0) (HEc.out.below (HB1.out.mono hB) h0c)).mono ?_
    rintro e w2 ⟨rfl, hb2⟩
    have HB2 := Lib.hid (HB1.out.trans (hb2.mono hs1))
    obtain ⟨R, hR⟩ : ∃ R, leUnR l m a = R := ⟨_, rfl⟩
    rw [hR] at HF ⊢
    clear hb2 hR
    go_wp2
    go_ret
    exact ⟨by rw [HF.out]; rfl, HB2.out⟩
end Go.Proofs.YtmbcjddahncocaaDoor
