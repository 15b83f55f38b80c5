/- LeUnder and EqUnder of the program. -/
/- Plain facts: Counter's env is one in which the first level is greater; an env of small numbers. -/
import Derived.Test.YtmbcjddahncocaaDoorUnCu
import Derived.Test.YtmbcjddahncocaaDoorRegInvIn
import Derived.Test.YtmbcjddahncocaaDoorUnMath
import Derived.Test.YtmbcjddahncocaaDoorSpec

namespace Go.Proofs.YtmbcjddahncocaaDoor
open Go.RowKit
open Cs (Cn Tb)

/-- compareUnder gives back nil just where the first level is at most the second one -/
theorem cmpV_le (l : List Cn) (a b : List (Int × Int)) (Tc : TypeId) (pc : Value) (T : TypeId) (pv : Value) :
    (cmpV l a b Tc pc T pv = .nilIface ∧ leUnR l a b = true) ∨ ((∃ t v, cmpV l a b Tc pc T pv = .iface t v) ∧ leUnR l a b = false) := by
  cases h : consOkR l with
  | false => exact .inr ⟨⟨_, _, cmpV_c h⟩, leUnR_c h⟩
  | true =>
    cases h1 : Lv.levelOk a with
    | false => exact .inr ⟨⟨_, _, cmpV_a h (fun q => by rw [h1] at q; cases q.1)⟩, leUnR_a h1⟩
    | true =>
      cases h2 : Lv.levelOk b with
      | false => exact .inr ⟨⟨_, _, cmpV_a h (fun q => by rw [h2] at q; cases q.2)⟩, leUnR_b h2⟩
      | true =>
        rw [cmpV_y h ⟨h1, h2⟩, leUnR_y h h1 h2]
        cases Un.exR l a b with
        | none => exact .inl ⟨rfl, rfl⟩
        | some r => exact .inr ⟨⟨_, _, rfl⟩, rfl⟩

set_option maxRecDepth 100000 in
set_option maxHeartbeats 1600000 in
theorem implLeUnder_any (w : World) (B : Nat) (A : Option Addr) (n c : Nat) (l : List Cn) (A1 : Option Addr) (n1 c1 : Nat) (a : List (Int × Int)) (A2 : Option Addr) (n2 c2 : Nat) (m : List (Int × Int)) (T : TypeId) (pv : Value) (Tc : TypeId) (pc : Value) (h0 : 0 < B) (h0c : 1 < B) (hB : B ≤ w.heap.size)
    (hA : SlOk A n c) (hl : ConR w B A n l) (hn : (n : Int) ≤ 140737488355328) (ha : TokR w B A1 n1 a) (hn1 : (n1 : Int) ≤ 140737488355328) (hm : TokR w B A2 n2 m) (hn2 : (n2 : Int) ≤ 140737488355328) (hE : ErrAt w T pv) (hEc : ErrCAt w Tc pc) :
    Calls Tryd.prog 21 #[.slice A n c, .slice A1 n1 c1, .slice A2 n2 c2] w fun e w' => e = .returned (.bool (leUnR l a m)) ∧ Below w.heap.size w w' := by
  have HE := Lib.hid hE
  have HEc := Lib.hid hEc
  have HL := Lib.hid hl
  have HA := Lib.hid ha
  have HM := Lib.hid hm
  clear hE hEc hl ha hm
  go_enter Tryd.func21, Tryd.ntmps21
  go_wp2_with fail
  refine (compareUnder_any w B A n c l A1 n1 c1 a A2 n2 c2 m T pv Tc pc h0 h0c hB hA HL.out hn HA.out hn1 HM.out hn2 HE.out HEc.out).mono ?_
  rintro e w1 ⟨rfl, hb1⟩
  have HB1 := Lib.hid hb1
  clear hb1
  rcases cmpV_le l a m Tc pc T pv with ⟨hv, hr⟩ | ⟨⟨t, v, hv⟩, hr⟩
  · have HR := Lib.hid hr
    rw [hv]
    clear hv hr
    go_wp2
    go_ret
    exact ⟨by rw [HR.out]; rfl, HB1.out⟩
  · have HR := Lib.hid hr
    rw [hv]
    clear hv hr
    go_wp2
    go_ret
    exact ⟨by rw [HR.out]; rfl, HB1.out⟩
set_option maxRecDepth 100000 in
set_option maxHeartbeats 1600000 in
theorem implEqUnder_any (w : World) (B : Nat) (A : Option Addr) (n c : Nat) (l : List Cn) (A1 : Option Addr) (n1 c1 : Nat) (a : List (Int × Int)) (A2 : Option Addr) (n2 c2 : Nat) (m : List (Int × Int)) (T : TypeId) (pv : Value) (Tc : TypeId) (pc : Value) (h0 : 0 < B) (h0c : 1 < B) (hB : B ≤ w.heap.size)
    (hA : SlOk A n c) (hl : ConR w B A n l) (hn : (n : Int) ≤ 140737488355328) (ha : TokR w B A1 n1 a) (hn1 : (n1 : Int) ≤ 140737488355328) (hm : TokR w B A2 n2 m) (hn2 : (n2 : Int) ≤ 140737488355328) (hE : ErrAt w T pv) (hEc : ErrCAt w Tc pc) :
    Calls Tryd.prog 29 #[.slice A n c, .slice A1 n1 c1, .slice A2 n2 c2] w fun e w' => e = .returned (.bool (eqUnR l a m)) ∧ Below w.heap.size w w' := by
  have HE := Lib.hid hE
  have HEc := Lib.hid hEc
  have HL := Lib.hid hl
  have HA := Lib.hid ha
  have HM := Lib.hid hm
  clear hE hEc hl ha hm
  go_enter Tryd.func29, Tryd.ntmps29
  go_wp2_with fail
  refine (implLeUnder_any w B A n c l A1 n1 c1 a A2 n2 c2 m T pv Tc pc h0 h0c hB hA HL.out hn HA.out hn1 HM.out hn2 HE.out HEc.out).mono ?_
  rintro e w1 ⟨rfl, hb1⟩
  have HB1 := Lib.hid hb1
  have hs1 := hb1.size
  clear hb1
  cases h1 : leUnR l a m with
  | false =>
    have HF : Hid (eqUnR l a m = false) := by show _ = _; unfold eqUnR; rw [h1]; rfl
    clear h1
    go_wp2
    go_ret
    exact ⟨by rw [HF.out]; rfl, HB1.out⟩
  | true =>
    have HF : Hid (eqUnR l a m = leUnR l m a) := by show _ = _; unfold eqUnR; rw [h1]; rfl
    clear h1
    go_wp2_with fail
    refine (implLeUnder_any w1 B A n c l A2 n2 c2 m A1 n1 c1 a T pv Tc pc h0 h0c (by omega) hA (HL.out.below (HB1.out.mono hB)) hn (HM.out.below (HB1.out.mono hB)) hn2 (HA.out.below (HB1.out.mono hB)) hn1 (HE.out.below (HB1.out.mono hB) h0) (HEc.out.below (HB1.out.mono hB) h0c)).mono ?_
    rintro e w2 ⟨rfl, hb2⟩
    have HB2 := Lib.hid (HB1.out.trans (hb2.mono hs1))
    obtain ⟨R, hR⟩ : ∃ R, leUnR l m a = R := ⟨_, rfl⟩
    rw [hR] at HF ⊢
    clear hb2 hR
    go_wp2
    go_ret
    exact ⟨by rw [HF.out]; rfl, HB2.out⟩
end Go.Proofs.YtmbcjddahncocaaDoor

namespace Go.Proofs.YtmbcjddahncocaaDoor
open Nm

namespace Dc
theorem misL_not {b l : List At} {p : Int} (h : misL b l = some p) : ∃ x ∈ l, x.1 = p ∧ ¬ ratomLe x b := by
  induction l with
  | nil => cases h
  | cons x t ih =>
    simp only [misL] at h
    split at h
    · obtain ⟨y, hy, e⟩ := ih h
      exact ⟨y, by simp [hy], e⟩
    · rename_i h1
      injection h with h
      exact ⟨x, by simp, h, fun q => h1 ((ratomLeB_iff _ _).2 q)⟩
theorem cenv_peak {S : Nat} {p : Int} (hp : p = -1 ∨ Sg.has (S : Int) p = true) : cenv S p = gpeak 100 (S : Int) p := by
  have hr : List.range 5 = [0, 1, 2, 3, 4] := rfl
  rcases hp with rfl | hp
  · simp [cenv, gpeak, Sg.least, Sg.bit, hr]
  · have hb := has_bd hp
    have h5 : p = 0 ∨ p = 1 ∨ p = 2 ∨ p = 3 ∨ p = 4 := by omega
    rcases h5 with rfl | rfl | rfl | rfl | rfl <;> simp [cenv, gpeak, Sg.least, Sg.bit, hr, hp]
theorem gpeak_ok (s p : Int) : envOk (gpeak 100 s p) = true := by
  unfold envOk
  rw [Bool.and_eq_true, decide_eq_true_iff, List.all_eq_true]
  refine ⟨gpeak_len _ _ _, fun x hx => ?_⟩
  simp only [gpeak, List.mem_map] at hx
  obtain ⟨i, _, rfl⟩ := hx
  split
  · split <;> decide
  · decide
theorem ctr_mis {a b : List (Int × Int)} (ha : Lv.levelOk a = true) (hb : Lv.levelOk b = true) : ctrR a b = (misR 0 a b).map fun x => cenv x.1 x.2 := by unfold ctrR; rw [if_pos ⟨ha, hb⟩]
theorem ctr_none {a b : List (Int × Int)} (ha : Lv.levelOk a = true) (hb : Lv.levelOk b = true) (h : ctrR a b = none) : leR a b = true := by
  rw [← le_at]
  unfold atR
  rw [ha, hb, Bool.true_and, Bool.true_and]
  rw [ctr_mis ha hb, Option.map_eq_none_iff] at h
  rw [h]
  rfl
theorem ctr_some {a b : List (Int × Int)} (ha : Lv.levelOk a = true) (hb : Lv.levelOk b = true) {e : List Int} (h : ctrR a b = some e) : leR a b = false ∧ e.length = 5 ∧ envOk e = true ∧ ev e b < ev e a := by
  rw [ctr_mis ha hb, Option.map_eq_some_iff] at h
  obtain ⟨⟨S, p⟩, hm, rfl⟩ := h
  have hle : leR a b = false := by
    rw [← le_at]
    unfold atR
    rw [hm, ha, hb]
    rfl
  obtain ⟨_, hS, h1⟩ := misS_some hm
  have hS32 : S < 32 := by omega
  rw [up_zero] at h1
  obtain ⟨x, hx, rfl, hn⟩ := misL_not h1
  have hsg := isSign_nat hS32
  have hra := rs_rok ha hsg
  have hrb := rs_rok hb hsg
  obtain ⟨j, hj, rfl⟩ := getD_of_mem hx
  have hbd := hra.2.2.1.mem hx
  have hps := hra.2.2.2.2.1 j hj
  have hg := peak_gt (N := 100) (M := 24) hrb (rs_small hb) (by omega) (by omega) hbd.1 hbd.2.1 hbd.2.2.1 hps hn
  have he := gpeak_env (N := 100) (s := (S : Int)) (p := ((rs a (S : Int)).getD j (0, 0)).1) (by omega)
  refine ⟨hle, cenv_len _ _, ?_, ?_⟩
  · rw [cenv_peak hps]
    exact gpeak_ok _ _
  · rw [cenv_peak hps, ev_resid he ha, ev_resid he hb]
    exact Int.lt_of_lt_of_le hg (value_mem hx)
end Dc
theorem evalU_ok {env : List Int} {l : List (Int × Int)} (he : envOk env = true) (h : Lv.levelOk l = true) : evalV (evalR env l) = .tuple #[.int .i64 (Dc.ev env l), .bool true] := by
  unfold evalR
  rw [if_pos he, Dc.ev_some h]
  rfl
theorem env_small {env : List Int} {m : Int} (h5 : env.length = 5) (hm : m ≤ 1000) (h : ∀ x ∈ env, 0 ≤ x ∧ x ≤ m) : envOk env = true ∧ Pos env := by
  refine ⟨?_, fun x hx => (h x hx).1⟩
  unfold envOk
  rw [Bool.and_eq_true, decide_eq_true_iff, List.all_eq_true]
  refine ⟨h5, fun x hx => ?_⟩
  have := h x hx
  simp
  omega
end Go.Proofs.YtmbcjddahncocaaDoor
