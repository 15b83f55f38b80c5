/- ResidEval of the program and of the reference model. -/
import Derived.Test.YtijiohdddfdjfaaROk2
import Derived.Test.YtijiohdddfdjfaaNEval
import Derived.Test.YtijiohdddfdjfaaSgOf
namespace Go.Proofs.Ytijiohdddfdjfaa
open Go.RowKit

/-- what ResidEval answers -/
noncomputable def revR (l : List (Int × Int)) (env : List Int) : Option Int := if Nm.residOk (Sg.sgR env) l = true then some (Nm.value env l) else none
/-- what ResidEval gives back -/
noncomputable def revV (l : List (Int × Int)) (env : List Int) : Value := .tuple #[.int .i64 ((revR l env).getD 0), .bool (revR l env).isSome]
theorem revR_no {l : List (Int × Int)} {env : List Int} (h : Nm.residOk (Sg.sgR env) l = false) : revR l env = none := if_neg (by rw [h]; decide)
theorem revR_yes {l : List (Int × Int)} {env : List Int} (h : Nm.residOk (Sg.sgR env) l = true) : revR l env = some (Nm.value env l) := if_pos h
theorem env_of_sign {l : List (Int × Int)} {env : List Int} (h : Nm.residOk (Sg.sgR env) l = true) : envOk env = true := by
  have h1 := ((Nm.residOk_iff _ _).1 h).1
  cases he : envOk env with
  | true => rfl
  | false =>
    unfold Sg.sgR at h1
    rw [he, if_neg (by decide)] at h1
    simp [Sg.isSign] at h1

set_option maxHeartbeats 800000 in
theorem implResidEval_any (w : World) (B : Nat) (A : Option Addr) (n c : Nat) (l : List (Int × Int)) (A2 : Option Addr) (n2 c2 : Nat) (env : List Int) (hB : B ≤ w.heap.size) (hl : TokR w B A n l) (hn : (n : Int) ≤ 140737488355328) (hc : n ≤ c)
    (hE : IntR w B A2 n2 env) (hn2 : (n2 : Int) ≤ 140737488355328) :
    Calls Try.prog 16 #[.slice A n c, .slice A2 n2 c2] w fun e w' => e = .returned (revV l env) ∧ Below w.heap.size w w' := by
  cases h1 : Nm.residOk (Sg.sgR env) l with
  | false =>
    have HF := Lib.hid (revR_no h1)
    have HO := Lib.hid h1
    clear h1
    go_enter Try.func16, Try.ntmps16
    go_wp2_with fail
    refine (implSignOf_any w B A2 n2 c2 env hE hn2).mono ?_
    rintro e w' ⟨rfl, rfl⟩
    go_wp2_with fail
    refine (implResidOk_any _ B A n c l (Sg.sgR env) hB hl hn hc).mono ?_
    rintro e w1 ⟨rfl, hb1⟩
    rw [HO.out]
    go_wp2
    go_ret2
    exact ⟨by rw [revV, HF.out]; rfl, hb1⟩
  | true =>
    have HF := Lib.hid (revR_yes h1)
    have HO := Lib.hid h1
    have HE2 := Lib.hid (env_of_sign h1)
    have HOK := Lib.hid ((Nm.residOk_iff _ l).1 h1).2.2.1
    clear h1
    go_enter Try.func16, Try.ntmps16
    go_wp2_with fail
    refine (implSignOf_any w B A2 n2 c2 env hE hn2).mono ?_
    rintro e w' ⟨rfl, rfl⟩
    go_wp2_with fail
    refine (implResidOk_any _ B A n c l (Sg.sgR env) hB hl hn hc).mono ?_
    rintro e w1 ⟨rfl, hb1⟩
    rw [HO.out]
    go_wp2_with fail
    refine (greatestValue_any w1 B A n c l A2 n2 c2 env (Nat.le_trans hB hb1.size) (hl.below (hb1.mono hB)) hn (hE.below (hb1.mono hB)) HOK.out HE2.out).mono ?_
    rintro e w3 ⟨rfl, hb3⟩
    have HB := Lib.hid (hb1.trans (hb3.mono hb1.size))
    clear hb1 hb3
    go_wp2
    go_ret2
    exact ⟨by rw [revV, HF.out]; rfl, HB.out⟩

set_option maxRecDepth 100000 in
set_option maxHeartbeats 1600000 in
theorem specResidEval_any (w : World) (B : Nat) (A : Option Addr) (n c : Nat) (l : List (Int × Int)) (A2 : Option Addr) (n2 c2 : Nat) (env : List Int) (hB : B ≤ w.heap.size) (hl : TokR w B A n l) (hn : (n : Int) ≤ 140737488355328)
    (hE : IntR w B A2 n2 env) (hn2 : (n2 : Int) ≤ 140737488355328) :
    Calls Try.prog 26 #[.slice A n c, .slice A2 n2 c2] w fun e w' => e = .returned (revV l env) ∧ Below w.heap.size w w' := by
  cases h1 : Nm.residOk (Sg.sgR env) l with
  | false =>
    have HF := Lib.hid (revR_no h1)
    have HO := Lib.hid h1
    clear h1
    go_enter Try.func26, Try.ntmps26
    go_wp2_with fail
    refine (specSignOf_any w B A2 n2 c2 env hE hn2).mono ?_
    rintro e w' ⟨rfl, rfl⟩
    go_wp2_with fail
    refine (specResidOk_any _ B A n c l (Sg.sgR env) hB hl hn).mono ?_
    rintro e w1 ⟨rfl, hb1⟩
    rw [HO.out]
    go_wp2
    go_ret2
    exact ⟨by rw [revV, HF.out]; rfl, hb1⟩
  | true =>
    have HF := Lib.hid (revR_yes h1)
    have HO := Lib.hid h1
    have HO2 := Lib.hid (env_of_sign h1)
    have HOK := Lib.hid ((Nm.residOk_iff _ l).1 h1).2.2.1
    clear h1
    go_enter Try.func26, Try.ntmps26
    go_wp2_with fail
    refine (specSignOf_any w B A2 n2 c2 env hE hn2).mono ?_
    rintro e w' ⟨rfl, rfl⟩
    go_wp2_with fail
    refine (specResidOk_any _ B A n c l (Sg.sgR env) hB hl hn).mono ?_
    rintro e w1 ⟨rfl, hb1⟩
    rw [HO.out]
    have hl1 := hl.below (hb1.mono hB)
    have hE1 := hE.below (hb1.mono hB)
    have hm := envOk_mem HO2.out
    obtain rfl : n2 = 5 := by rw [← hE.1]; exact hm.1
    obtain ⟨b2, off2, rfl, hb2, hc2⟩ := hE1.2 (by omega)
    have HC2 := Lib.hid hc2
    clear hc2 hE hE1 hm hl
    generalize Sg.sgR env = sg at *
    go_wp2
    go_loop [6, 7] (fun v i => ∃ k : Nat, k ≤ n ∧ i = .int .i64 k ∧ v = .int .i64 (Nm.value env (l.take k))) (fun _ i => n - (intOf i).toNat)
    case atStart => exact ⟨0, Nat.zero_le _, rfl, rfl⟩
    case round =>
      obtain ⟨k, hk, rfl, rfl⟩ := hrel
      by_cases hlt : k < n
      · have HV := Lib.hid (Nm.value_take env l k (by rw [hl1.1]; exact hlt))
        have hat := (Nm.atOk_iff _).1 (HOK.out k (by rw [hl1.1]; exact hlt))
        have hv0 := Nm.value_ge env (l.take k)
        obtain ⟨b, off, rfl, hb, hc⟩ := hl1.2 (by omega)
        obtain ⟨e1, e2⟩ := hc k hlt
        generalize Nm.value env (l.take k) = v at HV hv0 ⊢
        generalize l.getD k (0, 0) = t at e1 e2 HV hat
        obtain ⟨p, x⟩ := t
        simp only at hat e1 e2
        obtain ⟨g1, g2, g3, g4⟩ := hat
        have HL := Lib.hid hl1
        have hki : (k : Int) < (n : Int) := by omega
        clear hc hl1
        by_cases ep : p = -1
        · subst ep
          have HV2 : Hid (Nm.value env (l.take (k + 1)) = max v x) := by show _ = _; rw [HV.out]; simp [Nm.val]
          go_wp2
          go_round
          case rel => exact ⟨k + 1, by omega, by go_num, by rw [HV2.out, max_if]⟩
          case measure => simp [intOf]; omega
        · have hp0 : 0 ≤ p := by omega
          obtain ⟨pn, rfl⟩ := Int.eq_ofNat_of_zero_le hp0
          have hy := env_at HO2.out pn
          have e3 := HC2.out pn (by omega)
          have HV2 : Hid (Nm.value env (l.take (k + 1)) = max v (x + env.getD pn 0)) := by show _ = _; rw [HV.out]; simp [Nm.val, ep]; omega
          generalize env.getD pn 0 = y at hy e3 HV2
          obtain ⟨y1, y2⟩ := hy
          have hpi : (pn : Int) < 5 := by omega
          clear ep
          go_wp2
          go_round
          case rel => exact ⟨k + 1, by omega, by go_num, by rw [HV2.out, max_if]⟩
          case measure => simp [intOf]; omega
      · have HG : Hid (Nm.value env (l.take k) = Nm.value env l) := by show _ = _; rw [List.take_of_length_le (by have := hl1.1; omega)]
        clear hl1
        go_wp2
        go_ret2
        exact ⟨by rw [revV, HF.out, HG.out]; rfl, hb1⟩
end Go.Proofs.Ytijiohdddfdjfaa
