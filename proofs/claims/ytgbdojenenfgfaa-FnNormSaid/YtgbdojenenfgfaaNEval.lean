/- NormEval of the program and of the reference model. -/
import Derived.Test.YtgbdojenenfgfaaNOk2
import Derived.Test.YtgbdojenenfgfaaNOk3
namespace Go.Proofs.Ytgbdojenenfgfaa
open Go.RowKit

/-- what NormEval answers -/
noncomputable def nevR (l : List (Int × Int)) (env : List Int) : Option Int := if Nm.normOk l = true ∧ envOk env = true then some (Nm.value env l) else none
theorem nevR_bd {l : List (Int × Int)} {env : List Int} (hl : Nm.AllOk l) (he : envOk env = true) : Nm.value env l ≤ 2000 := by
  refine Nm.value_le (by omega) fun a ha => ?_
  have h1 := hl.mem ha
  have h2 := envOk_mem he
  unfold Nm.val
  split
  · omega
  · rw [List.getD_eq_getElem?_getD]
    cases hg : env[a.1.toNat]? with
    | none => simp; omega
    | some y => have := h2.2 y (List.mem_of_getElem? hg); simp; omega

theorem max_if (v x : Int) : (if v < x then x else v) = max v x := by split <;> omega
theorem env_at {env : List Int} (he : envOk env = true) (k : Nat) : 0 ≤ env.getD k 0 ∧ env.getD k 0 ≤ 1000 := by
  rw [List.getD_eq_getElem?_getD]
  cases hg : env[k]? with
  | none => simp
  | some y => exact (envOk_mem he).2 y (List.mem_of_getElem? hg)

set_option maxRecDepth 100000 in
set_option maxHeartbeats 1600000 in
theorem greatestValue_any (w : World) (B : Nat) (A : Option Addr) (n c : Nat) (l : List (Int × Int)) (A2 : Option Addr) (n2 c2 : Nat) (env : List Int) (hB : B ≤ w.heap.size) (hl : TokR w B A n l) (hn : (n : Int) ≤ 140737488355328)
    (hE : IntR w B A2 n2 env) (hok : Nm.AllOk l) (he : envOk env = true) :
    Calls Try.prog 50 #[.slice A n c, .slice A2 n2 c2] w fun e w' => e = .returned (.int .i64 (Nm.value env l)) ∧ Below w.heap.size w w' := by
  have hm := envOk_mem he
  obtain rfl : n2 = 5 := by rw [← hE.1]; exact hm.1
  obtain ⟨b2, off2, rfl, hb2, hc2⟩ := hE.2 (by omega)
  have HC2 := Lib.hid hc2
  have HE := Lib.hid he
  have HOK := Lib.hid hok
  clear hc2 hE hm he hok
  go_enter Try.func50, Try.ntmps50
  go_wp2
  go_loopw [5, 10] (fun v i wr => ∃ k : Nat, k ≤ n ∧ i = .int .i64 k ∧ v = .int .i64 (Nm.value env (l.take k)) ∧ Below w.heap.size w wr) (fun _ i _ => n - (intOf i).toNat)
  case atStart => exact ⟨0, Nat.zero_le _, rfl, rfl, Below.refl _ _⟩
  case round =>
    obtain ⟨k, hk, rfl, rfl, hbel⟩ := hrel
    by_cases hlt : k < n
    · have HV := Lib.hid (Nm.value_take env l k (by rw [hl.1]; exact hlt))
      have hat := (Nm.atOk_iff _).1 (HOK.out k (by rw [hl.1]; exact hlt))
      have hv0 := Nm.value_ge env (l.take k)
      obtain ⟨b, off, rfl, hb, hc⟩ := hl.2 (by omega)
      obtain ⟨e1, e2⟩ := hc k hlt
      generalize Nm.value env (l.take k) = v at HV hv0 ⊢
      generalize l.getD k (0, 0) = t at e1 e2 HV hat
      obtain ⟨p, x⟩ := t
      simp only at hat
      obtain ⟨g1, g2, g3, g4⟩ := hat
      have k1 := (hbel.cell (p := ⟨b, off + k * 2, none⟩) (by show b < _; omega)).trans e1
      have k2 := (hbel.cell (p := ⟨b, off + k * 2 + 1, none⟩) (by show b < _; omega)).trans e2
      have HBA := Lib.hid (hbel.alloc hbel.size (.cells #[.int .i64 p, .int .i64 x] 32))
      have HL := Lib.hid hl
      clear e1 e2 hc hl
      by_cases ep : p = -1
      · subst ep
        have HV2 : Hid (Nm.value env (l.take (k + 1)) = max v x) := by show _ = _; rw [HV.out]; simp [Nm.val]
        go_wp2
        go_roundw
        case rel => exact ⟨k + 1, by omega, by go_num, by rw [HV2.out, max_if], HBA.out⟩
        case measure => simp [intOf]; omega
      · have dp : (p == -1) = false := by simpa using ep
        have hp0 : 0 ≤ p := by omega
        obtain ⟨pn, rfl⟩ := Int.eq_ofNat_of_zero_le hp0
        have hy := env_at HE.out pn
        have e3 := HC2.out pn (by omega)
        have HV2 : Hid (Nm.value env (l.take (k + 1)) = max v (env.getD pn 0 + x)) := by show _ = _; rw [HV.out]; simp [Nm.val, ep]
        generalize env.getD pn 0 = y at hy e3 HV2
        obtain ⟨y1, y2⟩ := hy
        have k3 : (wr.alloc (.cells #[.int .i64 (pn : Int), .int .i64 x] 32)).cell? ⟨b2, off2 + pn, none⟩ = some (.int .i64 y) := (HBA.out.cell (p := ⟨b2, off2 + pn, none⟩) (by show b2 < _; omega)).trans e3
        have hpi : (pn : Int) < 5 := by omega
        have hw1 : IntKind.i64.wrap (y + x) = y + x := by rw [IntKind.wrap_i64]; omega
        have HBD := Lib.hid HBA.out.drew
        clear e3 ep
        go_wp2_with fail
        refine region_tail 9 (by kernel_rfl) (by kernel_rfl) ?_
        simp only [List.take_succ_cons, List.take_zero, List.drop_succ_cons, List.drop_zero]
        repeat still_step
        refine wpStill_nil ?_
        go_wp2
        go_roundw
        case rel => exact ⟨k + 1, by omega, by go_num, by rw [HV2.out, max_if], HBD.out⟩
        case measure => simp [intOf]; omega
    · have HF : Hid (Nm.value env (l.take k) = Nm.value env l) := by show _ = _; rw [List.take_of_length_le (by have := hl.1; omega)]
      clear hl
      go_wp2
      go_ret
      exact ⟨ret_int HF.out, hbel⟩

/-- what NormEval gives back -/
noncomputable def nevV (l : List (Int × Int)) (env : List Int) : Value := .tuple #[.int .i64 ((nevR l env).getD 0), .bool (nevR l env).isSome]
theorem nevR_no {l : List (Int × Int)} {env : List Int} (h : ¬ (Nm.normOk l = true ∧ envOk env = true)) : nevR l env = none := if_neg h
theorem nevR_yes {l : List (Int × Int)} {env : List Int} (h : Nm.normOk l = true ∧ envOk env = true) : nevR l env = some (Nm.value env l) := if_pos h

set_option maxHeartbeats 800000 in
theorem implNormEval_any (w : World) (B : Nat) (A : Option Addr) (n c : Nat) (l : List (Int × Int)) (A2 : Option Addr) (n2 c2 : Nat) (env : List Int) (hB : B ≤ w.heap.size) (hl : TokR w B A n l) (hn : (n : Int) ≤ 140737488355328) (hc : n ≤ c)
    (hE : IntR w B A2 n2 env) (hn2 : (n2 : Int) ≤ 140737488355328) :
    Calls Try.prog 17 #[.slice A n c, .slice A2 n2 c2] w fun e w' => e = .returned (nevV l env) ∧ Below w.heap.size w w' := by
  cases h1 : Nm.normOk l with
  | false =>
    have HF : Hid (nevR l env = none) := nevR_no (fun h => by rw [h1] at h; cases h.1)
    have HO := Lib.hid h1
    clear h1
    go_enter Try.func17, Try.ntmps17
    go_wp2_with fail
    refine (implNormOk_any w B A n c l hB hl hn hc).mono ?_
    rintro e w1 ⟨rfl, hb1⟩
    rw [HO.out]
    go_wp2
    go_ret2
    exact ⟨by rw [nevV, HF.out]; rfl, hb1⟩
  | true =>
    have HO := Lib.hid h1
    have HOK := Lib.hid ((Nm.normOk_iff l).1 h1).2.1
    clear h1
    cases h2 : envOk env with
    | false =>
      have HF : Hid (nevR l env = none) := nevR_no (fun h => by rw [h2] at h; cases h.2)
      have HO2 := Lib.hid h2
      clear h2
      go_enter Try.func17, Try.ntmps17
      go_wp2_with fail
      refine (implNormOk_any w B A n c l hB hl hn hc).mono ?_
      rintro e w1 ⟨rfl, hb1⟩
      rw [HO.out]
      go_wp2_with fail
      refine (envOk_any w1 B A2 n2 c2 env (hE.below (hb1.mono hB)) hn2).mono ?_
      rintro e w2 ⟨rfl, rfl⟩
      rw [HO2.out]
      go_wp2
      go_ret2
      exact ⟨by rw [nevV, HF.out]; rfl, hb1⟩
    | true =>
      have HF : Hid (nevR l env = some (Nm.value env l)) := nevR_yes ⟨HO.out, h2⟩
      have HO2 := Lib.hid h2
      clear h2
      go_enter Try.func17, Try.ntmps17
      go_wp2_with fail
      refine (implNormOk_any w B A n c l hB hl hn hc).mono ?_
      rintro e w1 ⟨rfl, hb1⟩
      rw [HO.out]
      go_wp2_with fail
      refine (envOk_any w1 B A2 n2 c2 env (hE.below (hb1.mono hB)) hn2).mono ?_
      rintro e w2 ⟨rfl, rfl⟩
      rw [HO2.out]
      go_wp2_with fail
      refine (greatestValue_any w1 B A n c l A2 n2 c2 env (Nat.le_trans hB hb1.size) (hl.below (hb1.mono hB)) hn (hE.below (hb1.mono hB)) HOK.out HO2.out).mono ?_
      rintro e w3 ⟨rfl, hb3⟩
      have HB := Lib.hid (hb1.trans (hb3.mono hb1.size))
      clear hb1 hb3
      go_wp2
      go_ret2
      exact ⟨by rw [nevV, HF.out]; rfl, HB.out⟩

set_option maxRecDepth 100000 in
set_option maxHeartbeats 1600000 in
theorem specNormEval_any (w : World) (B : Nat) (A : Option Addr) (n c : Nat) (l : List (Int × Int)) (A2 : Option Addr) (n2 c2 : Nat) (env : List Int) (hB : B ≤ w.heap.size) (hl : TokR w B A n l) (hn : (n : Int) ≤ 140737488355328)
    (hE : IntR w B A2 n2 env) (hn2 : (n2 : Int) ≤ 140737488355328) :
    Calls Try.prog 34 #[.slice A n c, .slice A2 n2 c2] w fun e w' => e = .returned (nevV l env) ∧ Below w.heap.size w w' := by
  cases h1 : Nm.normOk l with
  | false =>
    have HF : Hid (nevR l env = none) := nevR_no (fun h => by rw [h1] at h; cases h.1)
    have HO := Lib.hid h1
    clear h1
    go_enter Try.func34, Try.ntmps34
    go_wp2_with fail
    refine (specNormOk_any w B A n c l hB hl hn).mono ?_
    rintro e w1 ⟨rfl, hb1⟩
    rw [HO.out]
    go_wp2
    go_ret2
    exact ⟨by rw [nevV, HF.out]; rfl, hb1⟩
  | true =>
    have HO := Lib.hid h1
    have HOK := Lib.hid ((Nm.normOk_iff l).1 h1).2.1
    clear h1
    cases h2 : envOk env with
    | false =>
      have HF : Hid (nevR l env = none) := nevR_no (fun h => by rw [h2] at h; cases h.2)
      have HO2 := Lib.hid h2
      clear h2
      go_enter Try.func34, Try.ntmps34
      go_wp2_with fail
      refine (specNormOk_any w B A n c l hB hl hn).mono ?_
      rintro e w1 ⟨rfl, hb1⟩
      rw [HO.out]
      go_wp2_with fail
      refine (specEnv_any w1 B A2 n2 c2 env (hE.below (hb1.mono hB)) hn2).mono ?_
      rintro e w2 ⟨rfl, rfl⟩
      rw [HO2.out]
      go_wp2
      go_ret2
      exact ⟨by rw [nevV, HF.out]; rfl, hb1⟩
    | true =>
      have HF : Hid (nevR l env = some (Nm.value env l)) := nevR_yes ⟨HO.out, h2⟩
      have HO2 := Lib.hid h2
      clear h2
      go_enter Try.func34, Try.ntmps34
      go_wp2_with fail
      refine (specNormOk_any w B A n c l hB hl hn).mono ?_
      rintro e w1 ⟨rfl, hb1⟩
      rw [HO.out]
      go_wp2_with fail
      refine (specEnv_any w1 B A2 n2 c2 env (hE.below (hb1.mono hB)) hn2).mono ?_
      rintro e w2 ⟨rfl, rfl⟩
      rw [HO2.out]
      have hl1 := hl.below (hb1.mono hB)
      have hE1 := hE.below (hb1.mono hB)
      have hm := envOk_mem HO2.out
      obtain rfl : n2 = 5 := by rw [← hE.1]; exact hm.1
      obtain ⟨b2, off2, rfl, hb2, hc2⟩ := hE1.2 (by omega)
      have HC2 := Lib.hid hc2
      clear hc2 hE hE1 hm hl
      go_wp2
      go_loop [6, 7] (fun v i => ∃ k : Nat, k ≤ n ∧ i = .int .i64 k ∧ v = .int .i64 (Nm.value env (l.take k))) (fun _ i => n - (intOf i).toNat)
      case atStart => exact ⟨0, Nat.zero_le _, rfl, rfl⟩
      case round =>
        obtain ⟨k, hk, rfl, rfl⟩ := hrel
        by_cases hlt : k < n
        · have HV := Lib.hid (Nm.value_take env l k (by rw [hl1.1]; exact hlt))
          have hat := (Nm.atOk_iff _).1 (HOK.out k (by rw [hl1.1]; exact hlt))
          have hv0 := Nm.value_ge env (l.take k)
          obtain ⟨b, off, rfl, hb, hc⟩ := hl1.2 (by omega)
          obtain ⟨e1, e2⟩ := hc k hlt
          generalize Nm.value env (l.take k) = v at HV hv0 ⊢
          generalize l.getD k (0, 0) = t at e1 e2 HV hat
          obtain ⟨p, x⟩ := t
          simp only at hat e1 e2
          obtain ⟨g1, g2, g3, g4⟩ := hat
          have HL := Lib.hid hl1
          have hki : (k : Int) < (n : Int) := by omega
          clear hc hl1
          by_cases ep : p = -1
          · subst ep
            have HV2 : Hid (Nm.value env (l.take (k + 1)) = max v x) := by show _ = _; rw [HV.out]; simp [Nm.val]
            go_wp2
            go_round
            case rel => exact ⟨k + 1, by omega, by go_num, by rw [HV2.out, max_if]⟩
            case measure => simp [intOf]; omega
          · have hp0 : 0 ≤ p := by omega
            obtain ⟨pn, rfl⟩ := Int.eq_ofNat_of_zero_le hp0
            have hy := env_at HO2.out pn
            have e3 := HC2.out pn (by omega)
            have HV2 : Hid (Nm.value env (l.take (k + 1)) = max v (x + env.getD pn 0)) := by show _ = _; rw [HV.out]; simp [Nm.val, ep]; omega
            generalize env.getD pn 0 = y at hy e3 HV2
            obtain ⟨y1, y2⟩ := hy
            have hpi : (pn : Int) < 5 := by omega
            clear ep
            go_wp2
            go_round
            case rel => exact ⟨k + 1, by omega, by go_num, by rw [HV2.out, max_if]⟩
            case measure => simp [intOf]; omega
        · have HG : Hid (Nm.value env (l.take k) = Nm.value env l) := by show _ = _; rw [List.take_of_length_le (by have := hl1.1; omega)]
          clear hl1
          rw [HG.out]
          go_wp2
          go_ret2
          exact ⟨by rw [nevV, HF.out]; rfl, hb1⟩
end Go.Proofs.Ytgbdojenenfgfaa
