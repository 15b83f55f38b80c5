/- The law FnSigns: the walk. -/
import Derived.Test.YtmmhcpigcdlnmaaDrawC
import Derived.Test.YtmmhcpigcdlnmaaCsSign
import Derived.Test.YtmmhcpigcdlnmaaSigns2
import Derived.Test.YtmmhcpigcdlnmaaHold2
import Derived.Test.YtmmhcpigcdlnmaaNUp

namespace Go.Proofs.Ytmmhcpigcdlnmaa
open Go.RowKit
open Cs (Cn Tb)

theorem sigA_any {A : Option Addr} {co : Nat} {w : World} {base k : Nat} {l : List Int} (h : OwnI w base A k co l) (hk : 0 < k) : ∃ g, A = some ⟨g, 0, none⟩ ∧ g < w.heap.size := by
  rcases h.2 with ⟨h0, hn⟩ | ⟨g, cap, cur, hv, _⟩
  · injection h0 with e1 e2 e3; omega
  · injection hv with e1 e2 e3; exact ⟨g, e1, (h.lt g (by rw [e1]; rfl)).2⟩

set_option maxRecDepth 100000 in
set_option maxHeartbeats 16000000 in
theorem fnSigns_any (w : World) (B : Nat) (A : Option Addr) (n c : Nat) (hB : B ≤ w.heap.size) (hb : BytR w B A n) :
    Calls Try.prog 6 #[.slice A n c] w fun e w' => e = .returned (.bool true) ∧ Below w.heap.size w w' := by
  by_cases hbig : 1048576 < (n : Int)
  · go_enter Try.func6, Try.ntmps6
    go_wp2_with fail
    refine (big_any w A n c).mono ?_
    rintro e w' ⟨rfl, rfl⟩
    rw [decide_eq_true (by omega)]
    go_wp2
    go_ret
    exact ⟨rfl, Below.refl _ _⟩
  · have hn : n ≤ 1048576 := by omega
    go_enter Try.func6, Try.ntmps6
    go_wp2_with fail
    refine (big_any w A n c).mono ?_
    rintro e w' ⟨rfl, rfl⟩
    rw [decide_eq_false (by omega)]
    go_wp2_with fail
    refine (drawSigns_any w B A n c hB hb hn).mono ?_
    rintro e w1 ⟨⟨g, cap, m, l, rfl, hm, ho1⟩, hb1⟩
    have HB1 := Lib.hid hb1
    have HO1 := Lib.hid ho1
    have hs1 := hb1.size
    clear ho1 hb1
    go_wp2_with fail
    refine (implConsSigns_any w1 w1.heap.size g 0 m cap l (Nat.le_refl _) (OwnC.reads HO1.out) (by omega)).mono ?_
    rintro e w2 ⟨Ao, co, rfl, hso, hb2⟩
    have HB2 := Lib.hid (HB1.out.trans (hb2.mono hs1))
    have HO2 := Lib.hid (own_below' HO1.out hb2)
    have HS2 := Lib.hid (own_base hso hs1)
    have hs2 := HB2.out.size
    have hsl := signsR_len l
    obtain ⟨N, hN⟩ : ∃ N, (signsR l).length = N := ⟨_, rfl⟩
    have HN := Lib.hid hN
    rw [hN] at HS2 hsl ⊢
    clear hb2 HO1 HB1 hso hN
    go_wp2_with fail
    refine (specConsSigns_any w2 w2.heap.size g 0 m cap l (Nat.le_refl _) (OwnC.reads HO2.out) (by omega)).mono ?_
    rintro e w3 ⟨A3, co3, rfl, hso, hb3⟩
    rw [HN.out] at hso ⊢
    have HB3 := Lib.hid (HB2.out.trans (hb3.mono hs2))
    have HO3 := Lib.hid (own_below' HO2.out hb3)
    have HS3 := Lib.hid (own_below' HS2.out hb3)
    have hs3 := HB3.out.size
    go_wp2_with fail
    refine (same_any w3 w3.heap.size Ao A3 N N co co3 (signsR l) (signsR l) (Nat.le_refl _) (OwnI.reads HS3.out) (OwnI.reads hso) (by omega) (by omega)).mono ?_
    rintro e w4 ⟨rfl, hb4⟩
    rw [decide_eq_true rfl]
    have HB4 := Lib.hid (HB3.out.trans (hb4.mono hs3))
    have HO4 := Lib.hid (own_below' HO3.out hb4)
    have HS4 := Lib.hid (own_below' HS3.out hb4)
    have hs4 := HB4.out.size
    clear hb3 hb4 hso HB2 HO2 HS2 HB3 HO3 HS3
    go_wp2_with fail
    refine (specConsOk_any w4 w4.heap.size (some ⟨g, 0, none⟩) m cap l (Nat.le_refl _) (OwnC.reads HO4.out) (by omega)).mono ?_
    rintro e w5 ⟨rfl, hb5⟩
    have HB5 := Lib.hid (HB4.out.trans (hb5.mono hs4))
    have HO5 := Lib.hid (own_below' HO4.out hb5)
    have HS5 := Lib.hid (own_below' HS4.out hb5)
    have hs5 := HB5.out.size
    clear hb5 HB4 HO4 HS4
    cases hok : consOkR l with
    | false =>
      clear hok
      go_wp2_with fail
      refine (specConsSigns_any w5 w5.heap.size g 0 m cap l (Nat.le_refl _) (OwnC.reads HO5.out) (by omega)).mono ?_
      rintro e w6 ⟨A6, co6, rfl, hso, hb6⟩
      rw [HN.out] at hso ⊢
      have HB6 := Lib.hid (HB5.out.trans (hb6.mono hs5))
      have HS6 := Lib.hid (own_below' HS5.out hb6)
      have hs6 := HB6.out.size
      go_wp2_with fail
      refine (same_any w6 w6.heap.size Ao A6 N N co co6 (signsR l) (signsR l) (Nat.le_refl _) (OwnI.reads HS6.out) (OwnI.reads hso) (by omega) (by omega)).mono ?_
      rintro e w7 ⟨rfl, hb7⟩
      rw [decide_eq_true rfl]
      have HB7 := Lib.hid (HB6.out.trans (hb7.mono hs6))
      clear hso hb6 hb7
      go_wp2
      go_ret
      exact ⟨rfl, HB7.out⟩
    | true =>
      have HK := Lib.hid hok
      clear hok
      go_wp2_with fail
      refine (envs_any w5 B A n c 3 2 (Nat.le_trans hB HB5.out.size) (hb.below (HB5.out.mono hB)) hn (by omega) (by omega)).mono ?_
      rintro e w6 ⟨ge, ce, env, rfl, he5, heb, hoe, hb6⟩
      have HB6 := Lib.hid (HB5.out.trans (hb6.mono hs5))
      have HO6 := Lib.hid (own_below' HO5.out hb6)
      have HS6 := Lib.hid (own_below' HS5.out hb6)
      have HE6 := Lib.hid (own_base (base' := w.heap.size) hoe hs5)
      have hs6 := HB6.out.size
      clear hb6 hoe HB5 HO5 HS5
      have hb := Lib.hid hb
      go_wp2
      go_loopw [6, 7] (fun v i wr => ∃ k : Nat, k ≤ N ∧ i = .int .i64 k ∧ v = .bool (hereB (signsR l) (Sg.sgR env) k) ∧ Hid (Below w.heap.size w wr) ∧ Hid (OwnC wr w.heap.size (some ⟨g, 0, none⟩) m cap l) ∧ Hid (OwnI wr w.heap.size Ao N co (signsR l)) ∧ Hid (OwnI wr w.heap.size (some ⟨ge, 0, none⟩) 5 ce env)) (fun _ i _ => N - (intOf i).toNat)
      case atStart => exact ⟨0, by omega, rfl, by rw [hereB_zero], HB6.out, HO6.out, HS6.out, HE6.out⟩
      case round =>
        clear HB6 HO6 HS6 HE6
        obtain ⟨k, hk, rfl, rfl, HB6, HO6, HS6, HE6⟩ := hrel
        have hsr := HB6.out.size
        by_cases hlt : k < N
        · have hki : (k : Int) < (N : Int) := by omega
          obtain ⟨S, hS, hget, hflat⟩ := signs_get HK.out (k := k) (by rw [HN.out]; exact hlt)
          obtain ⟨gs, rfl, hgs⟩ := sigA_any HS6.out (by omega)
          have hcell : wr.cell? ⟨gs, k, none⟩ = some (.int .i64 (S : Int)) := by
            have hr := OwnI.reads HS6.out
            obtain ⟨b, off, e, _, hc⟩ := hr.2 (by omega)
            injection e with e
            injection e with e1 e2
            subst e1; subst e2
            have := hc k hlt
            rw [Nat.zero_add, hget] at this
            exact this
          have HL := Lib.hid (least_sign hS HK.out hflat)
          have HSO : Hid (signO l (S : Int) = some (Cs.leastEnv (Un.sgL l (S : Int)))) := signO_yes ((sgnB_ok HK.out (by simp [Sg.isSign]; omega)).trans hflat)
          have HNX : Hid (hereB (signsR l) (Sg.sgR env) (k + 1) = (hereB (signsR l) (Sg.sgR env) k || ((S : Int) == Sg.sgR env))) := by show _ = _; rw [hereB_succ (by rw [HN.out]; exact hlt), hget]
          clear hflat hget
          go_wp2_with fail
          refine (implSignEnv_any wr wr.heap.size g 0 m cap l (S : Int) (Nat.le_refl _) (OwnC.reads HO6.out) (by omega)).mono ?_
          rintro e w7 ⟨A7, c7, rfl, ho7, hb7⟩
          rw [HSO.out] at ho7 ⊢
          simp only [Option.getD_some, Option.isSome_some] at ho7 ⊢
          rw [Cs.leastEnv_len] at ho7 ⊢
          have HB7 := Lib.hid (HB6.out.trans (hb7.mono hsr))
          have HO7 := Lib.hid (own_below' HO6.out hb7)
          have HS7 := Lib.hid (own_below' HS6.out hb7)
          have HE7 := Lib.hid (own_below' HE6.out hb7)
          have HX7 := Lib.hid (OwnI.reads ho7)
          have hs7 := HB7.out.size
          have hgs7 : gs < w7.heap.size := by have := hb7.size; omega
          have hcell7 := (hb7.cell (p := ⟨gs, k, none⟩) hgs).trans hcell
          clear hb7 ho7 HB6 HO6 HS6 HE6 hcell
          have HSG : Hid (∀ d : Later w7, Calls Try.prog 34 #[.slice A7 5 c7] d.out fun e w'' => e = .returned (.int .i64 (S : Int)) ∧ ∃ d' : Later w7, w'' = d'.out) := fun d => calls_later (by
            have h := implSignOf_bel d.out w7.heap.size A7 5 c7 _ (HX7.out.below d.bel) (by omega)
            rw [HL.out.1] at h
            exact h)
          have HHD : Hid (∀ d : Later w7, Calls Try.prog 19 #[.slice (some ⟨g, 0, none⟩) m cap, .slice A7 5 c7] d.out fun e w'' => e = .returned (.bool true) ∧ ∃ d' : Later w7, w'' = d'.out) := fun d => calls_later (by
            have h := implConsHold_any d.out w7.heap.size (some ⟨g, 0, none⟩) m cap l A7 5 c7 _ d.bel.size ((OwnC.reads HO7.out).below d.bel) (by omega) (HX7.out.below d.bel) (by omega)
            rw [HL.out.2] at h
            exact h)
          have kc : ∀ d : Later w7, d.out.cell? ⟨gs, k, none⟩ = some (.int .i64 (S : Int)) := fun d => d.cell hgs7 hcell7
          clear hcell7
          have hSS : ((S : Int) != (S : Int)) = false := by simp
          go_wp2_with fail
          refine region_later (by kernel_rfl) (by kernel_rfl) ?_
          repeat (go_big_quiet_step (first | exact HSG.out _ | exact HHD.out _))
          refine wpQuiet_nil ?_
          intro w8 hb8
          have HB8 := Lib.hid (HB7.out.trans (hb8.mono hs7))
          have HO8 := Lib.hid (own_below' HO7.out hb8)
          have HS8 := Lib.hid (own_below' HS7.out hb8)
          have HE8 := Lib.hid (own_below' HE7.out hb8)
          have hs8 := HB8.out.size
          have hgs8 : gs < w8.heap.size := by have := hb8.size; omega
          have hcell8 := (hb8.cell (p := ⟨gs, k, none⟩) hgs7).trans (kc ⟨w7, Below.refl _ _⟩)
          have kc8 : ∀ d : Later w8, d.out.cell? ⟨gs, k, none⟩ = some (.int .i64 (S : Int)) := fun d => d.cell hgs8 hcell8
          clear hb8 HB7 HO7 HS7 HE7 HX7 HSG HHD kc hcell8 hSS
          have HSE : Hid (∀ d : Later w8, Calls Try.prog 34 #[.slice (some ⟨ge, 0, none⟩) 5 ce] d.out fun e w'' => e = .returned (.int .i64 (Sg.sgR env)) ∧ ∃ d' : Later w8, w'' = d'.out) := fun d => calls_later (implSignOf_bel d.out w8.heap.size (some ⟨ge, 0, none⟩) 5 ce env ((OwnI.reads HE8.out).below d.bel) (by omega))
          cases hH : hereB (signsR l) (Sg.sgR env) k with
          | true =>
            rw [hH, Bool.true_or] at HNX
            go_wp2_with fail
            refine region_later (by kernel_rfl) (by kernel_rfl) ?_
            repeat (go_big_quiet_step (exact HSE.out _))
            refine wpQuiet_nil ?_
            intro w9 hb9
            have HB9 := Lib.hid (HB8.out.trans (hb9.mono hs8))
            have HO9 := Lib.hid (own_below' HO8.out hb9)
            have HS9 := Lib.hid (own_below' HS8.out hb9)
            have HE9 := Lib.hid (own_below' HE8.out hb9)
            clear hb9 HB8 HO8 HS8 HE8 kc8 hH
            go_wp2
            go_roundw
            case rel => exact ⟨k + 1, by omega, by go_num, by rw [HNX.out], HB9.out, HO9.out, HS9.out, HE9.out⟩
            case measure => simp [intOf]; omega
          | false =>
            rw [hH, Bool.false_or] at HNX
            go_wp2_with fail
            refine region_later (by kernel_rfl) (by kernel_rfl) ?_
            repeat (go_big_quiet_step (exact HSE.out _))
            refine wpQuiet_nil ?_
            intro w9 hb9
            have HB9 := Lib.hid (HB8.out.trans (hb9.mono hs8))
            have HO9 := Lib.hid (own_below' HO8.out hb9)
            have HS9 := Lib.hid (own_below' HS8.out hb9)
            have HE9 := Lib.hid (own_below' HE8.out hb9)
            clear hb9 HB8 HO8 HS8 HE8 kc8 hH
            go_wp2
            go_roundw
            case rel => exact ⟨k + 1, by omega, by go_num, by rw [HNX.out], HB9.out, HO9.out, HS9.out, HE9.out⟩
            case measure => simp [intOf]; omega
        · have hki : ¬ (k : Int) < (N : Int) := by omega
          have HKN : Hid (k = N) := by show k = N; omega
          have HSAT : Hid (decide ((0 : Int) < (N : Int)) = satR l) := by
            show _ = _
            rw [← signs_sat HK.out, HN.out]
            exact decide_eq_decide.2 (by omega)
          cases hH : hereB (signsR l) (Sg.sgR env) k with
          | true =>
            clear hH
            go_wp2_with fail
            refine (implConsSat_any wr wr.heap.size (some ⟨g, 0, none⟩) m cap l (Nat.le_refl _) (OwnC.reads HO6.out) (by omega)).mono ?_
            rintro e w7 ⟨rfl, hb7⟩
            have HB7 := Lib.hid (HB6.out.trans (hb7.mono hsr))
            rw [← HSAT.out]
            have hee : (decide ((0 : Int) < (N : Int)) == decide ((0 : Int) < (N : Int))) = true := by simp
            clear hb7
            go_wp2
            go_ret
            exact ⟨rfl, HB7.out⟩
          | false =>
            have HF : Hid (consHoldR l env = false) := by
              show _ = _
              cases hh : consHoldR l env with
              | false => rfl
              | true =>
                have := hereB_all (hold_mem hh)
                rw [HN.out, ← HKN.out, hH] at this
                cases this
            clear hH
            go_wp2_with fail
            refine (implConsHold_any wr wr.heap.size (some ⟨g, 0, none⟩) m cap l (some ⟨ge, 0, none⟩) 5 ce env (Nat.le_refl _) (OwnC.reads HO6.out) (by omega) (OwnI.reads HE6.out) (by omega)).mono ?_
            rintro e w7 ⟨rfl, hb7⟩
            rw [HF.out]
            have HB7 := Lib.hid (HB6.out.trans (hb7.mono hsr))
            have HO7 := Lib.hid (own_below' HO6.out hb7)
            have hs7 := HB7.out.size
            clear hb7
            go_wp2_with fail
            refine (implConsSat_any w7 w7.heap.size (some ⟨g, 0, none⟩) m cap l (Nat.le_refl _) (OwnC.reads HO7.out) (by omega)).mono ?_
            rintro e w8 ⟨rfl, hb8⟩
            have HB8 := Lib.hid (HB7.out.trans (hb8.mono hs7))
            rw [← HSAT.out]
            have hee : (decide ((0 : Int) < (N : Int)) == decide ((0 : Int) < (N : Int))) = true := by simp
            clear hb8
            go_wp2
            go_ret
            exact ⟨rfl, HB8.out⟩
end Go.Proofs.Ytmmhcpigcdlnmaa
