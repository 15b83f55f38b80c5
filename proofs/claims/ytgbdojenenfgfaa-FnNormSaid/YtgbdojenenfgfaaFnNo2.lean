/- The law FnNorm: the walk, given the draw of its list. -/
import Derived.Test.YtgbdojenenfgfaaFnNo
namespace Go.Proofs.Ytgbdojenenfgfaa
open Go.RowKit

theorem normOf_some {l m : List (Int × Int)} (h : Nm.normOf l = some m) : 1 ≤ l.length ∧ l.length ≤ 100 ∧ Nm.AllOk l ∧ m = Nm.norm l := by
  by_cases hc : 1 ≤ l.length ∧ l.length ≤ 100 ∧ Nm.AllOk l
  · rw [normOf_yes hc] at h
    injection h with h
    exact ⟨hc.1, hc.2.1, hc.2.2, h.symm⟩
  · rw [normOf_no hc] at h
    cases h

set_option maxRecDepth 100000 in
set_option maxHeartbeats 6400000 in
theorem fnNorm_of (hdraw : DrawsList) (w : World) (B : Nat) (A : Option Addr) (n c : Nat) (hB : B ≤ w.heap.size) (hb : BytR w B A n) (hnc : n ≤ c) :
    Calls Try.prog 3 #[.slice A n c] w fun e w' => e = .returned (.bool true) ∧ Below w.heap.size w w' := by
  have HD := Lib.hid hdraw
  clear hdraw
  by_cases hbig : 1048576 < (n : Int)
  · go_enter Try.func3, Try.ntmps3
    go_wp2_with fail
    refine (big_any w A n c).mono ?_
    rintro e w' ⟨rfl, rfl⟩
    rw [decide_eq_true (by omega)]
    go_wp2
    go_ret
    exact ⟨rfl, Below.refl _ _⟩
  · have hn : n ≤ 1048576 := by omega
    go_enter Try.func3, Try.ntmps3
    go_wp2_with fail
    refine (big_any w A n c).mono ?_
    rintro e w' ⟨rfl, rfl⟩
    rw [decide_eq_false (by omega)]
    go_wp2_with fail
    refine (HD.out w B A n c hB hb hn).mono ?_
    rintro e w1 ⟨g1, c1, l1, rfl, l17, ol1, hB1⟩
    have s1 := hB1.size
    have hul := Nm.normOf_len l1
    obtain ⟨L, hL⟩ : ∃ L, l1.length = L := ⟨_, rfl⟩
    rw [hL] at l17 ol1 ⊢
    go_wp2_with fail
    refine (specNormOf_any w1 w1.heap.size _ L c1 l1 (Nat.le_refl _) (OwnA.reads ol1) (by omega)).mono ?_
    rintro e w2 ⟨Aw, cw, rfl, ow2, hb2⟩
    have hB2 := hB1.trans (hb2.mono s1)
    have s2 := hB2.size
    have ol2 := own_below' ol1 hb2
    clear ol1 hb2
    go_wp2_with fail
    refine (implNormOf_any w2 w2.heap.size _ L c1 l1 (Nat.le_refl _) (OwnA.reads ol2) (by omega)).mono ?_
    rintro e w3 ⟨An, cn, rfl, on3, hb3⟩
    have hB3 := hB2.trans (hb3.mono s2)
    have s3 := hB3.size
    have ol3 := own_below' ol2 hb3
    have ow3 := own_below' ow2 hb3
    have hcn := own_capA on3
    clear ol2 ow2 hb3
    cases hR : Nm.normOf l1 with
    | none =>
      rw [hR] at on3 ow3
      simp only [Option.getD_none, Option.isSome_none, List.length_nil] at on3 ow3 ⊢
      clear hR
      go_wp2_with fail
      refine (sameAtoms_any w3 w3.heap.size An Aw 0 0 cn cw [] [] (Nat.le_refl _) (OwnA.reads on3) (OwnA.reads ow3) (by omega) (by omega)).mono ?_
      rintro e w4 ⟨rfl, hb4⟩
      rw [decide_eq_true rfl]
      have hB4 := hB3.trans (hb4.mono s3)
      have s4 := hB4.size
      have on4 := own_below' on3 hb4
      have ow4 := own_below' ow3 hb4
      clear on3 ow3 hb4
      go_wp2_with fail
      refine (sameAtoms_any w4 w4.heap.size An Aw 0 0 cn cw [] [] (Nat.le_refl _) (OwnA.reads on4) (OwnA.reads ow4) (by omega) (by omega)).mono ?_
      rintro e w5 ⟨rfl, hb5⟩
      rw [decide_eq_true rfl]
      have HBZ := Lib.hid (hB4.trans (hb5.mono s4))
      clear hb5
      go_wp2
      go_ret
      exact ⟨rfl, HBZ.out⟩
    | some u =>
      obtain ⟨hl1', hl100, hao, hue⟩ := normOf_some hR
      rw [hR] at on3 ow3 hul hcn
      simp only [Option.getD_some, Option.isSome_some] at on3 ow3 hul hcn ⊢
      have hne : l1 ≠ [] := by intro e; rw [e] at hl1'; simp at hl1'
      have huk : Nm.Ok u := by rw [hue]; exact Nm.norm_ok hne hao
      have HUO := Lib.hid ((Nm.normOk_iff u).2 huk)
      have HNN : Hid (Nm.normOf u = some u) := by show _ = _; rw [normOf_yes ⟨huk.1, by have := huk.len; omega, huk.2.1⟩, Nm.norm_self huk]
      have HOK := Lib.hid hao
      obtain ⟨U, hU⟩ : ∃ U, u.length = U := ⟨_, rfl⟩
      have HUL := Lib.hid hU
      rw [hU] at on3 ow3 hul hcn ⊢
      go_wp2_with fail
      refine (sameAtoms_any w3 w3.heap.size An Aw U U cn cw u u (Nat.le_refl _) (OwnA.reads on3) (OwnA.reads ow3) (by omega) (by omega)).mono ?_
      rintro e w4 ⟨rfl, hb4⟩
      rw [decide_eq_true rfl]
      have hB4 := hB3.trans (hb4.mono s3)
      have s4 := hB4.size
      have ol4 := own_below' ol3 hb4
      have on4 := own_below' on3 hb4
      clear ol3 on3 hb4
      clear ow3
      go_wp2_with fail
      refine (envs_any w4 B A n c 3 5 (Nat.le_trans hB s4) (hb.below (hB4.mono hB)) hn (by omega) (by omega)).mono ?_
      rintro e w5 ⟨ge, capE, env, rfl, he5, heb, oe5, hb5⟩
      have HEV := Lib.hid (envN5 he5 heb)
      have HHB := Lib.hid hb
      have HVU : Hid (Nm.value env u = Nm.value env l1) := by show _ = _; rw [hue]; exact Nm.value_norm (fun x hx => (heb x hx).1) hao
      clear heb he5 hR hue hne hao huk hU hL
      have hB5 := hB4.trans (hb5.mono s4)
      have s5 := hB5.size
      have ol5 := own_below' ol4 hb5
      have on5 := own_below' on4 hb5
      clear ol4 on4 hb5
      have hl5 := OwnA.reads ol5
      have hE5 := OwnI.reads oe5
      obtain ⟨b2, off2, hbe, hb2, hc2⟩ := hE5.2 (by omega)
      injection hbe with hbe
      injection hbe with hbe1 hbe2
      subst hbe1; subst hbe2
      have HC2 := Lib.hid hc2
      clear hc2 hE5 hb2
      go_wp2
      go_loop [9, 10] (fun v i => ∃ k : Nat, k ≤ L ∧ i = .int .i64 k ∧ v = .int .i64 (Nm.value env (l1.take k))) (fun _ i => L - (intOf i).toNat)
      case atStart => exact ⟨0, Nat.zero_le _, rfl, rfl⟩
      case round =>
        obtain ⟨k, hk, rfl, rfl⟩ := hrel
        by_cases hlt : k < L
        · have HV := Lib.hid (Nm.value_take env l1 k (by rw [hl5.1]; exact hlt))
          have hat := (Nm.atOk_iff _).1 (HOK.out k (by rw [hl5.1]; exact hlt))
          have hv0 := Nm.value_ge env (l1.take k)
          obtain ⟨b, off, hbo, hb, hc⟩ := hl5.2 (by omega)
          injection hbo with hbo
          injection hbo with hbo1 hbo2
          subst hbo1; subst hbo2
          obtain ⟨e1, e2⟩ := hc k hlt
          rw [Nat.zero_add] at e1 e2
          generalize Nm.value env (l1.take k) = v at HV hv0 ⊢
          generalize l1.getD k (0, 0) = t at e1 e2 HV hat
          obtain ⟨p, x⟩ := t
          simp only at hat e1 e2
          obtain ⟨g1', g2', g3', g4'⟩ := hat
          have HL5 := Lib.hid hl5
          have hki : (k : Int) < (L : Int) := by omega
          clear hc hl5
          by_cases ep : p = -1
          · subst ep
            have HV2 : Hid (Nm.value env (l1.take (k + 1)) = max v x) := by show _ = _; rw [HV.out]; simp [Nm.val]
            by_cases hvx : v < x
            · go_wp2
              go_round
              case rel => exact ⟨k + 1, by omega, by go_num, by rw [HV2.out, show max v x = x by omega]⟩
              case measure => simp [intOf]; omega
            · go_wp2
              go_round
              case rel => exact ⟨k + 1, by omega, by go_num, by rw [HV2.out, show max v x = v by omega]⟩
              case measure => simp [intOf]; omega
          · have hp0 : 0 ≤ p := by omega
            obtain ⟨pn, rfl⟩ := Int.eq_ofNat_of_zero_le hp0
            have hy := env_at HEV.out pn
            have e3 := HC2.out pn (by omega)
            rw [Nat.zero_add] at e3
            have HV2 : Hid (Nm.value env (l1.take (k + 1)) = max v (x + env.getD pn 0)) := by show _ = _; rw [HV.out]; simp [Nm.val, ep]; omega
            generalize env.getD pn 0 = y at hy e3 HV2
            obtain ⟨y1, y2⟩ := hy
            have hpi : (pn : Int) < 5 := by omega
            clear ep
            by_cases hvx : v < x + y
            · go_wp2
              go_round
              case rel => exact ⟨k + 1, by omega, by go_num, by rw [HV2.out, show max v (x + y) = x + y by omega]⟩
              case measure => simp [intOf]; omega
            · go_wp2
              go_round
              case rel => exact ⟨k + 1, by omega, by go_num, by rw [HV2.out, show max v (x + y) = v by omega]⟩
              case measure => simp [intOf]; omega
        · have hkL : k = L := by omega
          subst hkL
          rw [List.take_of_length_le (by rw [hl5.1]; exact Nat.le_refl _)]
          clear hl5 HC2
          go_wp2_with fail
          refine (implNormEval_any w5 w5.heap.size An U cn u _ 5 capE env (Nat.le_refl _) (OwnA.reads on5) (by omega) hcn (OwnI.reads oe5) (by omega)).mono ?_
          rintro e w6 ⟨rfl, hb6⟩
          rw [nev_form HUO.out HEV.out, HVU.out]
          generalize Nm.value env l1 = vx
          have hB6 := hB5.trans (hb6.mono s5)
          have s6 := hB6.size
          have on6 := own_below' on5 hb6
          clear on5 hb6
          clear oe5 ol5
          go_wp2_with fail
          refine (implNormOf_any w6 w6.heap.size An U cn u (Nat.le_refl _) (OwnA.reads on6) (by omega)).mono ?_
          rintro e w7 ⟨Aa, ca, rfl, oa7, hb7⟩
          rw [HNN.out] at oa7 ⊢
          simp only [Option.getD_some, Option.isSome_some] at oa7 ⊢
          rw [HUL.out] at oa7 ⊢
          have hB7 := hB6.trans (hb7.mono s6)
          have s7 := hB7.size
          have on7 := own_below' on6 hb7
          clear on6 hb7
          go_wp2_with fail
          refine (rest_any w7 B A n c (HHB.out.below (hB7.mono hB)) hn hnc).mono ?_
          rintro e w' ⟨Ar, nr, cr, rfl, hbr, hnr, rfl⟩
          go_wp2_with fail
          refine (drawNormMax_any w7 B Ar nr cr (Nat.le_trans hB s7) hbr hnr).mono ?_
          rintro e w8 ⟨A2, c2, l2, A3, c3, l3, rfl, ⟨o28, h2c, h27⟩, _, hb8⟩
          have hB8 := hB7.trans (hb8.mono s7)
          have s8 := hB8.size
          have on8 := own_below' on7 hb8
          have oa8 := own_below' oa7 hb8
          clear on7 oa7 hb8
          obtain ⟨M, hM⟩ : ∃ M, l2.length = M := ⟨_, rfl⟩
          rw [hM] at o28 h2c h27 ⊢
          clear hM hbr
          go_wp2_with fail
          refine (specNormOk_any w8 w8.heap.size A2 M c2 l2 (Nat.le_refl _) (OwnA.reads o28) (by omega)).mono ?_
          rintro e w9 ⟨rfl, hb9⟩
          have hB9 := hB8.trans (hb9.mono s8)
          have s9 := hB9.size
          have on9 := own_below' on8 hb9
          have oa9 := own_below' oa8 hb9
          have o29 := own_below' o28 hb9
          clear on8 oa8 o28 hb9
          cases h1 : Nm.normOk l2 with
          | false =>
            clear h1 o29
            go_wp2_with fail
            refine (sameAtoms_any w9 w9.heap.size _ _ U U ca cn u u (Nat.le_refl _) (OwnA.reads oa9) (OwnA.reads on9) (by omega) (by omega)).mono ?_
            rintro e wy ⟨rfl, hby⟩
            rw [decide_eq_true rfl]
            have hBy := hB9.trans (hby.mono s9)
            have sy := hBy.size
            have ony := own_below' on9 hby
            clear on9 hby
            clear oa9
            go_wp2_with fail
            refine (implNormOk_any wy wy.heap.size An U cn u (Nat.le_refl _) (OwnA.reads ony) (by omega) hcn).mono ?_
            rintro e wz ⟨rfl, hbz⟩
            rw [HUO.out]
            have HBZ := Lib.hid (hBy.trans (hbz.mono sy))
            clear hbz ony
            go_wp2
            go_ret
            exact ⟨ret_bool (by simp), HBZ.out⟩
          | true =>
            have HO2 := Lib.hid h1
            clear h1
            go_wp2_with fail
            refine (implNormLe_any w9 w9.heap.size An U cn u A2 M c2 l2 (Nat.le_refl _) (OwnA.reads on9) (by omega) hcn (OwnA.reads o29) (by omega) h2c).mono ?_
            rintro e w10 ⟨rfl, hb10⟩
            have hB10 := hB9.trans (hb10.mono s9)
            have s10 := hB10.size
            have on10 := own_below' on9 hb10
            have oa10 := own_below' oa9 hb10
            have o210 := own_below' o29 hb10
            clear on9 oa9 o29 hb10
            cases h2 : Nm.normLe u l2 with
            | false =>
              clear h2 o210
              go_wp2_with fail
              refine (sameAtoms_any w10 w10.heap.size _ _ U U ca cn u u (Nat.le_refl _) (OwnA.reads oa10) (OwnA.reads on10) (by omega) (by omega)).mono ?_
              rintro e wy ⟨rfl, hby⟩
              rw [decide_eq_true rfl]
              have hBy := hB10.trans (hby.mono s10)
              have sy := hBy.size
              have ony := own_below' on10 hby
              clear on10 hby
              clear oa10
              go_wp2_with fail
              refine (implNormOk_any wy wy.heap.size An U cn u (Nat.le_refl _) (OwnA.reads ony) (by omega) hcn).mono ?_
              rintro e wz ⟨rfl, hbz⟩
              rw [HUO.out]
              have HBZ := Lib.hid (hBy.trans (hbz.mono sy))
              clear hbz ony
              go_wp2
              go_ret
              exact ⟨ret_bool (by simp), HBZ.out⟩
            | true =>
              have HL1 := Lib.hid h2
              clear h2
              go_wp2_with fail
              refine (implNormLe_any w10 w10.heap.size A2 M c2 l2 An U cn u (Nat.le_refl _) (OwnA.reads o210) (by omega) h2c (OwnA.reads on10) (by omega) hcn).mono ?_
              rintro e w11 ⟨rfl, hb11⟩
              have hB11 := hB10.trans (hb11.mono s10)
              have s11 := hB11.size
              have on11 := own_below' on10 hb11
              have oa11 := own_below' oa10 hb11
              have o211 := own_below' o210 hb11
              clear on10 oa10 o210 hb11
              cases h3 : Nm.normLe l2 u with
              | false =>
                clear h3 o211
                go_wp2_with fail
                refine (sameAtoms_any w11 w11.heap.size _ _ U U ca cn u u (Nat.le_refl _) (OwnA.reads oa11) (OwnA.reads on11) (by omega) (by omega)).mono ?_
                rintro e wy ⟨rfl, hby⟩
                rw [decide_eq_true rfl]
                have hBy := hB11.trans (hby.mono s11)
                have sy := hBy.size
                have ony := own_below' on11 hby
                clear on11 hby
                clear oa11
                go_wp2_with fail
                refine (implNormOk_any wy wy.heap.size An U cn u (Nat.le_refl _) (OwnA.reads ony) (by omega) hcn).mono ?_
                rintro e wz ⟨rfl, hbz⟩
                rw [HUO.out]
                have HBZ := Lib.hid (hBy.trans (hbz.mono sy))
                clear hbz ony
                go_wp2
                go_ret
                exact ⟨ret_bool (by simp), HBZ.out⟩
              | true =>
                have q1 := (Nm.normLe_le u l2).1 HL1.out
                have q2 := (Nm.normLe_le l2 u).1 h3
                have HEQ : Hid (u = l2) := Nm.le_antisymm q1.1 q1.2.1 q1.2.2 q2.2.2
                clear h3 q1 q2
                go_wp2_with fail
                refine (sameAtoms_any w11 w11.heap.size An A2 U M cn c2 u l2 (Nat.le_refl _) (OwnA.reads on11) (OwnA.reads o211) (by omega) (by omega)).mono ?_
                rintro e w12 ⟨rfl, hb12⟩
                rw [decide_eq_true HEQ.out]
                have hB12 := hB11.trans (hb12.mono s11)
                have s12 := hB12.size
                have on12 := own_below' on11 hb12
                have oa12 := own_below' oa11 hb12
                clear on11 oa11 hb12
                clear o211
                go_wp2_with fail
                refine (sameAtoms_any w12 w12.heap.size _ _ U U ca cn u u (Nat.le_refl _) (OwnA.reads oa12) (OwnA.reads on12) (by omega) (by omega)).mono ?_
                rintro e wy ⟨rfl, hby⟩
                rw [decide_eq_true rfl]
                have hBy := hB12.trans (hby.mono s12)
                have sy := hBy.size
                have ony := own_below' on12 hby
                clear on12 hby
                clear oa12
                go_wp2_with fail
                refine (implNormOk_any wy wy.heap.size An U cn u (Nat.le_refl _) (OwnA.reads ony) (by omega) hcn).mono ?_
                rintro e wz ⟨rfl, hbz⟩
                rw [HUO.out]
                have HBZ := Lib.hid (hBy.trans (hbz.mono sy))
                clear hbz ony
                go_wp2
                go_ret
                exact ⟨ret_bool (by simp), HBZ.out⟩
end Go.Proofs.Ytgbdojenenfgfaa
