/- The law FnNormUp: the walk. -/
import Derived.Test.YtgbdojenenfgfaaDoorDrawUp
import Derived.Test.YtgbdojenenfgfaaDoorDraw3
import Derived.Test.YtgbdojenenfgfaaDoorSameA
import Derived.Test.YtgbdojenenfgfaaDoorNEval
import Derived.Test.YtgbdojenenfgfaaDoorNUp2
import Derived.Test.YtgbdojenenfgfaaDoorNLev2
import Derived.Test.YtgbdojenenfgfaaDoorNFree2
import Derived.Test.YtgbdojenenfgfaaDoorNMath4
namespace Go.Proofs.YtgbdojenenfgfaaDoor
open Go.RowKit

theorem nev_formU {l : List (Int × Int)} {env : List Int} (h1 : Nm.normOk l = true) (h2 : envOk env = true) : nevV l env = .tuple #[.int .i64 (Nm.value env l), .bool true] := by rw [nevV, nevR_yes ⟨h1, h2⟩]; rfl
theorem envU5 {env : List Int} (h5 : env.length = 5) (he : ∀ x ∈ env, 0 ≤ x ∧ x ≤ (5 : Int)) : envOk env = true := by
  simp only [envOk, Bool.and_eq_true, decide_eq_true_eq, List.all_eq_true]
  exact ⟨h5, fun x hx => by have := he x hx; omega⟩
theorem normUp_some {l u : List (Int × Int)} {x : Int} (h : Nm.normUp l x = some u) : Nm.normOk l = true ∧ 0 ≤ x ∧ x ≤ 1000 ∧ Nm.normOk u = true ∧ u = Nm.up x l := by
  by_cases hc : Nm.normOk l = true ∧ 0 ≤ x ∧ x ≤ 1000 ∧ Nm.normOk (Nm.up x l) = true
  · rw [normUp_yes hc] at h
    injection h with h
    subst h
    exact ⟨hc.1, hc.2.1, hc.2.2.1, hc.2.2.2, rfl⟩
  · rw [normUp_no hc] at h
    cases h
theorem levR_some {m q : List (Int × Int)} (h : levR m = some q) : Nm.normOk m = true ∧ Lv.levelOk q = true ∧ q = Nm.toksOf m := by
  cases ho : Nm.normOk m with
  | false => rw [levR_no ho] at h; cases h
  | true =>
    rw [levR_yes ho] at h
    unfold ifR at h
    split at h
    · injection h with h
      subst h
      exact ⟨rfl, by assumption, rfl⟩
    · cases h
theorem evalR_toks {env : List Int} {m : List (Int × Int)} (he : envOk env = true) (hm : Nm.Ok m) (hl : Lv.levelOk (Nm.toksOf m) = true) : evalR env (Nm.toksOf m) = some (Nm.value env m) := by
  rw [evalR, if_pos he]
  exact Nm.eval_toksOf (fun x hx => ((envOk_mem he).2 x hx).1) hm hl

set_option maxRecDepth 100000 in
set_option maxHeartbeats 6400000 in
theorem fnNormUp_any (w : World) (B : Nat) (A : Option Addr) (n c : Nat) (T : TypeId) (pv : Value) (h0 : 0 < B) (hB : B ≤ w.heap.size) (hb : BytR w B A n) (hE : ErrAt w T pv) :
    Calls Tryd.prog 4 #[.slice A n c] w fun e w' => e = .returned (.bool true) ∧ Below w.heap.size w w' := by
  by_cases hbig : 1048576 < (n : Int)
  · go_enter Tryd.func4, Tryd.ntmps4
    go_wp2_with fail
    refine (big_any w A n c).mono ?_
    rintro e w' ⟨rfl, rfl⟩
    rw [decide_eq_true (by omega)]
    go_wp2
    go_ret
    exact ⟨rfl, Below.refl _ _⟩
  · have hn : n ≤ 1048576 := by omega
    go_enter Tryd.func4, Tryd.ntmps4
    go_wp2_with fail
    refine (big_any w A n c).mono ?_
    rintro e w' ⟨rfl, rfl⟩
    rw [decide_eq_false (by omega)]
    go_wp2_with fail
    refine (drawNormUp_any w B A n c hB hb hn).mono ?_
    rintro e w1 ⟨g1, c1, l1, x1, rfl, l17, ol1, hB1⟩
    have s1 := hB1.size
    have hc1 := own_capA' ol1
    have hul := Nm.normUp_len l1 x1
    obtain ⟨L, hL⟩ : ∃ L, l1.length = L := ⟨_, rfl⟩
    rw [hL] at l17 ol1 hc1 ⊢
    go_wp2_with fail
    refine (specNormUp_any w1 w1.heap.size _ L c1 l1 x1 (Nat.le_refl _) (OwnA.reads ol1) (by omega)).mono ?_
    rintro e w2 ⟨Aw, cw, rfl, ow2, hb2⟩
    have hB2 := hB1.trans (hb2.mono s1)
    have s2 := hB2.size
    have ol2 := own_below' ol1 hb2
    clear ol1 hb2
    go_wp2_with fail
    refine (implNormUp_any w2 w2.heap.size _ L c1 l1 x1 (Nat.le_refl _) (OwnA.reads ol2) (by omega) hc1).mono ?_
    rintro e w3 ⟨Au, cu, rfl, ou3, hb3⟩
    have hB3 := hB2.trans (hb3.mono s2)
    have s3 := hB3.size
    have ol3 := own_below' ol2 hb3
    have ow3 := own_below' ow2 hb3
    have hcu := own_capA' ou3
    clear ol2 ow2 hb3
    cases hR : Nm.normUp l1 x1 with
    | none =>
      rw [hR] at ou3 ow3
      simp only [Option.getD_none, Option.isSome_none, List.length_nil] at ou3 ow3 ⊢
      clear hR
      go_wp2_with fail
      refine (sameAtoms_any w3 w3.heap.size Au Aw 0 0 cu cw [] [] (Nat.le_refl _) (OwnA.reads ou3) (OwnA.reads ow3) (by omega) (by omega)).mono ?_
      rintro e w4 ⟨rfl, hb4⟩
      rw [decide_eq_true rfl]
      have hB4 := hB3.trans (hb4.mono s3)
      have s4 := hB4.size
      have ol4 := own_below' ol3 hb4
      clear ol3 hb4
      go_wp2_with fail
      refine (envs_any w4 B A n c 3 5 (Nat.le_trans hB s4) (hb.below (hB4.mono hB)) hn (by omega) (by omega)).mono ?_
      rintro e w5 ⟨ge, capE, env, rfl, he5, heb, oe5, hb5⟩
      have HEV := Lib.hid (envU5 he5 heb)
      have HHB := Lib.hid hb
      have HHE := Lib.hid hE
      clear heb he5 ol4
      have hB5 := hB4.trans (hb5.mono s4)
      have s5 := hB5.size
      clear hb5
      go_wp2_with fail
      refine (drawNormLevel_any w5 B A n c (Nat.le_trans hB s5) (HHB.out.below (hB5.mono hB)) hn).mono ?_
      rintro e w8 ⟨gm, cm, lm, rfl, lm7, om8, hb8⟩
      have hB8 := hB5.trans (hb8.mono s5)
      have s8 := hB8.size
      have oe8 := own_below' oe5 hb8
      clear oe5 hb8
      have hcm := own_capA' om8
      have hlq := levR_len lm
      obtain ⟨M, hM⟩ : ∃ M, lm.length = M := ⟨_, rfl⟩
      rw [hM] at lm7 om8 hcm ⊢
      clear hM
      go_wp2_with fail
      refine (implNormLevel_any w8 w8.heap.size _ M cm lm T pv (by omega) (Nat.le_refl _) (OwnA.reads om8) (by omega) hcm (HHE.out.below (hB8.mono hB) h0)).mono ?_
      rintro e w9 ⟨Ap, cp, rfl, op9, hb9⟩
      have hB9 := hB8.trans (hb9.mono s8)
      have s9 := hB9.size
      have oe9 := own_below' oe8 hb9
      have om9 := own_below' om8 hb9
      clear oe8 om8 hb9
      go_wp2_with fail
      refine (specNormLevel_any w9 w9.heap.size _ M cm lm (Nat.le_refl _) (OwnA.reads om9) (by omega)).mono ?_
      rintro e w10 ⟨Aq, cq, rfl, oq10, hb10⟩
      have hB10 := hB9.trans (hb10.mono s9)
      have s10 := hB10.size
      have oe10 := own_below' oe9 hb10
      have om10 := own_below' om9 hb10
      have op10 := own_below' op9 hb10
      clear oe9 om9 op9 hb10
      cases hQ : levR lm with
      | none =>
        rw [hQ] at op10 oq10
        simp only [Option.getD_none, Option.isSome_none, List.length_nil] at op10 oq10 ⊢
        obtain ⟨q, hq⟩ : ∃ q : List (Int × Int), q = [] := ⟨_, rfl⟩
        rw [← hq] at op10 oq10
        clear hQ hq
        go_wp2_with fail
        refine (sameToks_any w10 w10.heap.size Ap Aq 0 cp cq q (Nat.le_refl _) (OwnT.reads op10) (OwnT.reads oq10) (by omega)).mono ?_
        rintro e w11 ⟨rfl, hb11⟩
        have hB11 := hB10.trans (hb11.mono s10)
        have s11 := hB11.size
        have op11 := own_below' op10 hb11
        have oq11 := own_below' oq10 hb11
        clear op10 oq10 hb11
        go_wp2_with fail
        refine (sameToks_any w11 w11.heap.size Ap Aq 0 cp cq q (Nat.le_refl _) (OwnT.reads op11) (OwnT.reads oq11) (by omega)).mono ?_
        rintro e w12 ⟨rfl, hb12⟩
        have HBZ := Lib.hid (hB11.trans (hb12.mono s11))
        clear hb12
        go_wp2
        go_ret
        exact ⟨rfl, HBZ.out⟩
      | some q =>
        obtain ⟨hmo, hqo, hqe⟩ := levR_some hQ
        rw [hQ] at op10 oq10 hlq
        simp only [Option.getD_some, Option.isSome_some] at op10 oq10 hlq ⊢
        have hmk := (Nm.normOk_iff lm).1 hmo
        have HEQ : Hid (evalR env q = some (Nm.value env lm)) := by rw [hqe]; exact Lib.hid (evalR_toks HEV.out hmk (by rw [← hqe]; exact hqo))
        have HFR : Hid (Nm.freeR q = some lm) := by rw [hqe]; exact Lib.hid (Nm.free_toksOf hmk (by rw [← hqe]; exact hqo))
        have HMO := Lib.hid hmo
        obtain ⟨Q, hQl⟩ : ∃ Q, q.length = Q := ⟨_, rfl⟩
        rw [hQl] at op10 oq10 hlq ⊢
        clear hQ hmo hqo hqe hmk hQl
        go_wp2_with fail
        refine (sameToks_any w10 w10.heap.size Ap Aq Q cp cq q (Nat.le_refl _) (OwnT.reads op10) (OwnT.reads oq10) (by omega)).mono ?_
        rintro e w11 ⟨rfl, hb11⟩
        have hB11 := hB10.trans (hb11.mono s10)
        have s11 := hB11.size
        have oe11 := own_below' oe10 hb11
        have om11 := own_below' om10 hb11
        have op11 := own_below' op10 hb11
        clear oe10 om10 op10 hb11
        go_wp2_with fail
        refine (implNormFree_any w11 w11.heap.size _ Q cp q T pv (by omega) (Nat.le_refl _) (OwnT.reads op11) (by omega) (HHE.out.below (hB11.mono hB) h0)).mono ?_
        rintro e w12 ⟨Ab, cb, rfl, ob12, hb12⟩
        rw [HFR.out] at ob12 ⊢
        simp only [Option.getD_some, Option.isSome_some] at ob12 ⊢
        have hB12 := hB11.trans (hb12.mono s11)
        have s12 := hB12.size
        have oe12 := own_below' oe11 hb12
        have om12 := own_below' om11 hb12
        have op12 := own_below' op11 hb12
        clear oe11 om11 op11 hb12
        go_wp2_with fail
        refine (levelEval_any w12 w12.heap.size _ _ Q cp 5 capE env q T pv (by omega) (Nat.le_refl _) (OwnT.reads op12) (by omega) (OwnI.reads oe12) (by omega) (HHE.out.below (hB12.mono hB) h0)).mono ?_
        rintro e w13 ⟨rfl, hb13⟩
        rw [evalV_form, HEQ.out]
        simp only [Option.getD_some, Option.isSome_some]
        have hB13 := hB12.trans (hb13.mono s12)
        have s13 := hB13.size
        have oe13 := own_below' oe12 hb13
        have om13 := own_below' om12 hb13
        have ob13 := own_below' ob12 hb13
        clear oe12 om12 ob12 hb13
        go_wp2_with fail
        refine (implNormEval_any w13 w13.heap.size _ M cm lm _ 5 capE env (Nat.le_refl _) (OwnA.reads om13) (by omega) hcm (OwnI.reads oe13) (by omega)).mono ?_
        rintro e w14 ⟨rfl, hb14⟩
        rw [nev_formU HMO.out HEV.out]
        generalize Nm.value env lm = vm
        have hB14 := hB13.trans (hb14.mono s13)
        have s14 := hB14.size
        have om14 := own_below' om13 hb14
        have ob14 := own_below' ob13 hb14
        clear om13 ob13 hb14
        have hml : lm.length = M := (OwnA.reads om14).1
        rw [hml] at ob14 ⊢
        go_wp2_with fail
        refine (sameAtoms_any w14 w14.heap.size _ _ M M cb cm lm lm (Nat.le_refl _) (OwnA.reads ob14) (OwnA.reads om14) (by omega) (by omega)).mono ?_
        rintro e w15 ⟨rfl, hb15⟩
        rw [decide_eq_true rfl]
        have HBZ := Lib.hid (hB14.trans (hb15.mono s14))
        clear hb15
        go_wp2
        go_ret
        exact ⟨ret_bool (by simp), HBZ.out⟩
    | some u =>
      obtain ⟨hlo, hx0, hx1, huo, hue⟩ := normUp_some hR
      rw [hR] at ou3 ow3 hul hcu
      simp only [Option.getD_some, Option.isSome_some] at ou3 ow3 hul hcu ⊢
      obtain ⟨U, hU⟩ : ∃ U, u.length = U := ⟨_, rfl⟩
      rw [hU] at ou3 ow3 hul hcu ⊢
      have HLO := Lib.hid hlo
      have HUO := Lib.hid huo
      have hlk := (Nm.normOk_iff l1).1 hlo
      have hne : l1 ≠ [] := by intro e; have h2 := hlk.1; rw [e] at h2; simp at h2
      have hao := hlk.2.1
      go_wp2_with fail
      refine (sameAtoms_any w3 w3.heap.size Au Aw U U cu cw u u (Nat.le_refl _) (OwnA.reads ou3) (OwnA.reads ow3) (by omega) (by omega)).mono ?_
      rintro e w4 ⟨rfl, hb4⟩
      rw [decide_eq_true rfl]
      have hB4 := hB3.trans (hb4.mono s3)
      have s4 := hB4.size
      have ol4 := own_below' ol3 hb4
      have ou4 := own_below' ou3 hb4
      clear ol3 ou3 hb4
      go_wp2_with fail
      refine (envs_any w4 B A n c 3 5 (Nat.le_trans hB s4) (hb.below (hB4.mono hB)) hn (by omega) (by omega)).mono ?_
      rintro e w5 ⟨ge, capE, env, rfl, he5, heb, oe5, hb5⟩
      have HEV := Lib.hid (envU5 he5 heb)
      have HHB := Lib.hid hb
      have HHE := Lib.hid hE
      have HVU : Hid (Nm.value env u = Nm.value env l1 + x1) := by rw [hue]; exact Lib.hid (Nm.value_up (fun x hx => (heb x hx).1) hne hao hx0)
      have hvb := nevR_bd hao HEV.out
      have hv0 := Nm.value_ge env l1
      clear heb he5 hR hlo huo hue hlk hne hao hU
      have hB5 := hB4.trans (hb5.mono s4)
      have s5 := hB5.size
      have ol5 := own_below' ol4 hb5
      have ou5 := own_below' ou4 hb5
      clear ol4 ou4 hb5
      go_wp2_with fail
      refine (implNormEval_any w5 w5.heap.size _ L c1 l1 _ 5 capE env (Nat.le_refl _) (OwnA.reads ol5) (by omega) hc1 (OwnI.reads oe5) (by omega)).mono ?_
      rintro e w6 ⟨rfl, hb6⟩
      rw [nev_formU HLO.out HEV.out]
      have hB6 := hB5.trans (hb6.mono s5)
      have s6 := hB6.size
      have oe6 := own_below' oe5 hb6
      have ou6 := own_below' ou5 hb6
      clear oe5 ou5 hb6
      go_wp2_with fail
      refine (implNormEval_any w6 w6.heap.size _ U cu u _ 5 capE env (Nat.le_refl _) (OwnA.reads ou6) (by omega) hcu (OwnI.reads oe6) (by omega)).mono ?_
      rintro e w7 ⟨rfl, hb7⟩
      rw [nev_formU HUO.out HEV.out, HVU.out]
      generalize Nm.value env l1 = vx at hvb hv0 ⊢
      clear HVU
      have hB7 := hB6.trans (hb7.mono s6)
      have s7 := hB7.size
      have oe7 := own_below' oe6 hb7
      clear oe6 hb7
      go_wp2_with fail
      refine (drawNormLevel_any w7 B A n c (Nat.le_trans hB s7) (HHB.out.below (hB7.mono hB)) hn).mono ?_
      rintro e w8 ⟨gm, cm, lm, rfl, lm7, om8, hb8⟩
      have hB8 := hB7.trans (hb8.mono s7)
      have s8 := hB8.size
      have oe8 := own_below' oe7 hb8
      clear oe7 hb8
      have hcm := own_capA' om8
      have hlq := levR_len lm
      obtain ⟨M, hM⟩ : ∃ M, lm.length = M := ⟨_, rfl⟩
      rw [hM] at lm7 om8 hcm ⊢
      clear hM
      go_wp2_with fail
      refine (implNormLevel_any w8 w8.heap.size _ M cm lm T pv (by omega) (Nat.le_refl _) (OwnA.reads om8) (by omega) hcm (HHE.out.below (hB8.mono hB) h0)).mono ?_
      rintro e w9 ⟨Ap, cp, rfl, op9, hb9⟩
      have hB9 := hB8.trans (hb9.mono s8)
      have s9 := hB9.size
      have oe9 := own_below' oe8 hb9
      have om9 := own_below' om8 hb9
      clear oe8 om8 hb9
      go_wp2_with fail
      refine (specNormLevel_any w9 w9.heap.size _ M cm lm (Nat.le_refl _) (OwnA.reads om9) (by omega)).mono ?_
      rintro e w10 ⟨Aq, cq, rfl, oq10, hb10⟩
      have hB10 := hB9.trans (hb10.mono s9)
      have s10 := hB10.size
      have oe10 := own_below' oe9 hb10
      have om10 := own_below' om9 hb10
      have op10 := own_below' op9 hb10
      clear oe9 om9 op9 hb10
      cases hQ : levR lm with
      | none =>
        rw [hQ] at op10 oq10
        simp only [Option.getD_none, Option.isSome_none, List.length_nil] at op10 oq10 ⊢
        obtain ⟨q, hq⟩ : ∃ q : List (Int × Int), q = [] := ⟨_, rfl⟩
        rw [← hq] at op10 oq10
        clear hQ hq
        go_wp2_with fail
        refine (sameToks_any w10 w10.heap.size Ap Aq 0 cp cq q (Nat.le_refl _) (OwnT.reads op10) (OwnT.reads oq10) (by omega)).mono ?_
        rintro e w11 ⟨rfl, hb11⟩
        have hB11 := hB10.trans (hb11.mono s10)
        have s11 := hB11.size
        have op11 := own_below' op10 hb11
        have oq11 := own_below' oq10 hb11
        clear op10 oq10 hb11
        go_wp2_with fail
        refine (sameToks_any w11 w11.heap.size Ap Aq 0 cp cq q (Nat.le_refl _) (OwnT.reads op11) (OwnT.reads oq11) (by omega)).mono ?_
        rintro e w12 ⟨rfl, hb12⟩
        have HBZ := Lib.hid (hB11.trans (hb12.mono s11))
        clear hb12
        go_wp2
        go_ret
        exact ⟨rfl, HBZ.out⟩
      | some q =>
        obtain ⟨hmo, hqo, hqe⟩ := levR_some hQ
        rw [hQ] at op10 oq10 hlq
        simp only [Option.getD_some, Option.isSome_some] at op10 oq10 hlq ⊢
        have hmk := (Nm.normOk_iff lm).1 hmo
        have HEQ : Hid (evalR env q = some (Nm.value env lm)) := by rw [hqe]; exact Lib.hid (evalR_toks HEV.out hmk (by rw [← hqe]; exact hqo))
        have HFR : Hid (Nm.freeR q = some lm) := by rw [hqe]; exact Lib.hid (Nm.free_toksOf hmk (by rw [← hqe]; exact hqo))
        have HMO := Lib.hid hmo
        obtain ⟨Q, hQl⟩ : ∃ Q, q.length = Q := ⟨_, rfl⟩
        rw [hQl] at op10 oq10 hlq ⊢
        clear hQ hmo hqo hqe hmk hQl
        go_wp2_with fail
        refine (sameToks_any w10 w10.heap.size Ap Aq Q cp cq q (Nat.le_refl _) (OwnT.reads op10) (OwnT.reads oq10) (by omega)).mono ?_
        rintro e w11 ⟨rfl, hb11⟩
        have hB11 := hB10.trans (hb11.mono s10)
        have s11 := hB11.size
        have oe11 := own_below' oe10 hb11
        have om11 := own_below' om10 hb11
        have op11 := own_below' op10 hb11
        clear oe10 om10 op10 hb11
        go_wp2_with fail
        refine (implNormFree_any w11 w11.heap.size _ Q cp q T pv (by omega) (Nat.le_refl _) (OwnT.reads op11) (by omega) (HHE.out.below (hB11.mono hB) h0)).mono ?_
        rintro e w12 ⟨Ab, cb, rfl, ob12, hb12⟩
        rw [HFR.out] at ob12 ⊢
        simp only [Option.getD_some, Option.isSome_some] at ob12 ⊢
        have hB12 := hB11.trans (hb12.mono s11)
        have s12 := hB12.size
        have oe12 := own_below' oe11 hb12
        have om12 := own_below' om11 hb12
        have op12 := own_below' op11 hb12
        clear oe11 om11 op11 hb12
        go_wp2_with fail
        refine (levelEval_any w12 w12.heap.size _ _ Q cp 5 capE env q T pv (by omega) (Nat.le_refl _) (OwnT.reads op12) (by omega) (OwnI.reads oe12) (by omega) (HHE.out.below (hB12.mono hB) h0)).mono ?_
        rintro e w13 ⟨rfl, hb13⟩
        rw [evalV_form, HEQ.out]
        simp only [Option.getD_some, Option.isSome_some]
        have hB13 := hB12.trans (hb13.mono s12)
        have s13 := hB13.size
        have oe13 := own_below' oe12 hb13
        have om13 := own_below' om12 hb13
        have ob13 := own_below' ob12 hb13
        clear oe12 om12 ob12 hb13
        go_wp2_with fail
        refine (implNormEval_any w13 w13.heap.size _ M cm lm _ 5 capE env (Nat.le_refl _) (OwnA.reads om13) (by omega) hcm (OwnI.reads oe13) (by omega)).mono ?_
        rintro e w14 ⟨rfl, hb14⟩
        rw [nev_formU HMO.out HEV.out]
        generalize Nm.value env lm = vm
        have hB14 := hB13.trans (hb14.mono s13)
        have s14 := hB14.size
        have om14 := own_below' om13 hb14
        have ob14 := own_below' ob13 hb14
        clear om13 ob13 hb14
        have hml : lm.length = M := (OwnA.reads om14).1
        rw [hml] at ob14 ⊢
        go_wp2_with fail
        refine (sameAtoms_any w14 w14.heap.size _ _ M M cb cm lm lm (Nat.le_refl _) (OwnA.reads ob14) (OwnA.reads om14) (by omega) (by omega)).mono ?_
        rintro e w15 ⟨rfl, hb15⟩
        rw [decide_eq_true rfl]
        have HBZ := Lib.hid (hB14.trans (hb15.mono s14))
        clear hb15
        go_wp2
        go_ret
        exact ⟨ret_bool (by simp), HBZ.out⟩
end Go.Proofs.YtgbdojenenfgfaaDoor
