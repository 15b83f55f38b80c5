/- The law FnEval: the walk. -/
import Derived.Test.YtgbdojenenfgfaaDoorDraw4
import Derived.Test.YtgbdojenenfgfaaDoorEvMath
import Derived.Test.YtgbdojenenfgfaaDoorFnSub
import Derived.Test.YtgbdojenenfgfaaDoorOff
namespace Go.Proofs.YtgbdojenenfgfaaDoor
open Go.RowKit

theorem env5 {env : List Int} (h5 : env.length = 5) (he : ∀ x ∈ env, 0 ≤ x ∧ x ≤ (5 : Int)) : envOk env = true := by
  simp only [envOk, Bool.and_eq_true, decide_eq_true_eq, List.all_eq_true]
  exact ⟨h5, fun x hx => by have := he x hx; omega⟩
theorem evalR_ok {env : List Int} (h : envOk env = true) (l : List (Int × Int)) : evalR env l = Lv.eval env l := by rw [evalR, if_pos h]
theorem eval_isSome (env : List Int) (l : List (Int × Int)) : (Lv.eval env l).isSome = Lv.levelOk l := by
  cases hok : Lv.levelOk l with
  | true => obtain ⟨v, hv⟩ := eval_some (env := env) hok; rw [hv]; rfl
  | false => unfold Lv.eval; rw [if_neg (by rw [hok]; decide)]; rfl
theorem eval_ok_of {env : List Int} {l : List (Int × Int)} {v : Int} (h : Lv.eval env l = some v) : Lv.levelOk l = true := by rw [← eval_isSome env, h]; rfl
theorem eval_smallL {env : List Int} (he : ∀ x ∈ env, 0 ≤ x ∧ x ≤ (5 : Int)) (l : List (Int × Int)) : 0 ≤ (Lv.eval env l).getD 0 ∧ (Lv.eval env l).getD 0 ≤ 29 := by
  cases hv : Lv.eval env l with
  | none => simp
  | some v => exact eval_pos he (eval_ok_of hv) hv
theorem succR_none {l : List (Int × Int)} {n : Nat} (h : succR l (n : Int) = none) : 24 < (l.length : Int) + n ∨ Lv.levelOk l = false := by
  unfold succR at h
  split at h
  · cases h
  · rename_i hk
    cases hok : Lv.levelOk l with
    | false => exact .inr rfl
    | true => left; rw [hok] at hk; simp at hk; omega
theorem joinR_len2 {op : Int} {a b q : List (Int × Int)} (h : joinR op a b = some q) : 1 ≤ q.length ∧ q.length ≤ 24 ∧ Lv.levelOk a = true ∧ Lv.levelOk b = true ∧ Lv.levelOk q = true := by
  unfold joinR at h
  split at h
  · rename_i hk
    unfold ifR at h
    split at h
    · rename_i hok
      injection h with h
      subst h
      have := ok_len hok rfl
      exact ⟨this.1, this.2, hk.2.1, hk.2.2, hok⟩
    · cases h
  · cases h

set_option maxRecDepth 100000 in
set_option maxHeartbeats 6400000 in
theorem fnEval_any (w : World) (B : Nat) (A : Option Addr) (n c : Nat) (T : TypeId) (pv : Value) (h0 : 0 < B) (hB : B ≤ w.heap.size) (hb : BytR w B A n) (hE : ErrAt w T pv) :
    Calls Tryd.prog 3 #[.slice A n c] w fun e w' => e = .returned (.bool true) ∧ Below w.heap.size w w' := by
  by_cases hbig : 1048576 < (n : Int)
  · go_enter Tryd.func3, Tryd.ntmps3
    go_wp2_with fail
    refine (big_any w A n c).mono ?_
    rintro e w' ⟨rfl, rfl⟩
    rw [decide_eq_true (by omega)]
    go_wp2
    go_ret
    exact ⟨rfl, Below.refl _ _⟩
  · have hn : n ≤ 1048576 := by omega
    go_enter Tryd.func3, Tryd.ntmps3
    go_wp2_with fail
    refine (big_any w A n c).mono ?_
    rintro e w' ⟨rfl, rfl⟩
    rw [decide_eq_false (by omega)]
    go_wp2_with fail
    refine (drawJoin_any w B A n c hB hb hn).mono ?_
    rintro e w1 ⟨op, g, cap, l, g2, cap2, l2, rfl, hl1, hl25, hm1, hm24, ol1, om1, hB1⟩
    have s1 := hB1.size
    obtain ⟨L, hL⟩ : ∃ L, l.length = L := ⟨_, rfl⟩
    obtain ⟨M, hM⟩ : ∃ M, l2.length = M := ⟨_, rfl⟩
    rw [hL] at hl1 hl25 ol1 ⊢
    rw [hM] at hm1 hm24 om1 ⊢
    go_wp2_with fail
    refine (envs_any w1 B A n c 3 5 (Nat.le_trans hB s1) (hb.below (hB1.mono hB)) hn (by omega) (by omega)).mono ?_
    rintro e w2 ⟨ge, capE, env, rfl, he5, heb, oe2, hb2⟩
    have hB2 := hB1.trans (hb2.mono s1)
    have s2 := hB2.size
    have ol2 := own_below' ol1 hb2
    have om2 := own_below' om1 hb2
    have hev := env5 he5 heb
    have ev1 := evalR_ok hev l
    have ev2 := evalR_ok hev l2
    have sm1 := eval_smallL heb l
    have sm2 := eval_smallL heb l2
    clear ol1 om1 hb2
    go_wp2_with fail
    refine (levelEval_any w2 w2.heap.size _ _ L cap 5 capE env l T pv (by omega) (Nat.le_refl _) (OwnT.reads ol2) (by omega) (OwnI.reads oe2) (by omega) (hE.below (hB2.mono hB) h0)).mono ?_
    rintro e w3 ⟨rfl, hb3⟩
    rw [evalV_form, ev1, eval_isSome]
    have hB3 := hB2.trans (hb3.mono s2)
    have s3 := hB3.size
    have ol3 := own_below' ol2 hb3
    have om3 := own_below' om2 hb3
    have oe3 := own_below' oe2 hb3
    clear ol2 om2 oe2 hb3
    go_wp2_with fail
    refine (levelEval_any w3 w3.heap.size _ _ M cap2 5 capE env l2 T pv (by omega) (Nat.le_refl _) (OwnT.reads om3) (by omega) (OwnI.reads oe3) (by omega) (hE.below (hB3.mono hB) h0)).mono ?_
    rintro e w4 ⟨rfl, hb4⟩
    rw [evalV_form, ev2, eval_isSome]
    have hB4 := hB3.trans (hb4.mono s3)
    have s4 := hB4.size
    have ol4 := own_below' ol3 hb4
    have om4 := own_below' om3 hb4
    have oe4 := own_below' oe3 hb4
    clear ol3 om3 oe3 hb4
    go_wp2_with fail
    refine (implJoin_any w4 w4.heap.size op _ L cap l _ M cap2 l2 T pv (by omega) (Nat.le_refl _) (OwnT.reads ol4) (by omega) (OwnT.reads om4) (by omega) (hE.below (hB4.mono hB) h0)).mono ?_
    rintro e w5 ⟨A5, c5, rfl, oj5, hb5⟩
    have hB5 := hB4.trans (hb5.mono s4)
    have s5 := hB5.size
    have ol5 := own_below' ol4 hb5
    have om5 := own_below' om4 hb5
    have oe5 := own_below' oe4 hb5
    clear ol4 om4 oe4 hb5
    go_wp2_with fail
    refine (specJoin_any w5 w5.heap.size op _ L cap l _ M cap2 l2 (Nat.le_refl _) (OwnT.reads ol5) (by omega) (OwnT.reads om5) (by omega)).mono ?_
    rintro e w6 ⟨A6, c6, rfl, ow6, hb6⟩
    have hB6 := hB5.trans (hb6.mono s5)
    have s6 := hB6.size
    have ol6 := own_below' ol5 hb6
    have om6 := own_below' om5 hb6
    have oe6 := own_below' oe5 hb6
    have oj6 := own_below' oj5 hb6
    clear ol5 om5 oe5 oj5 hb6
    have hbb : ((joinR op l l2).isSome != (joinR op l l2).isSome) = false := by simp
    have hjl : ((joinR op l l2).getD []).length ≤ 1048576 := by
      cases hR : joinR op l l2 with
      | none => simp
      | some q => have := (joinR_len2 hR).2.1; simp only [Option.getD_some]; omega
    go_wp2_with fail
    refine (sameToks_any w6 w6.heap.size A5 A6 _ c5 c6 _ (Nat.le_refl _) (OwnT.reads oj6) (OwnT.reads ow6) hjl).mono ?_
    rintro e w7 ⟨rfl, hb7⟩
    have hB7 := hB6.trans (hb7.mono s6)
    have s7 := hB7.size
    have ol7 := own_below' ol6 hb7
    have om7 := own_below' om6 hb7
    have oe7 := own_below' oe6 hb7
    have oj7 := own_below' oj6 hb7
    clear ol6 om6 oe6 oj6 ow6 hb7
    have hbc : (Lv.levelOk l != Lv.levelOk l) = false := by simp
    have hbd : (Lv.levelOk l2 != Lv.levelOk l2) = false := by simp
    go_wp2_with fail
    refine (specOk_any w7 w7.heap.size _ L cap l (Nat.le_refl _) (OwnT.reads ol7) (by omega)).mono ?_
    rintro e w8 ⟨rfl, hb8⟩
    have hB8 := hB7.trans (hb8.mono s7)
    have s8 := hB8.size
    have om8 := own_below' om7 hb8
    have oe8 := own_below' oe7 hb8
    have oj8 := own_below' oj7 hb8
    clear ol7 om7 oe7 oj7 hb8
    go_wp2_with fail
    refine (specOk_any w8 w8.heap.size _ M cap2 l2 (Nat.le_refl _) (OwnT.reads om8) (by omega)).mono ?_
    rintro e w9 ⟨rfl, hb9⟩
    have hB9 := hB8.trans (hb9.mono s8)
    have s9 := hB9.size
    have om9 := own_below' om8 hb9
    have oe9 := own_below' oe8 hb9
    have oj9 := own_below' oj8 hb9
    clear om8 oe8 oj8 hb9
    have HHB := Lib.hid hb
    have HHE := Lib.hid hE
    have HEB := Lib.hid heb
    have HE5 := Lib.hid he5
    obtain ⟨x, hx⟩ : ∃ x, (Lv.eval env l).getD 0 = x := ⟨_, rfl⟩
    obtain ⟨y, hy⟩ : ∃ y, (Lv.eval env l2).getD 0 = y := ⟨_, rfl⟩
    have HX := Lib.hid hx
    have HY := Lib.hid hy
    rw [hx] at sm1 ⊢
    rw [hy] at sm2 ⊢
    obtain ⟨x0, x29⟩ := sm1
    obtain ⟨y0, y29⟩ := sm2
    have HML := Lib.hid hM
    clear hb hE heb he5 hx hy hev ev1 ev2 hbb hL hM
    cases hR : joinR op l l2 with
    | none =>
      simp only [Option.getD_none, Option.isSome_none, List.length_nil]
      clear hR oj9
      go_wp2_with fail
      refine (lawPick_any w9 B A n c 5 4 (HHB.out.below (hB9.mono hB)) hn (by omega) (by omega)).mono ?_
      rintro e w' ⟨r, rfl, hr, rfl⟩
      have hr4 : r < 4 := by omega
      clear hr
      go_wp2_with fail
      refine (implSucc_any w9 w9.heap.size _ M cap2 l2 (r : Int) T pv (by omega) (Nat.le_refl _) (OwnT.reads om9) (by omega) (HHE.out.below (hB9.mono hB) h0)).mono ?_
      rintro e w10 ⟨As, cs, rfl, os10, hb10⟩
      have hB10 := hB9.trans (hb10.mono s9)
      have s10 := hB10.size
      have om10 := own_below' om9 hb10
      have oe10 := own_below' oe9 hb10
      clear om9 oe9 hb10
      cases hS : succR l2 (r : Int) with
      | none =>
        have hns := succR_none hS
        rw [HML.out] at hns
        simp only [Option.getD_none, Option.isSome_none, List.length_nil]
        clear hS os10 oe10
        by_cases hlong : 24 < (M : Int) + (r : Int)
        · clear hns om10
          go_wp2
          go_ret
          exact ⟨rfl, hB10⟩
        · have HLO : Hid (Lv.levelOk l2 = false) := by rcases hns with h | h; exact absurd h hlong; exact h
          have dl : decide (24 < (M : Int) + (r : Int)) = false := by simp; omega
          clear hns hlong
          go_wp2_with fail
          refine (specOk_any w10 w10.heap.size _ M cap2 l2 (Nat.le_refl _) (OwnT.reads om10) (by omega)).mono ?_
          rintro e w11 ⟨rfl, hb11⟩
          rw [HLO.out]
          have HB11 := Lib.hid (hB10.trans (hb11.mono s10))
          clear hb11 om10
          go_wp2
          go_ret
          exact ⟨rfl, HB11.out⟩
      | some q2 =>
        have hyv : Lv.eval env l2 = some y := by
          have hlk : Lv.levelOk l2 = true := by unfold succR at hS; split at hS; (rename_i hk; exact hk.1); cases hS
          obtain ⟨v, hv⟩ := eval_some (env := env) hlk
          have h2 := HY.out; rw [hv] at h2; simp at h2; rw [hv, h2]
        obtain ⟨hlb, hlq, hvq, hsq⟩ := eval_succ hS hyv
        have hqn := ok_len hlq rfl
        rw [hS] at os10
        simp only [Option.getD_some, Option.isSome_some] at os10 ⊢
        obtain ⟨Q2, hQ2⟩ : ∃ Q2, q2.length = Q2 := ⟨_, rfl⟩
        rw [hQ2] at os10 hqn ⊢
        obtain ⟨hq1, hq24⟩ := hqn
        have sbd := succs_bd l2
        have hM24 : succs l2 ≤ 24 := by have := sbd.2; rw [HML.out] at this; omega
        have hM0 := sbd.1
        have HV2 : Hid (evalR env q2 = some (y + (r : Int))) := by show _ = _; rw [evalR_ok (env5 HE5.out HEB.out), hvq]
        have HO1 : Hid (offR q2 = succs l2 + (r : Int)) := by show _ = _; rw [offR, if_pos hlq, hsq]
        have HO2 : Hid (offR l2 = succs l2) := by show _ = _; rw [offR, if_pos hlb]
        generalize succs l2 = sv at HO1 HO2 hM24 hM0
        clear hS hyv hlb hlq hvq hsq hQ2 sbd
        go_wp2_with fail
        refine (levelEval_any w10 w10.heap.size _ _ Q2 cs 5 capE env q2 T pv (by omega) (Nat.le_refl _) (OwnT.reads os10) (by omega) (OwnI.reads oe10) (by omega) (HHE.out.below (hB10.mono hB) h0)).mono ?_
        rintro e w11 ⟨rfl, hb11⟩
        rw [evalV_form, HV2.out]
        simp only [Option.getD_some, Option.isSome_some]
        have hB11 := hB10.trans (hb11.mono s10)
        have s11 := hB11.size
        have om11 := own_below' om10 hb11
        have os11 := own_below' os10 hb11
        clear om10 os10 oe10 hb11
        go_wp2_with fail
        refine (implOff_any w11 w11.heap.size _ Q2 cs q2 T pv (by omega) (Nat.le_refl _) (OwnT.reads os11) (by omega) (HHE.out.below (hB11.mono hB) h0)).mono ?_
        rintro e w12 ⟨rfl, hb12⟩
        rw [HO1.out]
        have hB12 := hB11.trans (hb12.mono s11)
        have s12 := hB12.size
        have om12 := own_below' om11 hb12
        clear om11 os11 hb12
        go_wp2_with fail
        refine (implOff_any w12 w12.heap.size _ M cap2 l2 T pv (by omega) (Nat.le_refl _) (OwnT.reads om12) (by omega) (HHE.out.below (hB12.mono hB) h0)).mono ?_
        rintro e w13 ⟨rfl, hb13⟩
        rw [HO2.out]
        have HB13 := Lib.hid (hB12.trans (hb13.mono s12))
        clear om12 hb13
        go_wp2
        go_ret
        exact ⟨rfl, HB13.out⟩
    | some q =>
      obtain ⟨q1, q24, hlA, hlB, hlQ⟩ := joinR_len2 hR
      have hxv : Lv.eval env l = some x := by obtain ⟨v, hv⟩ := eval_some (env := env) hlA; have h2 := HX.out; rw [hv] at h2; simp at h2; rw [hv, h2]
      have hyv : Lv.eval env l2 = some y := by obtain ⟨v, hv⟩ := eval_some (env := env) hlB; have h2 := HY.out; rw [hv] at h2; simp at h2; rw [hv, h2]
      obtain ⟨hop, _, hvq⟩ := eval_join hR hxv hyv
      have HVQ : Hid (evalR env q = some (if op = 3 ∧ y = 0 then 0 else max x y)) := by show _ = _; rw [evalR_ok (env5 HE5.out HEB.out), hvq]
      rw [hR] at oj9
      simp only [Option.getD_some, Option.isSome_some] at oj9 ⊢
      obtain ⟨Q, hQ⟩ : ∃ Q, q.length = Q := ⟨_, rfl⟩
      rw [hQ] at oj9 q1 q24 ⊢
      clear hR hxv hyv hvq hlA hlB hlQ hQ
      go_wp2_with fail
      refine (levelEval_any w9 w9.heap.size _ _ Q c5 5 capE env q T pv (by omega) (Nat.le_refl _) (OwnT.reads oj9) (by omega) (OwnI.reads oe9) (by omega) (HHE.out.below (hB9.mono hB) h0)).mono ?_
      rintro e w10 ⟨rfl, hb10⟩
      rw [evalV_form, HVQ.out]
      simp only [Option.getD_some, Option.isSome_some]
      have hB10 := hB9.trans (hb10.mono s9)
      have s10 := hB10.size
      have om10 := own_below' om9 hb10
      have oe10 := own_below' oe9 hb10
      clear om9 oe9 oj9 hb10 HVQ
      rcases hop with rfl | rfl
      · rw [if_neg (by omega)]
        by_cases hxy : x < y
        · rw [show max x y = y by omega]
          go_wp2_with fail
          refine (lawPick_any w10 B A n c 5 4 (HHB.out.below (hB10.mono hB)) hn (by omega) (by omega)).mono ?_
          rintro e w' ⟨r, rfl, hr, rfl⟩
          have hr4 : r < 4 := by omega
          clear hr
          go_wp2_with fail
          refine (implSucc_any w10 w10.heap.size _ M cap2 l2 (r : Int) T pv (by omega) (Nat.le_refl _) (OwnT.reads om10) (by omega) (HHE.out.below (hB10.mono hB) h0)).mono ?_
          rintro e w11 ⟨As, cs, rfl, os11, hb11⟩
          have hB11 := hB10.trans (hb11.mono s10)
          have s11 := hB11.size
          have om11 := own_below' om10 hb11
          have oe11 := own_below' oe10 hb11
          clear om10 oe10 hb11
          cases hS : succR l2 (r : Int) with
          | none =>
            have hns := succR_none hS
            rw [HML.out] at hns
            simp only [Option.getD_none, Option.isSome_none, List.length_nil]
            clear hS os11 oe11
            by_cases hlong : 24 < (M : Int) + (r : Int)
            · clear hns om11
              go_wp2
              go_ret
              exact ⟨rfl, hB11⟩
            · have HLO : Hid (Lv.levelOk l2 = false) := by rcases hns with h | h; exact absurd h hlong; exact h
              have dl : decide (24 < (M : Int) + (r : Int)) = false := by simp; omega
              clear hns hlong
              go_wp2_with fail
              refine (specOk_any w11 w11.heap.size _ M cap2 l2 (Nat.le_refl _) (OwnT.reads om11) (by omega)).mono ?_
              rintro e w12 ⟨rfl, hb12⟩
              rw [HLO.out]
              have HB12 := Lib.hid (hB11.trans (hb12.mono s11))
              clear hb12 om11
              go_wp2
              go_ret
              exact ⟨rfl, HB12.out⟩
          | some q2 =>
            have hyv : Lv.eval env l2 = some y := by
              have hlk : Lv.levelOk l2 = true := by unfold succR at hS; split at hS; (rename_i hk; exact hk.1); cases hS
              obtain ⟨v, hv⟩ := eval_some (env := env) hlk
              have h2 := HY.out; rw [hv] at h2; simp at h2; rw [hv, h2]
            obtain ⟨hlb, hlq, hvq, hsq⟩ := eval_succ hS hyv
            have hqn := ok_len hlq rfl
            rw [hS] at os11
            simp only [Option.getD_some, Option.isSome_some] at os11 ⊢
            obtain ⟨Q2, hQ2⟩ : ∃ Q2, q2.length = Q2 := ⟨_, rfl⟩
            rw [hQ2] at os11 hqn ⊢
            obtain ⟨hq1, hq24⟩ := hqn
            have sbd := succs_bd l2
            have hM24 : succs l2 ≤ 24 := by have := sbd.2; rw [HML.out] at this; omega
            have hM0 := sbd.1
            have HV2 : Hid (evalR env q2 = some (y + (r : Int))) := by show _ = _; rw [evalR_ok (env5 HE5.out HEB.out), hvq]
            have HO1 : Hid (offR q2 = succs l2 + (r : Int)) := by show _ = _; rw [offR, if_pos hlq, hsq]
            have HO2 : Hid (offR l2 = succs l2) := by show _ = _; rw [offR, if_pos hlb]
            generalize succs l2 = sv at HO1 HO2 hM24 hM0
            clear hS hyv hlb hlq hvq hsq hQ2 sbd
            go_wp2_with fail
            refine (levelEval_any w11 w11.heap.size _ _ Q2 cs 5 capE env q2 T pv (by omega) (Nat.le_refl _) (OwnT.reads os11) (by omega) (OwnI.reads oe11) (by omega) (HHE.out.below (hB11.mono hB) h0)).mono ?_
            rintro e w12 ⟨rfl, hb12⟩
            rw [evalV_form, HV2.out]
            simp only [Option.getD_some, Option.isSome_some]
            have hB12 := hB11.trans (hb12.mono s11)
            have s12 := hB12.size
            have om12 := own_below' om11 hb12
            have os12 := own_below' os11 hb12
            clear om11 os11 oe11 hb12
            go_wp2_with fail
            refine (implOff_any w12 w12.heap.size _ Q2 cs q2 T pv (by omega) (Nat.le_refl _) (OwnT.reads os12) (by omega) (HHE.out.below (hB12.mono hB) h0)).mono ?_
            rintro e w13 ⟨rfl, hb13⟩
            rw [HO1.out]
            have hB13 := hB12.trans (hb13.mono s12)
            have s13 := hB13.size
            have om13 := own_below' om12 hb13
            clear om12 os12 hb13
            go_wp2_with fail
            refine (implOff_any w13 w13.heap.size _ M cap2 l2 T pv (by omega) (Nat.le_refl _) (OwnT.reads om13) (by omega) (HHE.out.below (hB13.mono hB) h0)).mono ?_
            rintro e w14 ⟨rfl, hb14⟩
            rw [HO2.out]
            have HB14 := Lib.hid (hB13.trans (hb14.mono s13))
            clear om13 hb14
            go_wp2
            go_ret
            exact ⟨rfl, HB14.out⟩
        · rw [show max x y = x by omega]
          have hxy' : y ≤ x := by omega
          clear hxy
          go_wp2_with fail
          refine (lawPick_any w10 B A n c 5 4 (HHB.out.below (hB10.mono hB)) hn (by omega) (by omega)).mono ?_
          rintro e w' ⟨r, rfl, hr, rfl⟩
          have hr4 : r < 4 := by omega
          clear hr
          go_wp2_with fail
          refine (implSucc_any w10 w10.heap.size _ M cap2 l2 (r : Int) T pv (by omega) (Nat.le_refl _) (OwnT.reads om10) (by omega) (HHE.out.below (hB10.mono hB) h0)).mono ?_
          rintro e w11 ⟨As, cs, rfl, os11, hb11⟩
          have hB11 := hB10.trans (hb11.mono s10)
          have s11 := hB11.size
          have om11 := own_below' om10 hb11
          have oe11 := own_below' oe10 hb11
          clear om10 oe10 hb11
          cases hS : succR l2 (r : Int) with
          | none =>
            have hns := succR_none hS
            rw [HML.out] at hns
            simp only [Option.getD_none, Option.isSome_none, List.length_nil]
            clear hS os11 oe11
            by_cases hlong : 24 < (M : Int) + (r : Int)
            · clear hns om11
              go_wp2
              go_ret
              exact ⟨rfl, hB11⟩
            · have HLO : Hid (Lv.levelOk l2 = false) := by rcases hns with h | h; exact absurd h hlong; exact h
              have dl : decide (24 < (M : Int) + (r : Int)) = false := by simp; omega
              clear hns hlong
              go_wp2_with fail
              refine (specOk_any w11 w11.heap.size _ M cap2 l2 (Nat.le_refl _) (OwnT.reads om11) (by omega)).mono ?_
              rintro e w12 ⟨rfl, hb12⟩
              rw [HLO.out]
              have HB12 := Lib.hid (hB11.trans (hb12.mono s11))
              clear hb12 om11
              go_wp2
              go_ret
              exact ⟨rfl, HB12.out⟩
          | some q2 =>
            have hyv : Lv.eval env l2 = some y := by
              have hlk : Lv.levelOk l2 = true := by unfold succR at hS; split at hS; (rename_i hk; exact hk.1); cases hS
              obtain ⟨v, hv⟩ := eval_some (env := env) hlk
              have h2 := HY.out; rw [hv] at h2; simp at h2; rw [hv, h2]
            obtain ⟨hlb, hlq, hvq, hsq⟩ := eval_succ hS hyv
            have hqn := ok_len hlq rfl
            rw [hS] at os11
            simp only [Option.getD_some, Option.isSome_some] at os11 ⊢
            obtain ⟨Q2, hQ2⟩ : ∃ Q2, q2.length = Q2 := ⟨_, rfl⟩
            rw [hQ2] at os11 hqn ⊢
            obtain ⟨hq1, hq24⟩ := hqn
            have sbd := succs_bd l2
            have hM24 : succs l2 ≤ 24 := by have := sbd.2; rw [HML.out] at this; omega
            have hM0 := sbd.1
            have HV2 : Hid (evalR env q2 = some (y + (r : Int))) := by show _ = _; rw [evalR_ok (env5 HE5.out HEB.out), hvq]
            have HO1 : Hid (offR q2 = succs l2 + (r : Int)) := by show _ = _; rw [offR, if_pos hlq, hsq]
            have HO2 : Hid (offR l2 = succs l2) := by show _ = _; rw [offR, if_pos hlb]
            generalize succs l2 = sv at HO1 HO2 hM24 hM0
            clear hS hyv hlb hlq hvq hsq hQ2 sbd
            go_wp2_with fail
            refine (levelEval_any w11 w11.heap.size _ _ Q2 cs 5 capE env q2 T pv (by omega) (Nat.le_refl _) (OwnT.reads os11) (by omega) (OwnI.reads oe11) (by omega) (HHE.out.below (hB11.mono hB) h0)).mono ?_
            rintro e w12 ⟨rfl, hb12⟩
            rw [evalV_form, HV2.out]
            simp only [Option.getD_some, Option.isSome_some]
            have hB12 := hB11.trans (hb12.mono s11)
            have s12 := hB12.size
            have om12 := own_below' om11 hb12
            have os12 := own_below' os11 hb12
            clear om11 os11 oe11 hb12
            go_wp2_with fail
            refine (implOff_any w12 w12.heap.size _ Q2 cs q2 T pv (by omega) (Nat.le_refl _) (OwnT.reads os12) (by omega) (HHE.out.below (hB12.mono hB) h0)).mono ?_
            rintro e w13 ⟨rfl, hb13⟩
            rw [HO1.out]
            have hB13 := hB12.trans (hb13.mono s12)
            have s13 := hB13.size
            have om13 := own_below' om12 hb13
            clear om12 os12 hb13
            go_wp2_with fail
            refine (implOff_any w13 w13.heap.size _ M cap2 l2 T pv (by omega) (Nat.le_refl _) (OwnT.reads om13) (by omega) (HHE.out.below (hB13.mono hB) h0)).mono ?_
            rintro e w14 ⟨rfl, hb14⟩
            rw [HO2.out]
            have HB14 := Lib.hid (hB13.trans (hb14.mono s13))
            clear om13 hb14
            go_wp2
            go_ret
            exact ⟨rfl, HB14.out⟩
      · by_cases hy0 : y = 0
        · rw [if_pos ⟨rfl, hy0⟩]
          have dy : (y == 0) = true := by simpa using hy0
          have dyp : decide (0 < y) = false := by simp; omega
          clear hy0
          go_wp2_with fail
          refine (lawPick_any w10 B A n c 5 4 (HHB.out.below (hB10.mono hB)) hn (by omega) (by omega)).mono ?_
          rintro e w' ⟨r, rfl, hr, rfl⟩
          have hr4 : r < 4 := by omega
          clear hr
          go_wp2_with fail
          refine (implSucc_any w10 w10.heap.size _ M cap2 l2 (r : Int) T pv (by omega) (Nat.le_refl _) (OwnT.reads om10) (by omega) (HHE.out.below (hB10.mono hB) h0)).mono ?_
          rintro e w11 ⟨As, cs, rfl, os11, hb11⟩
          have hB11 := hB10.trans (hb11.mono s10)
          have s11 := hB11.size
          have om11 := own_below' om10 hb11
          have oe11 := own_below' oe10 hb11
          clear om10 oe10 hb11
          cases hS : succR l2 (r : Int) with
          | none =>
            have hns := succR_none hS
            rw [HML.out] at hns
            simp only [Option.getD_none, Option.isSome_none, List.length_nil]
            clear hS os11 oe11
            by_cases hlong : 24 < (M : Int) + (r : Int)
            · clear hns om11
              go_wp2
              go_ret
              exact ⟨rfl, hB11⟩
            · have HLO : Hid (Lv.levelOk l2 = false) := by rcases hns with h | h; exact absurd h hlong; exact h
              have dl : decide (24 < (M : Int) + (r : Int)) = false := by simp; omega
              clear hns hlong
              go_wp2_with fail
              refine (specOk_any w11 w11.heap.size _ M cap2 l2 (Nat.le_refl _) (OwnT.reads om11) (by omega)).mono ?_
              rintro e w12 ⟨rfl, hb12⟩
              rw [HLO.out]
              have HB12 := Lib.hid (hB11.trans (hb12.mono s11))
              clear hb12 om11
              go_wp2
              go_ret
              exact ⟨rfl, HB12.out⟩
          | some q2 =>
            have hyv : Lv.eval env l2 = some y := by
              have hlk : Lv.levelOk l2 = true := by unfold succR at hS; split at hS; (rename_i hk; exact hk.1); cases hS
              obtain ⟨v, hv⟩ := eval_some (env := env) hlk
              have h2 := HY.out; rw [hv] at h2; simp at h2; rw [hv, h2]
            obtain ⟨hlb, hlq, hvq, hsq⟩ := eval_succ hS hyv
            have hqn := ok_len hlq rfl
            rw [hS] at os11
            simp only [Option.getD_some, Option.isSome_some] at os11 ⊢
            obtain ⟨Q2, hQ2⟩ : ∃ Q2, q2.length = Q2 := ⟨_, rfl⟩
            rw [hQ2] at os11 hqn ⊢
            obtain ⟨hq1, hq24⟩ := hqn
            have sbd := succs_bd l2
            have hM24 : succs l2 ≤ 24 := by have := sbd.2; rw [HML.out] at this; omega
            have hM0 := sbd.1
            have HV2 : Hid (evalR env q2 = some (y + (r : Int))) := by show _ = _; rw [evalR_ok (env5 HE5.out HEB.out), hvq]
            have HO1 : Hid (offR q2 = succs l2 + (r : Int)) := by show _ = _; rw [offR, if_pos hlq, hsq]
            have HO2 : Hid (offR l2 = succs l2) := by show _ = _; rw [offR, if_pos hlb]
            generalize succs l2 = sv at HO1 HO2 hM24 hM0
            clear hS hyv hlb hlq hvq hsq hQ2 sbd
            go_wp2_with fail
            refine (levelEval_any w11 w11.heap.size _ _ Q2 cs 5 capE env q2 T pv (by omega) (Nat.le_refl _) (OwnT.reads os11) (by omega) (OwnI.reads oe11) (by omega) (HHE.out.below (hB11.mono hB) h0)).mono ?_
            rintro e w12 ⟨rfl, hb12⟩
            rw [evalV_form, HV2.out]
            simp only [Option.getD_some, Option.isSome_some]
            have hB12 := hB11.trans (hb12.mono s11)
            have s12 := hB12.size
            have om12 := own_below' om11 hb12
            have os12 := own_below' os11 hb12
            clear om11 os11 oe11 hb12
            go_wp2_with fail
            refine (implOff_any w12 w12.heap.size _ Q2 cs q2 T pv (by omega) (Nat.le_refl _) (OwnT.reads os12) (by omega) (HHE.out.below (hB12.mono hB) h0)).mono ?_
            rintro e w13 ⟨rfl, hb13⟩
            rw [HO1.out]
            have hB13 := hB12.trans (hb13.mono s12)
            have s13 := hB13.size
            have om13 := own_below' om12 hb13
            clear om12 os12 hb13
            go_wp2_with fail
            refine (implOff_any w13 w13.heap.size _ M cap2 l2 T pv (by omega) (Nat.le_refl _) (OwnT.reads om13) (by omega) (HHE.out.below (hB13.mono hB) h0)).mono ?_
            rintro e w14 ⟨rfl, hb14⟩
            rw [HO2.out]
            have HB14 := Lib.hid (hB13.trans (hb14.mono s13))
            clear om13 hb14
            go_wp2
            go_ret
            exact ⟨rfl, HB14.out⟩
        · rw [if_neg (fun h => hy0 h.2)]
          have dy : (y == 0) = false := by simpa using hy0
          have hyp : 0 < y := by omega
          clear hy0
          by_cases hxy : x < y
          · rw [show max x y = y by omega]
            go_wp2_with fail
            refine (lawPick_any w10 B A n c 5 4 (HHB.out.below (hB10.mono hB)) hn (by omega) (by omega)).mono ?_
            rintro e w' ⟨r, rfl, hr, rfl⟩
            have hr4 : r < 4 := by omega
            clear hr
            go_wp2_with fail
            refine (implSucc_any w10 w10.heap.size _ M cap2 l2 (r : Int) T pv (by omega) (Nat.le_refl _) (OwnT.reads om10) (by omega) (HHE.out.below (hB10.mono hB) h0)).mono ?_
            rintro e w11 ⟨As, cs, rfl, os11, hb11⟩
            have hB11 := hB10.trans (hb11.mono s10)
            have s11 := hB11.size
            have om11 := own_below' om10 hb11
            have oe11 := own_below' oe10 hb11
            clear om10 oe10 hb11
            cases hS : succR l2 (r : Int) with
            | none =>
              have hns := succR_none hS
              rw [HML.out] at hns
              simp only [Option.getD_none, Option.isSome_none, List.length_nil]
              clear hS os11 oe11
              by_cases hlong : 24 < (M : Int) + (r : Int)
              · clear hns om11
                go_wp2
                go_ret
                exact ⟨rfl, hB11⟩
              · have HLO : Hid (Lv.levelOk l2 = false) := by rcases hns with h | h; exact absurd h hlong; exact h
                have dl : decide (24 < (M : Int) + (r : Int)) = false := by simp; omega
                clear hns hlong
                go_wp2_with fail
                refine (specOk_any w11 w11.heap.size _ M cap2 l2 (Nat.le_refl _) (OwnT.reads om11) (by omega)).mono ?_
                rintro e w12 ⟨rfl, hb12⟩
                rw [HLO.out]
                have HB12 := Lib.hid (hB11.trans (hb12.mono s11))
                clear hb12 om11
                go_wp2
                go_ret
                exact ⟨rfl, HB12.out⟩
            | some q2 =>
              have hyv : Lv.eval env l2 = some y := by
                have hlk : Lv.levelOk l2 = true := by unfold succR at hS; split at hS; (rename_i hk; exact hk.1); cases hS
                obtain ⟨v, hv⟩ := eval_some (env := env) hlk
                have h2 := HY.out; rw [hv] at h2; simp at h2; rw [hv, h2]
              obtain ⟨hlb, hlq, hvq, hsq⟩ := eval_succ hS hyv
              have hqn := ok_len hlq rfl
              rw [hS] at os11
              simp only [Option.getD_some, Option.isSome_some] at os11 ⊢
              obtain ⟨Q2, hQ2⟩ : ∃ Q2, q2.length = Q2 := ⟨_, rfl⟩
              rw [hQ2] at os11 hqn ⊢
              obtain ⟨hq1, hq24⟩ := hqn
              have sbd := succs_bd l2
              have hM24 : succs l2 ≤ 24 := by have := sbd.2; rw [HML.out] at this; omega
              have hM0 := sbd.1
              have HV2 : Hid (evalR env q2 = some (y + (r : Int))) := by show _ = _; rw [evalR_ok (env5 HE5.out HEB.out), hvq]
              have HO1 : Hid (offR q2 = succs l2 + (r : Int)) := by show _ = _; rw [offR, if_pos hlq, hsq]
              have HO2 : Hid (offR l2 = succs l2) := by show _ = _; rw [offR, if_pos hlb]
              generalize succs l2 = sv at HO1 HO2 hM24 hM0
              clear hS hyv hlb hlq hvq hsq hQ2 sbd
              go_wp2_with fail
              refine (levelEval_any w11 w11.heap.size _ _ Q2 cs 5 capE env q2 T pv (by omega) (Nat.le_refl _) (OwnT.reads os11) (by omega) (OwnI.reads oe11) (by omega) (HHE.out.below (hB11.mono hB) h0)).mono ?_
              rintro e w12 ⟨rfl, hb12⟩
              rw [evalV_form, HV2.out]
              simp only [Option.getD_some, Option.isSome_some]
              have hB12 := hB11.trans (hb12.mono s11)
              have s12 := hB12.size
              have om12 := own_below' om11 hb12
              have os12 := own_below' os11 hb12
              clear om11 os11 oe11 hb12
              go_wp2_with fail
              refine (implOff_any w12 w12.heap.size _ Q2 cs q2 T pv (by omega) (Nat.le_refl _) (OwnT.reads os12) (by omega) (HHE.out.below (hB12.mono hB) h0)).mono ?_
              rintro e w13 ⟨rfl, hb13⟩
              rw [HO1.out]
              have hB13 := hB12.trans (hb13.mono s12)
              have s13 := hB13.size
              have om13 := own_below' om12 hb13
              clear om12 os12 hb13
              go_wp2_with fail
              refine (implOff_any w13 w13.heap.size _ M cap2 l2 T pv (by omega) (Nat.le_refl _) (OwnT.reads om13) (by omega) (HHE.out.below (hB13.mono hB) h0)).mono ?_
              rintro e w14 ⟨rfl, hb14⟩
              rw [HO2.out]
              have HB14 := Lib.hid (hB13.trans (hb14.mono s13))
              clear om13 hb14
              go_wp2
              go_ret
              exact ⟨rfl, HB14.out⟩
          · rw [show max x y = x by omega]
            have hxy' : y ≤ x := by omega
            clear hxy
            go_wp2_with fail
            refine (lawPick_any w10 B A n c 5 4 (HHB.out.below (hB10.mono hB)) hn (by omega) (by omega)).mono ?_
            rintro e w' ⟨r, rfl, hr, rfl⟩
            have hr4 : r < 4 := by omega
            clear hr
            go_wp2_with fail
            refine (implSucc_any w10 w10.heap.size _ M cap2 l2 (r : Int) T pv (by omega) (Nat.le_refl _) (OwnT.reads om10) (by omega) (HHE.out.below (hB10.mono hB) h0)).mono ?_
            rintro e w11 ⟨As, cs, rfl, os11, hb11⟩
            have hB11 := hB10.trans (hb11.mono s10)
            have s11 := hB11.size
            have om11 := own_below' om10 hb11
            have oe11 := own_below' oe10 hb11
            clear om10 oe10 hb11
            cases hS : succR l2 (r : Int) with
            | none =>
              have hns := succR_none hS
              rw [HML.out] at hns
              simp only [Option.getD_none, Option.isSome_none, List.length_nil]
              clear hS os11 oe11
              by_cases hlong : 24 < (M : Int) + (r : Int)
              · clear hns om11
                go_wp2
                go_ret
                exact ⟨rfl, hB11⟩
              · have HLO : Hid (Lv.levelOk l2 = false) := by rcases hns with h | h; exact absurd h hlong; exact h
                have dl : decide (24 < (M : Int) + (r : Int)) = false := by simp; omega
                clear hns hlong
                go_wp2_with fail
                refine (specOk_any w11 w11.heap.size _ M cap2 l2 (Nat.le_refl _) (OwnT.reads om11) (by omega)).mono ?_
                rintro e w12 ⟨rfl, hb12⟩
                rw [HLO.out]
                have HB12 := Lib.hid (hB11.trans (hb12.mono s11))
                clear hb12 om11
                go_wp2
                go_ret
                exact ⟨rfl, HB12.out⟩
            | some q2 =>
              have hyv : Lv.eval env l2 = some y := by
                have hlk : Lv.levelOk l2 = true := by unfold succR at hS; split at hS; (rename_i hk; exact hk.1); cases hS
                obtain ⟨v, hv⟩ := eval_some (env := env) hlk
                have h2 := HY.out; rw [hv] at h2; simp at h2; rw [hv, h2]
              obtain ⟨hlb, hlq, hvq, hsq⟩ := eval_succ hS hyv
              have hqn := ok_len hlq rfl
              rw [hS] at os11
              simp only [Option.getD_some, Option.isSome_some] at os11 ⊢
              obtain ⟨Q2, hQ2⟩ : ∃ Q2, q2.length = Q2 := ⟨_, rfl⟩
              rw [hQ2] at os11 hqn ⊢
              obtain ⟨hq1, hq24⟩ := hqn
              have sbd := succs_bd l2
              have hM24 : succs l2 ≤ 24 := by have := sbd.2; rw [HML.out] at this; omega
              have hM0 := sbd.1
              have HV2 : Hid (evalR env q2 = some (y + (r : Int))) := by show _ = _; rw [evalR_ok (env5 HE5.out HEB.out), hvq]
              have HO1 : Hid (offR q2 = succs l2 + (r : Int)) := by show _ = _; rw [offR, if_pos hlq, hsq]
              have HO2 : Hid (offR l2 = succs l2) := by show _ = _; rw [offR, if_pos hlb]
              generalize succs l2 = sv at HO1 HO2 hM24 hM0
              clear hS hyv hlb hlq hvq hsq hQ2 sbd
              go_wp2_with fail
              refine (levelEval_any w11 w11.heap.size _ _ Q2 cs 5 capE env q2 T pv (by omega) (Nat.le_refl _) (OwnT.reads os11) (by omega) (OwnI.reads oe11) (by omega) (HHE.out.below (hB11.mono hB) h0)).mono ?_
              rintro e w12 ⟨rfl, hb12⟩
              rw [evalV_form, HV2.out]
              simp only [Option.getD_some, Option.isSome_some]
              have hB12 := hB11.trans (hb12.mono s11)
              have s12 := hB12.size
              have om12 := own_below' om11 hb12
              have os12 := own_below' os11 hb12
              clear om11 os11 oe11 hb12
              go_wp2_with fail
              refine (implOff_any w12 w12.heap.size _ Q2 cs q2 T pv (by omega) (Nat.le_refl _) (OwnT.reads os12) (by omega) (HHE.out.below (hB12.mono hB) h0)).mono ?_
              rintro e w13 ⟨rfl, hb13⟩
              rw [HO1.out]
              have hB13 := hB12.trans (hb13.mono s12)
              have s13 := hB13.size
              have om13 := own_below' om12 hb13
              clear om12 os12 hb13
              go_wp2_with fail
              refine (implOff_any w13 w13.heap.size _ M cap2 l2 T pv (by omega) (Nat.le_refl _) (OwnT.reads om13) (by omega) (HHE.out.below (hB13.mono hB) h0)).mono ?_
              rintro e w14 ⟨rfl, hb14⟩
              rw [HO2.out]
              have HB14 := Lib.hid (hB13.trans (hb14.mono s13))
              clear om13 hb14
              go_wp2
              go_ret
              exact ⟨rfl, HB14.out⟩
end Go.Proofs.YtgbdojenenfgfaaDoor
