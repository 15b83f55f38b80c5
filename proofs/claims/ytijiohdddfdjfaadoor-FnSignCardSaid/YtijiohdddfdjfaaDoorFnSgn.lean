/- The law FnSign: the walk. -/
import Derived.Test.YtijiohdddfdjfaaDoorSgDraw
import Derived.Test.YtijiohdddfdjfaaDoorSgMath2
import Derived.Test.YtijiohdddfdjfaaDoorCls
import Derived.Test.YtijiohdddfdjfaaDoorFnMono
namespace Go.Proofs.YtijiohdddfdjfaaDoor
open Go.RowKit

set_option maxRecDepth 100000 in
set_option maxHeartbeats 8000000 in
theorem fnSign_any (w : World) (B : Nat) (A : Option Addr) (n c : Nat) (T : TypeId) (pv : Value) (h0 : 0 < B) (hB : B ≤ w.heap.size)
    (hb : BytR w B A n) (hE : ErrAt w T pv) :
    Calls Tryd.prog 3 #[.slice A n c] w fun e w' => e = .returned (.bool true) ∧ Below w.heap.size w w' := by
  by_cases hbig : 1048576 < (n : Int)
  · go_enter Tryd.func3, Tryd.ntmps3
    go_wp2_with fail
    refine (big_any w A n c).mono ?_
    rintro e w' ⟨rfl, rfl⟩
    rw [decide_eq_true (by omega)]
    go_wp2
    go_ret
    exact ⟨rfl, Below.refl _ _⟩
  · have hn : n ≤ 1048576 := by omega
    go_enter Tryd.func3, Tryd.ntmps3
    go_wp2_with fail
    refine (big_any w A n c).mono ?_
    rintro e w' ⟨rfl, rfl⟩
    rw [decide_eq_false (by omega)]
    go_wp2_with fail
    refine (drawLevelSign_any w B A n c hB hb hn).mono ?_
    rintro e w5 ⟨g, cap, l, s0, rfl, hl1, hl25, ol5, hB5⟩
    have s5 := hB5.size
    obtain ⟨L, hL⟩ : ∃ L, l.length = L := ⟨_, rfl⟩
    rw [hL] at hl1 hl25 ol5 ⊢
    have be5 := hb.below (hB5.mono hB)
    go_wp2_with fail
    refine (envs_any w5 B A n c 3 3 (by omega) be5 hn (by omega) (by omega)).mono ?_
    rintro e w6 ⟨g1, cap1, env, rfl, h15, h1e, o16, hb6⟩
    have hB6 := hB5.trans (hb6.mono s5)
    have s6 := hB6.size
    have hok := envOk_of h15 h1e (by omega)
    have hsg : Sg.sgR env = Sg.bits env := by unfold Sg.sgR; rw [if_pos hok]
    have HSG := Lib.hid hsg
    have HOK := Lib.hid hok
    have HL6 := Lib.hid (own_below' ol5 hb6)
    have HE6 := Lib.hid (OwnI.reads o16)
    have HB6 := Lib.hid hB6
    have HEE := Lib.hid (hE.below (hB6.mono hB) h0)
    have hsn := Sg.bits_nonneg env
    have H5 := Lib.hid h15
    clear ol5 hb6 be5 hB6 hB5 hok hsg hE hb h1e h15
    go_wp2_with fail
    refine (implSignOf_any w6 w6.heap.size _ 5 cap1 env HE6.out (by omega)).mono ?_
    rintro e w7 ⟨rfl, rfl⟩
    rw [HSG.out]
    go_wp2_with fail
    refine (specSignOf_any w7 w7.heap.size _ 5 cap1 env HE6.out (by omega)).mono ?_
    rintro e w8 ⟨rfl, rfl⟩
    rw [HSG.out]
    have HIS : Hid (∀ k : Nat, k < 5 → Sg.has (Sg.bits env) k = decide (0 < env.getD k 0)) := fun k hk => Sg.bits_has H5.out k hk
    obtain ⟨bs, hbs⟩ : ∃ bs, Sg.bits env = bs := ⟨_, rfl⟩
    rw [hbs] at hsn HIS ⊢
    have HBS := Lib.hid hbs
    have hne : (bs != bs) = false := by simp
    have hlt0 : ¬ (bs < 0) := by omega
    clear hbs HSG
    go_wp2
    go_loopw [7] (fun i wr => ∃ k : Nat, k ≤ 5 ∧ i = .int .i64 k ∧ Below w8.heap.size w8 wr) (fun i _ => 5 - (intOf i).toNat)
    case atStart => exact ⟨0, by omega, rfl, Below.refl _ _⟩
    case round =>
      obtain ⟨k, hk, rfl, hbel⟩ := hrel
      by_cases hlt : k < 5
      · have hlt' : (k : Int) < 5 := by omega
        obtain ⟨b, off, e, hbb, hc⟩ := HE6.out.2 (by omega)
        injection e with e
        injection e with e1 e2
        subst e1; subst e2
        have hcell := hc k hlt
        rw [Nat.zero_add] at hcell
        have hbr : g1 < wr.heap.size := by have := hbel.size; omega
        have k1 : ∀ d : Later wr, d.out.cell? ⟨g1, k, none⟩ = some (.int .i64 (env.getD k 0)) := fun d => d.cell hbr ((hbel.cell (p := ⟨g1, k, none⟩) (by show g1 < _; omega)).trans hcell)
        have HSH : Hid (∀ d : Later wr, Calls Tryd.prog 14 #[.int .i64 bs, .int .i64 (k : Int)] d.out fun e w'' => e = .returned (.bool (decide (0 < env.getD k 0))) ∧ ∃ d' : Later wr, w'' = d'.out) := fun d => calls_later_same (by
          have h := implSignHas_any d.out bs k
          rw [HIS.out k hlt] at h
          exact h.mono fun _ _ ⟨h, h'⟩ => ⟨h, h'.symm⟩)
        clear hcell hc
        generalize env.getD k 0 = v at k1 HSH
        have hnv : (decide (0 < v) != decide (0 < v)) = false := by simp
        go_wp2_with fail
        refine region_later (by kernel_rfl) (by kernel_rfl) ?_
        repeat (go_big_quiet_step (exact HSH.out _))
        refine wpQuiet_nil ?_
        intro w1 hb1
        have HB := Lib.hid (hbel.trans (hb1.mono hbel.size))
        clear hb1 k1 HSH
        go_wp2
        go_roundw
        case rel => exact ⟨k + 1, by omega, by go_num, HB.out⟩
        case measure => simp [intOf]; omega
      · obtain rfl : k = 5 := by omega
        have HT := Lib.hid ((OwnT.reads HL6.out).below hbel)
        have HE7 := Lib.hid (HE6.out.below hbel)
        have HEr := Lib.hid (HEE.out.below hbel (by omega))
        have hszr := hbel.size
        have HBR := Lib.hid (HB6.out.trans (hbel.mono s6))
        clear hbel
        go_wp2_with fail
        refine (implLevelSign_any wr w8.heap.size (some ⟨g, 0, none⟩) L cap l bs T pv (by omega) hszr HT.out (by omega) HEr.out).mono ?_
        rintro e w9 ⟨rfl, hb9⟩
        have HB9 := Lib.hid (HBR.out.trans (hb9.mono HBR.out.size))
        have HEV := Lib.hid (levelEval_any w9 w8.heap.size (some ⟨g, 0, none⟩) (some ⟨g1, 0, none⟩) L cap 5 cap1 env l T pv (by omega) (Nat.le_trans hszr hb9.size) (HT.out.below (hb9.mono hszr)) (by omega) (HE7.out.below (hb9.mono hszr)) (by omega) (HEr.out.below (hb9.mono hszr) (by omega)))
        clear hb9
        cases hlo : Lv.levelOk l with
        | false =>
          have hx := lsg_not (env := env) hlo
          rw [HBS.out] at hx
          rw [hx.1] at HEV
          rw [hx.2]
          clear hx
          go_wp2_with fail
          refine HEV.out.mono ?_
          rintro e w10 ⟨rfl, hb10⟩
          have HB10 := Lib.hid (HB9.out.trans (hb10.mono HB9.out.size))
          unfold evalV
          clear hb10
          go_wp2
          go_ret
          exact ⟨rfl, HB10.out⟩
        | true =>
          obtain ⟨v, hv, hx⟩ := lsg_eval HOK.out hlo
          rw [HBS.out] at hx
          rw [hv] at HEV
          rw [hx]
          clear hx hv
          by_cases hv1 : v < 1
          · have hm : min 1 v = v := by omega
            rw [hm]
            clear hm
            go_wp2_with fail
            refine HEV.out.mono ?_
            rintro e w10 ⟨rfl, hb10⟩
            have HB10 := Lib.hid (HB9.out.trans (hb10.mono HB9.out.size))
            unfold evalV
            clear hb10
            go_wp2
            go_ret
            exact ⟨by simp, HB10.out⟩
          · have hm : min 1 v = 1 := by omega
            rw [hm]
            clear hm
            go_wp2_with fail
            refine HEV.out.mono ?_
            rintro e w10 ⟨rfl, hb10⟩
            have HB10 := Lib.hid (HB9.out.trans (hb10.mono HB9.out.size))
            unfold evalV
            clear hb10
            go_wp2
            go_ret
            exact ⟨by simp, HB10.out⟩
end Go.Proofs.YtijiohdddfdjfaaDoor
