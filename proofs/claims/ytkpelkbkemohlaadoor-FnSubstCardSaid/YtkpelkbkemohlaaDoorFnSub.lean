/- The law FnSubst: the walk. -/
import Derived.Test.YtkpelkbkemohlaaDoorDraw3
import Derived.Test.YtkpelkbkemohlaaDoorSubMath
import Derived.Test.YtkpelkbkemohlaaDoorFnMono
import Derived.Test.YtkpelkbkemohlaaDoorSpecSubst
namespace Go.Proofs.YtkpelkbkemohlaaDoor
open Go.RowKit

theorem substR_some {l q : List (Int × Int)} {ls : List (List (Int × Int))} (h : substR l ls = some q) : Lv.levelOk l = true ∧ ls.all Lv.levelOk = true ∧ sub ls l = some q ∧ Lv.levelOk q = true := by
  unfold substR at h
  split at h
  · rename_i hk
    cases hs : sub ls l with
    | none => rw [hs] at h; cases h
    | some a =>
      rw [hs, Option.bind_some] at h
      unfold ifR at h
      split at h
      · rename_i ha
        injection h with h
        subst h
        exact ⟨hk.1, hk.2, rfl, ha⟩
      · cases h
  · cases h
theorem eval_pos {env : List Int} {l : List (Int × Int)} {v : Int} (he : ∀ x ∈ env, 0 ≤ x ∧ x ≤ 5) (hok : Lv.levelOk l = true) (h : Lv.eval env l = some v) : 0 ≤ v ∧ v ≤ 29 := by
  obtain ⟨u, hu⟩ := Lv.run_of_ok (env := env) hok
  obtain ⟨u', _, hl⟩ := run_mono (e1 := env) (e2 := env) (fun i => ⟨(getD_mem he (by omega) i).1, Int.le_refl _⟩) l [] [] [u] trivial hu
  have hv : v = u := by
    unfold Lv.eval at h
    rw [if_pos hok, hu] at h
    simp only at h
    injection h with h
    exact h.symm
  subst hv
  have h1 := eval_bound (b := 5) (by omega) (fun x hx => (he x hx).2) h
  have h2 := (succs_bd l).2
  have h3 := (level_len hok rfl).2
  match u', hl with
  | [_], hl => exact ⟨hl.1, by omega⟩
theorem innerV_bd {env : List Int} {ls : List (List (Int × Int))} (he : ∀ x ∈ env, 0 ≤ x ∧ x ≤ 5) (hall : ls.all Lv.levelOk = true) (p : Nat) : 0 ≤ innerV env ls p ∧ innerV env ls p ≤ 29 := by
  unfold innerV
  split
  · rename_i hp
    have hok := all_get hall hp
    obtain ⟨u, hu⟩ := Lv.run_of_ok (env := env) hok
    have hv : Lv.eval env (ls.getD p []) = some u := by unfold Lv.eval; rw [if_pos hok, hu]
    rw [hv]
    exact eval_pos he hok hv
  · omega

set_option maxRecDepth 100000 in
set_option maxHeartbeats 8000000 in
theorem fnSubst_any (w : World) (B : Nat) (A : Option Addr) (n c : Nat) (T : TypeId) (pv : Value) (h0 : 0 < B) (hB : B ≤ w.heap.size)
    (hb : BytR w B A n) (hE : ErrAt w T pv) :
    Calls Tryd.prog 4 #[.slice A n c] w fun e w' => e = .returned (.bool true) ∧ Below w.heap.size w w' := by
  by_cases hbig : 1048576 < (n : Int)
  · go_enter Tryd.func4, Tryd.ntmps4
    go_wp2_with fail
    refine (big_any w A n c).mono ?_
    rintro e w' ⟨rfl, rfl⟩
    rw [decide_eq_true (by omega)]
    go_wp2
    go_ret
    exact ⟨rfl, Below.refl _ _⟩
  · have hn : n ≤ 1048576 := by omega
    obtain ⟨i0, hi, hz0, hz1, hz2⟩ := info_parts info_int
    go_enter Tryd.func4, Tryd.ntmps4
    go_wp2_with fail
    refine (big_any w A n c).mono ?_
    rintro e w' ⟨rfl, rfl⟩
    rw [decide_eq_false (by omega)]
    go_wp2_with fail
    refine (drawSubst_any w B A n c hB hb hn).mono ?_
    rintro e w1 ⟨g, cap, l, g2, cap2, m, ls, rfl, hl1, hl25, hm6, ol1, oD1, hB1⟩
    have s1 := hB1.size
    have hbk := oD1.bulk (by omega)
    obtain ⟨L, hL⟩ : ∃ L, l.length = L := ⟨_, rfl⟩
    rw [hL] at hl1 hl25 ol1 ⊢
    go_wp2_with fail
    refine (specSubst_any w1 w1.heap.size _ L cap l _ m cap2 ls (Nat.le_refl _) (OwnT.reads ol1) (by omega) oD1.reads hbk).mono ?_
    rintro e w2 ⟨A2, c2, rfl, o2, hb2⟩
    have hB2 := hB1.trans (hb2.mono s1)
    have s2 := hB2.size
    have ol2 := own_below' ol1 hb2
    have oD2 := oD1.below hb2
    clear ol1 oD1 hb2
    go_wp2_with fail
    refine (implSubst_any w2 w2.heap.size _ L cap l _ m cap2 ls T pv (by omega) (Nat.le_refl _) (OwnT.reads ol2) (by omega) oD2.reads hbk (hE.below (hB2.mono hB) h0)).mono ?_
    rintro e w3 ⟨A3, c3, rfl, o3, hb3⟩
    have hB3 := hB2.trans (hb3.mono s2)
    have s3 := hB3.size
    have ol3 := own_below' ol2 hb3
    have oD3 := oD2.below hb3
    have o23 := own_below' o2 hb3
    clear ol2 oD2 o2 hb3
    cases hR : substR l ls with
    | none =>
      rw [hR] at o3 o23
      simp only [Option.getD_none, Option.isSome_none, List.length_nil] at o3 o23 ⊢
      clear hR
      go_wp2_with fail
      refine (sameToks_any w3 w3.heap.size A3 A2 0 c3 c2 [] (Nat.le_refl _) (OwnT.reads o3) (OwnT.reads o23) (by omega)).mono ?_
      rintro e w4 ⟨rfl, hb4⟩
      have hB4 := hB3.trans (hb4.mono s3)
      have s4 := hB4.size
      have o34 := own_below' o3 hb4
      have o24 := own_below' o23 hb4
      clear o3 o23 ol3 oD3 hb4
      go_wp2_with fail
      refine (sameToks_any w4 w4.heap.size A3 A2 0 c3 c2 [] (Nat.le_refl _) (OwnT.reads o34) (OwnT.reads o24) (by omega)).mono ?_
      rintro e w5 ⟨rfl, hb5⟩
      have HB5 := Lib.hid (hB4.trans (hb5.mono s4))
      clear o34 o24 hb5
      go_wp2
      go_ret
      exact ⟨rfl, HB5.out⟩
    | some q =>
      obtain ⟨hok, hall, hsub, hqok⟩ := substR_some hR
      have hq24 := (level_len hqok rfl).2
      rw [hR] at o3 o23
      simp only [Option.getD_some, Option.isSome_some] at o3 o23 ⊢
      obtain ⟨Q, hQ⟩ : ∃ Q, q.length = Q := ⟨_, rfl⟩
      rw [hQ] at o3 o23 hq24 ⊢
      have HOK := Lib.hid hok
      have HALL := Lib.hid hall
      have HSUB := Lib.hid hsub
      have HQOK := Lib.hid hqok
      clear hR hok hall hsub hqok hQ
      go_wp2_with fail
      refine (sameToks_any w3 w3.heap.size A3 A2 Q c3 c2 q (Nat.le_refl _) (OwnT.reads o3) (OwnT.reads o23) (by omega)).mono ?_
      rintro e w4 ⟨rfl, hb4⟩
      have hB4 := hB3.trans (hb4.mono s3)
      have s4 := hB4.size
      have o34 := own_below' o3 hb4
      have ol4 := own_below' ol3 hb4
      have oD4 := oD3.below hb4
      clear o3 o23 ol3 oD3 hb4
      have be4 := hb.below (hB4.mono hB)
      go_wp2_with fail
      refine (envs_any w4 B A n c 3 5 (by omega) be4 hn (by omega) (by omega)).mono ?_
      rintro e w5 ⟨g1, cap1, env1, rfl, h15, h1e, o15, hb5⟩
      have hB5 := hB4.trans (hb5.mono s4)
      have s5 := hB5.size
      have H35 := Lib.hid (OwnT.reads (own_below' o34 hb5))
      have HL5 := Lib.hid (OwnT.reads (own_below' ol4 hb5))
      have HD5 := Lib.hid (oD4.below hb5).reads
      have H15 := Lib.hid (OwnI.reads o15)
      have HE1 : Hid (∀ x ∈ env1, 0 ≤ x ∧ x ≤ 5) := fun x hx => h1e x hx
      have H1O := Lib.hid (envOk_of h15 h1e (by omega))
      have ho0 : OwnI (w5.alloc (.cells #[] 3)) w5.heap.size (some ⟨w5.heap.size, 0, none⟩) 0 0 [] := World.ownsRow_made w5 #[] 0 (Nat.le_refl _) (by simp [maxLen]) (by simp)
      have HO0 := Lib.hid ho0
      have HB0 := Lib.hid ((Below.refl w5.heap.size w5).alloc (Nat.le_refl _) (.cells #[] 3))
      have HE5 := Lib.hid (hE.below (hB5.mono hB) h0)
      have HB5 := Lib.hid hB5
      have hlsm := (oD4.below hb5).1
      clear o34 ol4 oD4 be4 o15 h1e hb5 ho0 hB5
      go_wp2
      go_loopw [10, 11] (fun v i wr => ∃ (k g3 cap3 : Nat) (inner : List Int), k ≤ 5 ∧ i = .int .i64 k ∧ v = .slice (some ⟨g3, 0, none⟩) k cap3 ∧ inner.length = k ∧ Hid (∀ j, j < k → inner.getD j 0 = innerV env1 ls j) ∧ OwnI wr w5.heap.size (some ⟨g3, 0, none⟩) k cap3 inner ∧ Below w5.heap.size w5 wr) (fun _ i _ => 5 - (intOf i).toNat)
      case atStart => exact ⟨0, _, 0, [], by omega, rfl, rfl, rfl, (fun j hj => absurd hj (by omega)), HO0.out, HB0.out⟩
      case round =>
        obtain ⟨k, g3, cap3, inner, hk, rfl, rfl, hil, hin, hown, hbel⟩ := hrel
        have hszr := hbel.size
        by_cases hk5 : k < 5
        · have hk5' : (k : Int) < 5 := by omega
          have next : ∀ x : Int, x = innerV env1 ls k → Hid (∀ j, j < k + 1 → (inner ++ [x]).getD j 0 = innerV env1 ls j) := by
            intro x hx j hj
            by_cases hjk : j < k
            · rw [List.getD_eq_getElem?_getD, List.getElem?_append_left (by omega), ← List.getD_eq_getElem?_getD]
              exact hin.out j hjk
            · obtain rfl : j = k := by omega
              rw [List.getD_eq_getElem?_getD, List.getElem?_append_right (by omega), hil]
              simpa using hx
          by_cases hkm : k < m
          · have hkm' : (k : Int) < (m : Int) := by omega
            obtain ⟨b, off, hA, hbb, hcc⟩ := (HD5.out.below hbel).2 (by omega)
            injection hA with hA
            injection hA with hA1 hA2
            subst hA1 hA2
            obtain ⟨Ak, nk, ck, x1, t1, _⟩ := hcc k hkm
            rw [Nat.zero_add] at x1
            have hnk : nk ≤ 1048576 := by have h1 := tot_get ls k (by omega); rw [t1.1] at h1; unfold bulk at hbk; omega
            have HT1 := Lib.hid t1
            have HIV : Hid ((evalR env1 (ls.getD k [])).getD 0 = innerV env1 ls k) := by
              show _ = _
              unfold evalR innerV
              rw [if_pos H1O.out, if_pos (by omega)]
            have HEr := Lib.hid (HE5.out.below hbel (by omega))
            clear hcc t1
            go_wp2_with fail
            refine (levelEval_any wr w5.heap.size Ak _ nk ck 5 cap1 env1 (ls.getD k []) T pv (by omega) hszr HT1.out (by omega) (H15.out.below hbel) (by omega) HEr.out).mono ?_
            rintro e w6 ⟨rfl, hb6⟩
            rw [evalV_form, HIV.out]
            have ho6 := own_below' hown hb6
            have hbel6 := hbel.trans (hb6.mono hszr)
            have hs6 := hbel6.size
            obtain ⟨x, hx⟩ : ∃ x, innerV env1 ls k = x := ⟨_, rfl⟩
            have HN := next x hx.symm
            rw [hx]
            clear hown hbel hb6 next HIV HEr HT1 hx
            go_wp2_with (at_builtin; refine wpList_append_own _ rfl (.tmp 78) (.tmp 80) 27 rfl w5.heap.size 3 i0 (.int .i64 0) 1 8 Tryd.underlying27 hi hz0 hz1 hz2 rfl (by decide) (.slice (some ⟨g3, 0, none⟩) k cap3) k (inner.map (Value.int .i64)) rfl (ho6.alloc _) ⟨w6.heap.size, 0, none⟩ 1 1 [.int .i64 x] rfl rfl (cell_one_new _ _ _) (fun u hu => by simp at hu; subst hu; rfl) (by unfold maxLen; omega) (by omega) (by simp; omega) ?_; intro v' w7 hown' hgrow hnil)
            obtain ⟨g4, cap4, rfl⟩ : ∃ g' cap', v' = .slice (some ⟨g', 0, none⟩) (k + 1) cap' := by
              rcases hown'.2 with ⟨h0, _⟩ | ⟨g', cap', _, h0, _⟩
              · have := (hnil.1 h0).1
                cases this
              · exact ⟨g', cap', h0⟩
            have HB7 : Hid (Below w5.heap.size w5 w7) := (hbel6.alloc hs6 _).grown hgrow (by simp; omega) (fun k h => (ho6.lt k h).1)
            have HW : Hid (OwnI w7 w5.heap.size (some ⟨g4, 0, none⟩) (k + 1) cap4 (inner ++ [x])) := by
              show OwnI _ _ _ _ _ _
              simpa [OwnI] using hown'
            clear hown' hgrow hnil ho6 hbel6
            go_wp2
            go_roundw
            case rel => exact ⟨k + 1, g4, cap4, inner ++ [x], by omega, by go_num, rfl, by simp [hil], HN.out, HW.out, HB7.out⟩
            case measure => simp [intOf]; omega
          · have hkm' : ¬ ((k : Int) < (m : Int)) := by omega
            have HN := next 0 (by unfold innerV; rw [if_neg (by omega)])
            clear next
            go_wp2_with (at_builtin; refine wpList_append_own _ rfl (.tmp 78) (.tmp 80) 27 rfl w5.heap.size 3 i0 (.int .i64 0) 1 8 Tryd.underlying27 hi hz0 hz1 hz2 rfl (by decide) (.slice (some ⟨g3, 0, none⟩) k cap3) k (inner.map (Value.int .i64)) rfl (hown.alloc _) ⟨wr.heap.size, 0, none⟩ 1 1 [.int .i64 0] rfl rfl (cell_one_new _ _ _) (fun u hu => by simp at hu; subst hu; rfl) (by unfold maxLen; omega) (by omega) (by simp; omega) ?_; intro v' w7 hown' hgrow hnil)
            obtain ⟨g4, cap4, rfl⟩ : ∃ g' cap', v' = .slice (some ⟨g', 0, none⟩) (k + 1) cap' := by
              rcases hown'.2 with ⟨h0, _⟩ | ⟨g', cap', _, h0, _⟩
              · have := (hnil.1 h0).1
                cases this
              · exact ⟨g', cap', h0⟩
            have HB7 : Hid (Below w5.heap.size w5 w7) := (hbel.alloc hszr _).grown hgrow (by simp; omega) (fun k h => (hown.lt k h).1)
            have HW : Hid (OwnI w7 w5.heap.size (some ⟨g4, 0, none⟩) (k + 1) cap4 (inner ++ [0])) := by
              show OwnI _ _ _ _ _ _
              simpa [OwnI] using hown'
            clear hown' hgrow hnil hown hbel
            go_wp2
            go_roundw
            case rel => exact ⟨k + 1, g4, cap4, inner ++ [0], by omega, by go_num, rfl, by simp [hil], HN.out, HW.out, HB7.out⟩
            case measure => simp [intOf]; omega
        · obtain rfl : k = 5 := by omega
          have hIO : envOk inner = true := envOk_of (m := 29) hil (env_all hil (fun j hj => by rw [hin.out j hj]; exact innerV_bd HE1.out HALL.out j)) (by omega)
          obtain ⟨v, hv1, hv2⟩ := eval_sub (inner := inner) (env := env1) HOK.out HALL.out HQOK.out hin.out HSUB.out
          have H1 : Hid (evalR env1 q = some v) := by show _ = _; unfold evalR; rw [if_pos H1O.out, hv2]
          have H2 : Hid (evalR inner l = some v) := by show _ = _; unfold evalR; rw [if_pos hIO, hv1]
          have hBr := HB5.out.trans (hbel.mono s5)
          have HOI := Lib.hid hown
          have r3 := Lib.hid (H35.out.below hbel)
          have rL := Lib.hid (HL5.out.below hbel)
          have r1 := Lib.hid (H15.out.below hbel)
          have HEr := Lib.hid (HE5.out.below hbel (by omega))
          clear hv1 hv2 hIO hin hown H35 HL5 HD5 H15 HE1 H1O HO0 HB0 HE5 HB5
          go_wp2_with fail
          refine (levelEval_any wr w5.heap.size A3 _ Q c3 5 cap1 env1 q T pv (by omega) hszr r3.out (by omega) r1.out (by omega) HEr.out).mono ?_
          rintro e w6 ⟨rfl, hb6⟩
          rw [H1.out]
          have hB6 := hBr.trans (hb6.mono hBr.size)
          have s6 := hb6.size
          have HOI6 := Lib.hid (OwnI.reads (own_below' HOI.out hb6))
          have rL6 := Lib.hid ((rL.out.below (hb6.mono hszr)).more (B' := w6.heap.size) (by omega))
          have HE6 := Lib.hid (HEr.out.below hb6 (by omega))
          clear HOI rL r3 r1 HEr hb6 hBr
          simp only [evalV]
          go_wp2_with fail
          refine (levelEval_any w6 w6.heap.size _ _ L cap 5 cap3 inner l T pv (by omega) (Nat.le_refl _) rL6.out (by omega) HOI6.out (by omega) HE6.out).mono ?_
          rintro e w7 ⟨rfl, hb7⟩
          rw [H2.out]
          have HB7 := Lib.hid (hB6.trans (hb7.mono hB6.size))
          clear rL6 HOI6 HE6 hb7
          simp only [evalV]
          go_wp2
          go_ret
          exact ⟨ret_bool (by simp), HB7.out⟩
end Go.Proofs.YtkpelkbkemohlaaDoor
