/- The law FnParams: the walk. -/
import Derived.Test.YtkpelkbkemohlaaDoorDraw1
import Derived.Test.YtkpelkbkemohlaaDoorParMath
import Derived.Test.YtkpelkbkemohlaaDoorLvls
namespace Go.Proofs.YtkpelkbkemohlaaDoor
open Go.RowKit

theorem own_not {a b : World} {base g : Nat} {e : TypeId} {size n : Nat} {v : Value} {xs : List Value} (h : a.ownsRow base e size v n xs) (hk : Kp g a b) (hne : ∀ k, v.ownBlock = some k → k ≠ g) : b.ownsRow base e size v n xs :=
  h.kept hk (by
    cases hv : v.ownBlock with
    | none => exact .inl rfl
    | some k =>
      refine .inr (fun he => ?_)
      injection he with he
      exact hne k hv he)
theorem ownI_put {w : World} {base g n c i : Nat} {l : List Int} (h : OwnI w base (some ⟨g, 0, none⟩) n c l) (v : Int) : OwnI (w.setCell ⟨g, i, none⟩ (.int .i64 v)) base (some ⟨g, 0, none⟩) n c (l.set i v) := by
  obtain ⟨hlen, hc⟩ := h
  rcases hc with ⟨h0, _⟩ | ⟨g', cap, cur, hv, hb, hh, hnc, hm, hs, ht⟩
  · cases h0
  · injection hv with hv1 hv2 hv3
    injection hv1 with hv1
    injection hv1 with hv1
    subst hv1 hv3
    have hblk : Blk w g 3 cur := hh
    refine ⟨by simpa using hlen, .inr ⟨g, c, _, rfl, hb, hblk.put i _, hnc, hm, by simp [hs], ?_⟩⟩
    rw [Array.toList_setIfInBounds, List.take_set, ht, List.map_set]
theorem ownI_spot {w : World} {base g n c i : Nat} {l : List Int} (h : OwnI w base (some ⟨g, 0, none⟩) n c l) (hi : i < n) : w.cell? ⟨g, i, none⟩ = some (.int .i64 (l.getD i 0)) ∧ w.frozen? ⟨g, i, none⟩ = false := by
  have hr := OwnI.reads h
  obtain ⟨b, off, hA, hb, hc⟩ := hr.2 (by omega)
  injection hA with hA
  injection hA with hA1 hA2
  subst hA1 hA2
  refine ⟨by have := hc i hi; rwa [Nat.zero_add] at this, ?_⟩
  obtain ⟨_, hcs⟩ := h
  rcases hcs with ⟨h0, _⟩ | ⟨g', cap, cur, hv, _, hh, _⟩
  · cases h0
  · injection hv with hv1 hv2 hv3
    injection hv1 with hv1
    injection hv1 with hv1
    subst hv1
    have hblk : Blk w g 3 cur := hh
    exact hblk.thawed i
theorem set_mem {l : List Int} {i : Nat} {v m : Int} (h : ∀ x ∈ l, 0 ≤ x ∧ x ≤ m) (hv : 0 ≤ v ∧ v ≤ m) : ∀ x ∈ l.set i v, 0 ≤ x ∧ x ≤ m := by
  intro x hx
  rcases List.mem_or_eq_of_mem_set hx with h1 | rfl
  · exact h x h1
  · exact hv
theorem getD_mem {l : List Int} {m : Int} (h : ∀ x ∈ l, 0 ≤ x ∧ x ≤ m) (hm : 0 ≤ m) (i : Nat) : 0 ≤ l.getD i 0 ∧ l.getD i 0 ≤ m := by
  rw [List.getD_eq_getElem?_getD]
  cases hg : l[i]? with
  | none => simpa using hm
  | some x => simpa using h x (List.mem_of_getElem? hg)
theorem envOk_of {env : List Int} {m : Int} (h5 : env.length = 5) (h : ∀ x ∈ env, 0 ≤ x ∧ x ≤ m) (hm : m ≤ 1000) : envOk env = true := by
  simp only [envOk, Bool.and_eq_true, decide_eq_true_eq, List.all_eq_true]
  exact ⟨h5, fun x hx => by have := h x hx; omega⟩
theorem prms_le (l : List (Int × Int)) : (prms l).length ≤ 5 := by
  unfold prms
  split
  · exact prmsTo_len l 5
  · simp

set_option maxRecDepth 100000 in
set_option maxHeartbeats 8000000 in
theorem fnParams_any (w : World) (B : Nat) (A : Option Addr) (n c : Nat) (T : TypeId) (pv : Value) (h0 : 0 < B) (hB : B ≤ w.heap.size)
    (hb : BytR w B A n) (hE : ErrAt w T pv) :
    Calls Tryd.prog 5 #[.slice A n c] w fun e w' => e = .returned (.bool true) ∧ Below w.heap.size w w' := by
  by_cases hbig : 1048576 < (n : Int)
  · go_enter Tryd.func5, Tryd.ntmps5
    go_wp2_with fail
    refine (big_any w A n c).mono ?_
    rintro e w' ⟨rfl, rfl⟩
    rw [decide_eq_true (by omega)]
    go_wp2
    go_ret
    exact ⟨rfl, Below.refl _ _⟩
  · have hn : n ≤ 1048576 := by omega
    go_enter Tryd.func5, Tryd.ntmps5
    go_wp2_with fail
    refine (big_any w A n c).mono ?_
    rintro e w' ⟨rfl, rfl⟩
    rw [decide_eq_false (by omega)]
    go_wp2_with fail
    refine (drawParams_any w B A n c hB hb hn).mono ?_
    rintro e w1 ⟨g, cap, l, rfl, hl1, hl25, ol1, hB1⟩
    have s1 := hB1.size
    have hP5 := prms_le l
    obtain ⟨L, hL⟩ : ∃ L, l.length = L := ⟨_, rfl⟩
    rw [hL] at hl1 hl25 ol1 ⊢
    have rl1 := OwnT.reads ol1
    go_wp2_with fail
    refine (implParams_any w1 w1.heap.size _ L cap l T pv (by omega) (Nat.le_refl _) rl1 (by omega) (hE.below (hB1.mono hB) h0)).mono ?_
    rintro e w2 ⟨A2, c2, rfl, op2, hb2⟩
    have hB2 := hB1.trans (hb2.mono s1)
    have s2 := hB2.size
    have ol2 := own_below' ol1 hb2
    clear rl1 ol1 hb2
    obtain ⟨P, hP⟩ : ∃ P, (prms l).length = P := ⟨_, rfl⟩
    rw [hP] at hP5 op2 ⊢
    go_wp2_with fail
    refine (specParams_any w2 w2.heap.size _ L cap l (Nat.le_refl _) (OwnT.reads ol2) (by omega)).mono ?_
    rintro e w3 ⟨A3, c3, rfl, oq3, hb3⟩
    have hB3 := hB2.trans (hb3.mono s2)
    have s3 := hB3.size
    have ol3 := own_below' ol2 hb3
    have op3 := own_below' op2 hb3
    clear ol2 op2 hb3
    rw [hP] at oq3 ⊢
    go_wp2_with fail
    refine (same_any w3 w3.heap.size A2 A3 P P c2 c3 (prms l) (prms l) (Nat.le_refl _) (OwnI.reads op3) (OwnI.reads oq3) (by omega) (by omega)).mono ?_
    rintro e w4 ⟨rfl, hb4⟩
    rw [decide_eq_true rfl]
    have hB4 := hB3.trans (hb4.mono s3)
    have s4 := hB4.size
    have ol4 := own_below' ol3 hb4
    have op4 := own_below' op3 hb4
    clear ol3 op3 oq3 hb4
    go_wp2_with fail
    refine (specOk_any w4 w4.heap.size _ L cap l (Nat.le_refl _) (OwnT.reads ol4) (by omega)).mono ?_
    rintro e w5 ⟨rfl, hb5⟩
    have hB5 := hB4.trans (hb5.mono s4)
    have s5 := hB5.size
    have ol5 := own_below' ol4 hb5
    have op5 := own_below' op4 hb5
    clear ol4 op4 hb5
    cases hok : Lv.levelOk l with
    | false =>
      clear hok
      go_wp2_with fail
      refine (specParams_any w5 w5.heap.size _ L cap l (Nat.le_refl _) (OwnT.reads ol5) (by omega)).mono ?_
      rintro e w6 ⟨A6, c6, rfl, oq6, hb6⟩
      have hB6 := hB5.trans (hb6.mono s5)
      have s6 := hB6.size
      have op6 := own_below' op5 hb6
      rw [hP] at oq6 ⊢
      clear hb6 op5 ol5
      go_wp2_with fail
      refine (same_any w6 w6.heap.size A2 A6 P P c2 c6 (prms l) (prms l) (Nat.le_refl _) (OwnI.reads op6) (OwnI.reads oq6) (by omega) (by omega)).mono ?_
      rintro e w7 ⟨rfl, hb7⟩
      rw [decide_eq_true rfl]
      have HB7 := Lib.hid (hB6.trans (hb7.mono s6))
      clear op6 oq6 hb7
      go_wp2
      go_ret
      exact ⟨rfl, HB7.out⟩
    | true =>
      have HOK := Lib.hid hok
      clear hok
      have be5 := hb.below (hB5.mono hB)
      go_wp2_with fail
      refine (envs_any w5 B A n c 3 5 (by omega) be5 hn (by omega) (by omega)).mono ?_
      rintro e w6 ⟨g1, cap1, env1, rfl, h15, h1e, o16, hb6⟩
      have hB6 := hB5.trans (hb6.mono s5)
      have s6 := hB6.size
      have ol6 := own_below' ol5 hb6
      have op6 := own_below' op5 hb6
      clear ol5 op5 hb6 be5
      have be6 := hb.below (hB6.mono hB)
      go_wp2_with fail
      refine (envs_any w6 B A n c 11 5 (by omega) be6 hn (by omega) (by omega)).mono ?_
      rintro e w7 ⟨g2, cap2, env2, rfl, h25, h2e, o27, hb7⟩
      have hB7 := hB6.trans (hb7.mono s6)
      have s7 := hB7.size
      have hg2 := (o27.lt g2 rfl).1
      have ip6 := own_in op6
      have il6 := own_in ol6
      have i16 := own_in o16
      have HL7 := Lib.hid (own_below' ol6 hb7)
      have HP7 := Lib.hid (own_below' op6 hb7)
      have H17 := Lib.hid (own_below' o16 hb7)
      have H27 := Lib.hid o27
      have H1E := Lib.hid h1e
      have H2E := Lib.hid h2e
      have HB7 := Lib.hid hB7
      have HPQ := Lib.hid hP
      clear ol6 op6 o16 o27 hb7 be6 h1e h2e hB7 hP
      go_wp2
      go_loopw [7] (fun i wr => ∃ (k : Nat) (env : List Int), k ≤ P ∧ i = .int .i64 k ∧ env.length = 5 ∧ Hid (∀ x ∈ env, 0 ≤ x ∧ x ≤ ((5 : Nat) : Int)) ∧ Hid (∀ j, j < k → env.getD ((prms l).getD j 0).toNat 0 = env1.getD ((prms l).getD j 0).toNat 0) ∧ OwnI wr w6.heap.size (some ⟨g2, 0, none⟩) 5 cap2 env ∧ Kp g2 w7 wr) (fun i _ => P - (intOf i).toNat)
      case atStart => exact ⟨0, env2, Nat.zero_le _, rfl, h25, H2E.out, (fun j hj => absurd hj (by omega)), H27.out, Kp.refl _ _⟩
      case round =>
        obtain ⟨k, env, hk, rfl, h5, hev, hag, hown, hkp⟩ := hrel
        have opr := own_not HP7.out hkp (fun q hq => by have := ip6 q hq; omega)
        have o1r := own_not H17.out hkp (fun q hq => by have := i16 q hq; omega)
        by_cases hlt : k < P
        · have hlt' : (k : Int) < (P : Int) := by omega
          obtain ⟨q, hq5, hq⟩ := prms_get (l := l) (k := k) (by rw [HPQ.out]; exact hlt)
          obtain ⟨gp, hgp⟩ : ∃ gp, A2 = some ⟨gp, 0, none⟩ := by
            rcases opr.2 with ⟨_, h⟩ | ⟨gp, cap, _, h, _⟩
            · omega
            · injection h with h
              exact ⟨gp, h⟩
          subst hgp
          have x1 := (ownI_spot opr hlt).1
          rw [hq] at x1
          have x2 := (ownI_spot o1r hq5).1
          obtain ⟨x3, f3⟩ := ownI_spot hown hq5
          obtain ⟨y, hy⟩ : ∃ y, env1.getD q 0 = y := ⟨_, rfl⟩
          rw [hy] at x2
          have HO := Lib.hid (ownI_put (i := q) hown y)
          have HK := Lib.hid (hkp.trans (Kp.put wr g2 q (.int .i64 y)))
          have HEV : Hid (∀ x ∈ env.set q y, 0 ≤ x ∧ x ≤ ((5 : Nat) : Int)) := set_mem hev.out (by rw [← hy]; exact getD_mem H1E.out (by omega) q)
          have HAG : Hid (∀ j, j < k + 1 → (env.set q y).getD ((prms l).getD j 0).toNat 0 = env1.getD ((prms l).getD j 0).toNat 0) := by
            intro j hj
            by_cases hjq : (prms l).getD j 0 = (q : Int)
            · rw [hjq, Int.toNat_natCast, hy, List.getD_eq_getElem?_getD, List.getElem?_set_self (by omega)]
              rfl
            · have hjk : j ≠ k := fun e => hjq (by rw [e]; exact hq)
              obtain ⟨q', _, hq'⟩ := prms_get (l := l) (k := j) (by rw [HPQ.out]; omega)
              have hne : q ≠ ((prms l).getD j 0).toNat := by rw [hq', Int.toNat_natCast]; intro e; exact hjq (by rw [hq', e])
              rw [List.getD_eq_getElem?_getD, List.getElem?_set_ne hne, ← List.getD_eq_getElem?_getD]
              exact hag.out j (by omega)
          have hlen : (env.set q y).length = 5 := by simp [h5]
          clear opr o1r hown hkp hq hy hag hev
          go_wp2_with fail
          go_region
          go_wp2
          go_roundw
          case rel => exact ⟨k + 1, env.set q y, by omega, by go_num, hlen, HEV.out, HAG.out, HO.out, HK.out.drew⟩
          case measure => simp [intOf]; omega
        · obtain rfl : k = P := by omega
          have olr := own_not HL7.out hkp (fun q hq => by have := il6 q hq; omega)
          have hBr : Below w.heap.size w wr := Kp.below HB7.out hkp (by omega) s7
          have sr := hBr.size
          obtain ⟨v, hv⟩ : ∃ v, Lv.eval env1 l = some v := by
            obtain ⟨v, hv⟩ := Lv.run_of_ok (env := env1) HOK.out
            exact ⟨v, by unfold Lv.eval; rw [if_pos HOK.out, hv]⟩
          have ev1 : evalR env1 l = some v := by unfold evalR; rw [if_pos (envOk_of h15 H1E.out (by omega)), hv]
          have hcg : Lv.eval env l = Lv.eval env1 l := by
            refine eval_congr (fun t ht h4 => ?_)
            obtain ⟨i, hi, rfl⟩ := List.mem_iff_getElem.1 ht
            have hg : l.getD i (0, 0) = l[i] := by simp [List.getD_eq_getElem?_getD, List.getElem?_eq_getElem hi]
            have hbd := ok_tk HOK.out hi (a := l[i].1) (b := l[i].2) hg
            obtain ⟨q, hq⟩ := Int.eq_ofNat_of_zero_le hbd.1
            obtain ⟨j, hj, hjq⟩ := prms_mem (l := l) (q := q) HOK.out (by omega) (by
              have : l[i] = (4, (q : Int)) := Prod.ext h4 hq
              rw [← this]; exact ht)
            have := hag.out j (by rw [HPQ.out] at hj; exact hj)
            rw [hjq] at this
            rw [hq]
            exact this
          have ev2 : evalR env l = some v := by unfold evalR; rw [if_pos (envOk_of h5 hev.out (by omega)), hcg, hv]
          have hvb : v ≤ 5 + offR l := by
            have := eval_bound (b := 5) (by omega) (fun x hx => (H1E.out x hx).2) hv
            unfold offR
            rw [if_pos HOK.out]
            exact this
          have hob : 0 ≤ offR l ∧ offR l ≤ 25 := by
            have := succs_bd l
            unfold offR
            rw [if_pos HOK.out]
            omega
          obtain ⟨ho0, ho25⟩ := hob
          obtain ⟨F, hF⟩ : ∃ F, offR l = F := ⟨_, rfl⟩
          rw [hF] at hvb ho0 ho25
          have HF := Lib.hid hF
          have H1 := Lib.hid ev1
          have H2 := Lib.hid ev2
          have HOR := Lib.hid olr
          have H1R := Lib.hid o1r
          have H2R := Lib.hid hown
          clear hv ev1 ev2 hcg hag hev hkp opr o1r hown olr hF HL7 HP7 H17 H27 H1E H2E HB7
          go_wp2_with fail
          refine (a2_any wr wr.heap.size _ L cap l (Nat.le_refl _) (OwnT.reads HOR.out) (by omega) (by omega)).mono ?_
          rintro e w8 ⟨g8, cap8, rfl, o8, hb8⟩
          have hB8 := hBr.trans (hb8.mono sr)
          have s8 := hB8.size
          have HL8 := Lib.hid (own_below' HOR.out hb8)
          have H18 := Lib.hid (own_below' H1R.out hb8)
          have H28 := Lib.hid (own_below' H2R.out hb8)
          have HC8 := Lib.hid o8
          clear HOR H1R H2R o8 hb8 hBr
          go_wp2_with fail
          refine (levelEval_any w8 w8.heap.size _ _ L cap8 5 cap1 env1 l T pv (by omega) (Nat.le_refl _) (OwnT.reads HC8.out) (by omega) (OwnI.reads H18.out) (by omega) (hE.below (hB8.mono hB) h0)).mono ?_
          rintro e w9 ⟨rfl, hb9⟩
          rw [H1.out]
          have hB9 := hB8.trans (hb9.mono s8)
          have s9 := hB9.size
          have HL9 := Lib.hid (own_below' HL8.out hb9)
          have H29 := Lib.hid (own_below' H28.out hb9)
          clear HL8 H18 H28 HC8 hb9 hB8
          simp only [evalV]
          go_wp2_with fail
          refine (levelEval_any w9 w9.heap.size _ _ L cap 5 cap2 env l T pv (by omega) (Nat.le_refl _) (OwnT.reads HL9.out) (by omega) (OwnI.reads H29.out) (by omega) (hE.below (hB9.mono hB) h0)).mono ?_
          rintro e w10 ⟨rfl, hb10⟩
          rw [H2.out]
          have hB10 := hB9.trans (hb10.mono s9)
          have s10 := hB10.size
          have HL10 := Lib.hid (own_below' HL9.out hb10)
          clear HL9 H29 hb10 hB9
          simp only [evalV]
          go_wp2_with fail
          refine (implOff_any w10 w10.heap.size _ L cap l T pv (by omega) (Nat.le_refl _) (OwnT.reads HL10.out) (by omega) (hE.below (hB10.mono hB) h0)).mono ?_
          rintro e w11 ⟨rfl, hb11⟩
          rw [HF.out]
          have HB11 := Lib.hid (hB10.trans (hb11.mono s10))
          clear HL10 hb11 hB10
          go_wp2
          go_ret
          exact ⟨ret_bool (by simp), HB11.out⟩
end Go.Proofs.YtkpelkbkemohlaaDoor
