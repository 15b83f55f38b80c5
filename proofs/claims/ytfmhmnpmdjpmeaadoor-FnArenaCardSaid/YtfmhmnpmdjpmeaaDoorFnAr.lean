/- The law FnArena: the walk. -/
import Derived.Test.YtfmhmnpmdjpmeaaDoorAvS
import Derived.Test.YtfmhmnpmdjpmeaaDoorFnPt
import Derived.Test.YtfmhmnpmdjpmeaaDoorApI2

namespace Go.Proofs.YtfmhmnpmdjpmeaaDoor
open Go.RowKit

theorem nodR_pre {w : World} {B n m : Nat} {A : Option Addr} {l u : List Nd} (h : NodR w B A n (l ++ u)) (hm : l.length = m) : NodR w B A m l := by
  have hn := h.1
  rw [List.length_append] at hn
  refine ⟨hm, fun h0 => ?_⟩
  obtain ⟨b, off, e, hb, hc⟩ := h.2 (by omega)
  refine ⟨b, off, e, hb, fun k hk => ?_⟩
  have := hc k (by omega)
  rwa [List.getD_eq_getElem?_getD, List.getElem?_append_left (by omega), ← List.getD_eq_getElem?_getD] at this
theorem eval_some {env : List Int} {l : List (Int × Int)} (h : Lv.levelOk l = true) : ∃ V, Lv.eval env l = some V := by
  obtain ⟨v, hv⟩ := Lv.run_of_ok (env := env) h
  exact ⟨v, by unfold Lv.eval; rw [if_pos h, hv]⟩

set_option maxRecDepth 100000 in
set_option maxHeartbeats 4000000 in
theorem fnArena_any (w : World) (B : Nat) (A : Option Addr) (n c : Nat) (T : TypeId) (pv : Value) (h0 : 0 < B) (hB : B ≤ w.heap.size) (hb : BytR w B A n) (hE : ErrAt w T pv) :
    Calls Tryd.prog 6 #[.slice A n c] w fun e w' => e = .returned (.bool true) ∧ Below w.heap.size w w' := by
  by_cases hbig : (1048576 : Int) < n
  · go_enter Tryd.func6, Tryd.ntmps6
    go_wp2_with fail
    refine (big_any w A n c).mono ?_
    rintro e w' ⟨rfl, rfl⟩
    rw [decide_eq_true hbig]
    go_wp2
    go_ret
    exact ⟨rfl, Below.refl _ _⟩
  · have hn : n ≤ 1048576 := by omega
    have hG : 0 < w.heap.size := by omega
    go_enter Tryd.func6, Tryd.ntmps6
    go_wp2_with fail
    refine (big_any w A n c).mono ?_
    rintro e w' ⟨rfl, rfl⟩
    rw [decide_eq_false (by omega)]
    go_wp2_with fail
    refine (drawArPut_any w B A n c hB hb hn).mono ?_
    rintro e w1 ⟨g, cap, m, ns, g2, c2, m2, t, rfl, hm, hm2, ho1, ht1, hb1⟩
    have hl : ns.length = m := (OwnN.reads ho1).1
    have hs1 := hb1.size
    have HO1 := Lib.hid ho1
    have HT1 := Lib.hid ht1
    have HB1 := Lib.hid hb1
    have HBY := Lib.hid hb
    clear ho1 ht1 hb1 hb
    obtain ⟨ok, hok⟩ : ∃ ok, putOk ns t = ok := ⟨_, rfl⟩
    obtain ⟨N, hN⟩ : ∃ N, putNs ns t = N := ⟨_, rfl⟩
    obtain ⟨ix, hix⟩ : ∃ ix, putIx ns t = ix := ⟨_, rfl⟩
    obtain ⟨nl, hnl⟩ : ∃ nl, N.length = nl := ⟨_, rfl⟩
    have hnlb : nl ≤ 200 := by
      rw [← hnl, ← hN]
      unfold putNs
      split
      · rename_i h
        unfold putOk at h
        rw [Bool.and_eq_true, decide_eq_true_eq] at h
        exact h.2
      · simp
    have hPO : ∀ w e Q, PutOut w ok N ix e Q → ∃ A1 c1, e = .returned (.tuple #[.slice A1 nl c1, .int .i64 ix, .bool ok]) ∧ OwnN Q w.heap.size A1 nl c1 N ∧ Below w.heap.size w Q := by
      rintro w e Q ⟨A1, c1, q1, q2, q3⟩
      rw [hnl] at q1 q2
      exact ⟨A1, c1, q1, q2, q3⟩
    have HPO := Lib.hid hPO
    have hsp := specAPut_any w1 w1.heap.size ⟨g, 0, none⟩ m cap ns w1.heap.size (some ⟨g2, 0, none⟩) m2 c2 t (Nat.le_refl _) (OwnN.reads HO1.out) (by omega) (Nat.le_refl _) (OwnT.reads HT1.out) (by omega)
    rw [hok, hN, hix] at hsp
    have HSP := Lib.hid hsp
    have HOK := Lib.hid hok
    have HN := Lib.hid hN
    have HIX := Lib.hid hix
    have HNL := Lib.hid hnl
    clear hsp hok hN hix hnl hPO
    go_wp2_with fail
    refine HSP.out.mono ?_
    rintro e w2 hr2
    obtain ⟨A3, c3, rfl, ho2, hb2⟩ := HPO.out _ _ _ hr2
    have HB2 := Lib.hid (HB1.out.trans (hb2.mono hs1))
    have HO2 : Hid (OwnN w2 w.heap.size (some ⟨g, 0, none⟩) m cap ns) := own_below' HO1.out hb2
    have HT2 : Hid (OwnT w2 w.heap.size (some ⟨g2, 0, none⟩) m2 c2 t) := own_below' HT1.out hb2
    have HW2 := Lib.hid ho2
    have hs2 : w.heap.size ≤ w2.heap.size := HB2.out.size
    have him := implAPut_any w2 w2.heap.size (some ⟨g, 0, none⟩) m cap ns w2.heap.size (some ⟨g2, 0, none⟩) m2 c2 t T pv (by omega) (Nat.le_refl _) (OwnN.reads HO2.out) (by omega) (Nat.le_refl _) (OwnT.reads HT2.out) (by omega) (hE.below (HB2.out.mono hB) h0)
    rw [HOK.out, HN.out, HIX.out] at him
    have HIM := Lib.hid him
    clear hr2 ho2 hb2 him HO1 HT1 HSP
    go_wp2_with fail
    refine HIM.out.mono ?_
    rintro e w3 hr3
    obtain ⟨A5, c5, rfl, ho3, hb3⟩ := HPO.out _ _ _ hr3
    have HB3 := Lib.hid (HB2.out.trans (hb3.mono hs2))
    have HO3 : Hid (OwnN w3 w.heap.size (some ⟨g, 0, none⟩) m cap ns) := own_below' HO2.out hb3
    have HT3 : Hid (OwnT w3 w.heap.size (some ⟨g2, 0, none⟩) m2 c2 t) := own_below' HT2.out hb3
    have HW3 : Hid (OwnN w3 w1.heap.size A3 nl c3 N) := own_below' HW2.out hb3
    have HG3 : Hid (OwnN w3 w2.heap.size A5 nl c5 N) := ho3
    have hs3 : w.heap.size ≤ w3.heap.size := HB3.out.size
    have hbb : (ok != ok) = false := by simp
    have hbe : (ok == ok) = true := by simp
    have hbi : (ix != ix) = false := by simp
    have hbj : (ix == ix) = true := by simp
    clear hr3 ho3 hb3 HO2 HT2 HW2 HIM
    go_wp2_with fail
    refine (sameNodes_any w3 w3.heap.size A5 A3 nl c5 c3 N (Nat.le_refl _) (OwnN.reads HG3.out) (OwnN.reads HW3.out) (by omega)).mono ?_
    rintro e w4 ⟨rfl, hb4⟩
    have HB4 := Lib.hid (HB3.out.trans (hb4.mono hs3))
    have HO4 : Hid (OwnN w4 w.heap.size (some ⟨g, 0, none⟩) m cap ns) := own_below' HO3.out hb4
    have HT4 : Hid (OwnT w4 w.heap.size (some ⟨g2, 0, none⟩) m2 c2 t) := own_below' HT3.out hb4
    have HW4 : Hid (OwnN w4 w1.heap.size A3 nl c3 N) := own_below' HW3.out hb4
    have HG4 : Hid (OwnN w4 w2.heap.size A5 nl c5 N) := own_below' HG3.out hb4
    have hs4 : w.heap.size ≤ w4.heap.size := HB4.out.size
    clear hb4 HO3 HT3 HW3 HG3
    cases ok with
    | false =>
      go_wp2_with fail
      refine (sameNodes_any w4 w4.heap.size A5 A3 nl c5 c3 N (Nat.le_refl _) (OwnN.reads HG4.out) (OwnN.reads HW4.out) (by omega)).mono ?_
      rintro e w5 ⟨rfl, hb5⟩
      have HB5 := Lib.hid (HB4.out.trans (hb5.mono hs4))
      clear hb5
      go_wp2
      go_ret
      exact ⟨rfl, HB5.out⟩
    | true =>
      obtain ⟨f1, ⟨u, f2⟩, f3, f4, f5, f6, f7, f8⟩ := put_facts HOK.out
      rw [HN.out] at f1 f2 f3 f4 f5 f7 f8
      rw [HIX.out] at f5 f7 f8
      rw [HNL.out] at f7 f8
      have HF1 := Lib.hid f1
      have HF2 := Lib.hid f2
      have HF6 := Lib.hid f6
      have HF8 := Lib.hid f8
      have hlu : m ≤ nl := by
        have := HNL.out
        rw [f2, List.length_append] at this
        omega
      have him := implAPut_any w4 w4.heap.size A5 nl c5 N w4.heap.size (some ⟨g2, 0, none⟩) m2 c2 t T pv (by omega) (Nat.le_refl _) (OwnN.reads HG4.out) (by omega) (Nat.le_refl _) (OwnT.reads HT4.out) (by omega) (hE.below (HB4.out.mono hB) h0)
      rw [f3, f4, f5] at him
      have HIM := Lib.hid him
      have HF7 := Lib.hid f7
      clear f1 f2 f3 f4 f5 f6 f7 f8 him HW4
      go_wp2_with fail
      refine HIM.out.mono ?_
      rintro e w5 hr5
      obtain ⟨A6, c6, rfl, ho5, hb5⟩ := HPO.out _ _ _ hr5
      have HB5 := Lib.hid (HB4.out.trans (hb5.mono hs4))
      have HO5 : Hid (OwnN w5 w.heap.size (some ⟨g, 0, none⟩) m cap ns) := own_below' HO4.out hb5
      have HT5 : Hid (OwnT w5 w.heap.size (some ⟨g2, 0, none⟩) m2 c2 t) := own_below' HT4.out hb5
      have HG5 : Hid (OwnN w5 w2.heap.size A5 nl c5 N) := own_below' HG4.out hb5
      have HA5 : Hid (OwnN w5 w4.heap.size A6 nl c6 N) := ho5
      have hs5 : w.heap.size ≤ w5.heap.size := HB5.out.size
      have htl : t.length = m2 := (OwnT.reads HT5.out).1
      have hC3 := implALevel_any w5 w5.heap.size A5 nl c5 N ix T pv (by omega) (Nat.le_refl _) (OwnN.reads HG5.out) (by omega) (hE.below (HB5.out.mono hB) h0)
      rw [HF7.out] at hC3
      unfold ResP at hC3
      simp only [Option.getD_some, Option.isSome_some] at hC3
      rw [htl] at hC3
      have HC3 := Lib.hid hC3
      clear hr5 ho5 hb5 hC3 HO4 HT4 HG4 HIM
      go_wp2_with fail
      refine HC3.out.mono ?_
      rintro e w6 ⟨A7, c7, rfl, ho6, hb6⟩
      have HB6 := Lib.hid (HB5.out.trans (hb6.mono hs5))
      have HO6 : Hid (OwnN w6 w.heap.size (some ⟨g, 0, none⟩) m cap ns) := own_below' HO5.out hb6
      have HT6 : Hid (OwnT w6 w.heap.size (some ⟨g2, 0, none⟩) m2 c2 t) := own_below' HT5.out hb6
      have HG6 : Hid (OwnN w6 w2.heap.size A5 nl c5 N) := own_below' HG5.out hb6
      have HA6 : Hid (OwnN w6 w4.heap.size A6 nl c6 N) := own_below' HA5.out hb6
      have HK6 := Lib.hid ho6
      have hs6 : w.heap.size ≤ w6.heap.size := HB6.out.size
      clear ho6 hb6 HO5 HT5 HG5 HA5 HC3
      go_wp2_with fail
      refine (envs_any w6 B A n c 3 5 (by omega) (HBY.out.below (HB6.out.mono hB)) hn (by omega) (by omega)).mono ?_
      rintro e w7 ⟨ge, ce, env, rfl, he5, hebd, hoe, hb7⟩
      have hek : envOk env = true := by
        simp only [envOk, Bool.and_eq_true, decide_eq_true_eq, List.all_eq_true]
        exact ⟨he5, fun x hx => by have := hebd x hx; omega⟩
      obtain ⟨V, hV⟩ := eval_some (env := env) HF6.out
      have HB7 := Lib.hid (HB6.out.trans (hb7.mono hs6))
      have HO7 : Hid (OwnN w7 w.heap.size (some ⟨g, 0, none⟩) m cap ns) := own_below' HO6.out hb7
      have HT7 : Hid (OwnT w7 w.heap.size (some ⟨g2, 0, none⟩) m2 c2 t) := own_below' HT6.out hb7
      have HG7 : Hid (OwnN w7 w2.heap.size A5 nl c5 N) := own_below' HG6.out hb7
      have HA7 : Hid (OwnN w7 w4.heap.size A6 nl c6 N) := own_below' HA6.out hb7
      have HK7 : Hid (OwnT w7 w5.heap.size A7 m2 c7 t) := own_below' HK6.out hb7
      have HV7 := Lib.hid hoe
      have hs7 : w.heap.size ≤ w7.heap.size := HB7.out.size
      have hC1 := implAEval_any w7 w7.heap.size A5 nl c5 N ix w7.heap.size (some ⟨ge, 0, none⟩) 5 ce env T pv (by omega) (Nat.le_refl _) (OwnN.reads HG7.out) (by omega) (Nat.le_refl _) (OwnI.reads HV7.out) (by omega) (hE.below (HB7.out.mono hB) h0)
      rw [HF8.out env hek, hV] at hC1
      have HC1 := Lib.hid hC1
      have hER : evalR env t = some V := by unfold evalR; rw [if_pos hek, hV]
      have HER := Lib.hid hER
      clear hebd he5 hoe hb7 hC1 hV hek hER HO6 HT6 HG6 HA6 HK6 HF8 HF7
      go_wp2_with fail
      refine HC1.out.mono ?_
      rintro e w8 ⟨rfl, hb8⟩
      unfold evalV
      have HB8 := Lib.hid (HB7.out.trans (hb8.mono hs7))
      have HO8 : Hid (OwnN w8 w.heap.size (some ⟨g, 0, none⟩) m cap ns) := own_below' HO7.out hb8
      have HT8 : Hid (OwnT w8 w.heap.size (some ⟨g2, 0, none⟩) m2 c2 t) := own_below' HT7.out hb8
      have HG8 : Hid (OwnN w8 w2.heap.size A5 nl c5 N) := own_below' HG7.out hb8
      have HA8 : Hid (OwnN w8 w4.heap.size A6 nl c6 N) := own_below' HA7.out hb8
      have HK8 : Hid (OwnT w8 w5.heap.size A7 m2 c7 t) := own_below' HK7.out hb8
      have hs8 : w.heap.size ≤ w8.heap.size := HB8.out.size
      have hC2 := levelEval_any w8 w8.heap.size (some ⟨g2, 0, none⟩) (some ⟨ge, 0, none⟩) m2 c2 5 ce env t T pv (by omega) (Nat.le_refl _) (OwnT.reads HT8.out) (by omega) (OwnI.reads (own_below' HV7.out hb8)) (by omega) (hE.below (HB8.out.mono hB) h0)
      rw [HER.out] at hC2
      have HC2 := Lib.hid hC2
      clear hb8 hC2 HO7 HT7 HG7 HA7 HK7 HV7 HC1
      go_wp2_with fail
      refine HC2.out.mono ?_
      rintro e w9 ⟨rfl, hb9⟩
      unfold evalV
      have HB9 := Lib.hid (HB8.out.trans (hb9.mono hs8))
      have HO9 : Hid (OwnN w9 w.heap.size (some ⟨g, 0, none⟩) m cap ns) := own_below' HO8.out hb9
      have HT9 : Hid (OwnT w9 w.heap.size (some ⟨g2, 0, none⟩) m2 c2 t) := own_below' HT8.out hb9
      have HG9 : Hid (OwnN w9 w2.heap.size A5 nl c5 N) := own_below' HG8.out hb9
      have HA9 : Hid (OwnN w9 w4.heap.size A6 nl c6 N) := own_below' HA8.out hb9
      have HK9 : Hid (OwnT w9 w5.heap.size A7 m2 c7 t) := own_below' HK8.out hb9
      have hs9 : w.heap.size ≤ w9.heap.size := HB9.out.size
      have hvv : (V == V) = true := by simp
      clear hb9 HO8 HT8 HG8 HA8 HK8 HC2
      go_wp2_with fail
      refine (sameNodes_any w9 w9.heap.size A6 A5 nl c6 c5 N (Nat.le_refl _) (OwnN.reads HA9.out) (OwnN.reads HG9.out) (by omega)).mono ?_
      rintro e wa ⟨rfl, hba⟩
      have HBa := Lib.hid (HB9.out.trans (hba.mono hs9))
      have HOa : Hid (OwnN wa w.heap.size (some ⟨g, 0, none⟩) m cap ns) := own_below' HO9.out hba
      have HTa : Hid (OwnT wa w.heap.size (some ⟨g2, 0, none⟩) m2 c2 t) := own_below' HT9.out hba
      have HGa : Hid (OwnN wa w2.heap.size A5 nl c5 N) := own_below' HG9.out hba
      have HKa : Hid (OwnT wa w5.heap.size A7 m2 c7 t) := own_below' HK9.out hba
      have hsa : w.heap.size ≤ wa.heap.size := HBa.out.size
      clear hba HO9 HT9 HG9 HA9 HK9
      go_wp2_with fail
      refine (sameToks_eq wa wa.heap.size A7 (some ⟨g2, 0, none⟩) m2 c7 c2 t (Nat.le_refl _) (OwnT.reads HKa.out) (OwnT.reads HTa.out) (by omega)).mono ?_
      rintro e wb ⟨rfl, hbb⟩
      have HBb := Lib.hid (HBa.out.trans (hbb.mono hsa))
      have HOb : Hid (OwnN wb w.heap.size (some ⟨g, 0, none⟩) m cap ns) := own_below' HOa.out hbb
      have HGb : Hid (OwnN wb w2.heap.size A5 nl c5 N) := own_below' HGa.out hbb
      have hsb : w.heap.size ≤ wb.heap.size := HBb.out.size
      have hcap : nl ≤ c5 := ownN_cap' HGb.out
      have hcm : ¬ ((c5 : Int) < (m : Int)) := by omega
      have hRp := OwnN.reads HGb.out
      rw [HF2.out] at hRp
      have HRP := Lib.hid (nodR_pre hRp hl)
      clear hbb hRp HOa HTa HGa HKa
      go_wp2_with fail
      refine (sameNodes_any wb wb.heap.size A5 (some ⟨g, 0, none⟩) m c5 cap ns (Nat.le_refl _) HRP.out (OwnN.reads HOb.out) (by omega)).mono ?_
      rintro e wc ⟨rfl, hbc⟩
      have HBc := Lib.hid (HBb.out.trans (hbc.mono hsb))
      have HGc : Hid (OwnN wc w2.heap.size A5 nl c5 N) := own_below' HGb.out hbc
      have hsc : w.heap.size ≤ wc.heap.size := HBc.out.size
      clear hbc HOb HGb HRP
      go_wp2_with fail
      refine (implArenaOk_any wc wc.heap.size A5 nl c5 N (Nat.le_refl _) (OwnN.reads HGc.out) (by omega)).mono ?_
      rintro e wd ⟨rfl, hbd⟩
      rw [HF1.out]
      have HBd := Lib.hid (HBc.out.trans (hbd.mono hsc))
      clear hbd HGc
      go_wp2
      go_ret
      exact ⟨rfl, HBd.out⟩
end Go.Proofs.YtfmhmnpmdjpmeaaDoor
