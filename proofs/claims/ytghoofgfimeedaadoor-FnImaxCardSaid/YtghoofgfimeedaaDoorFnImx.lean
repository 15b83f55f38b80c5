/- The law FnImax: the walk. -/
import Derived.Test.YtghoofgfimeedaaDoorDraw6
import Derived.Test.YtghoofgfimeedaaDoorDLe
import Derived.Test.YtghoofgfimeedaaDoorDCst
import Derived.Test.YtghoofgfimeedaaDoorDcMath6

namespace Go.Proofs.YtghoofgfimeedaaDoor
open Go.RowKit

set_option maxRecDepth 100000 in
set_option maxHeartbeats 16000000 in
theorem fnImax_any (w : World) (B : Nat) (A : Option Addr) (n c : Nat) (T : TypeId) (pv : Value) (h0 : 0 < B) (hB : B ≤ w.heap.size)
    (hb : BytR w B A n) (hnc : n ≤ c) (hE : ErrAt w T pv) :
    Calls Tryd.prog 6 #[.slice A n c] w fun e w' => e = .returned (.bool true) ∧ Below w.heap.size w w' := by
  by_cases hbig : 1048576 < (n : Int)
  · go_enter Tryd.func6, Tryd.ntmps6
    go_wp2_with fail
    refine (big_any w A n c).mono ?_
    rintro e w' ⟨rfl, rfl⟩
    rw [decide_eq_true (by omega)]
    go_wp2
    go_ret
    exact ⟨rfl, Below.refl _ _⟩
  · have hn : n ≤ 1048576 := by omega
    go_enter Tryd.func6, Tryd.ntmps6
    go_wp2_with fail
    refine (big_any w A n c).mono ?_
    rintro e w' ⟨rfl, rfl⟩
    rw [decide_eq_false (by omega)]
    have HB0 : Hid (Below w.heap.size w w) := Below.refl _ _
    go_wp2_with fail
    refine (drawLe_any w B A n c hB hb hn).mono ?_
    rintro e w1 ⟨⟨Aa, na, ca, la, Ab, nb, cb, lb, rfl, hna, hnb, hoa, hob⟩, hb1⟩
    have HB1 := Lib.hid hb1
    have Ra1 := Lib.hid hoa
    have Rb1 := Lib.hid hob
    have hs1 := hb1.size
    clear hoa hob
    go_wp2_with fail
    refine (rest5_any w1 B A n c (hb.below (hb1.mono hB)) hn hnc).mono ?_
    rintro e w' ⟨A', n', c', rfl, hbr, hn', rfl⟩
    clear hb1
    go_wp2_with fail
    refine (drawLe_any w1 B A' n' c' (by omega) hbr hn').mono ?_
    rintro e w2 ⟨⟨Ad, nd, cd, ld, Ac, nc, cc, lc, rfl, hnd, hncc, hod, hoc⟩, hb2⟩
    have HB2 := Lib.hid (HB1.out.trans (hb2.mono HB1.out.size))
    have Ra2 := Lib.hid (own_below' Ra1.out hb2)
    have Rb2 := Lib.hid (own_below' Rb1.out hb2)
    have Rc2 := Lib.hid (own_base (base' := w.heap.size) hoc hs1)
    clear hb2 Ra1 Rb1 HB1
    clear hod hoc hbr hn'
    cases oka : Lv.levelOk la with
    | false =>
      have OA := Lib.hid oka
      clear oka
      go_wp2_with fail
      refine (specOk_any w2 w2.heap.size Aa na ca la (Nat.le_refl _) (OwnT.reads Ra2.out) (by omega)).mono ?_
      rintro e w3 ⟨rfl, hb⟩
      have HB3 := Lib.hid (HB2.out.trans (hb.mono HB2.out.size))
      have Ra3 := Lib.hid (own_below' Ra2.out hb)
      have Rb3 := Lib.hid (own_below' Rb2.out hb)
      have Rc3 := Lib.hid (own_below' Rc2.out hb)
      clear hb Ra2 Rb2 Rc2 HB2
      rw [OA.out]
      go_wp2_with fail
      refine (levelOk_any w3 w3.heap.size Aa na ca la T pv (Nat.lt_of_lt_of_le h0 (Nat.le_trans hB HB3.out.size)) (Nat.le_refl _) (OwnT.reads Ra3.out) (by omega) (hE.below (HB3.out.mono hB) h0)).mono ?_
      rintro e w4 ⟨rfl, hb⟩
      have HB4 := Lib.hid (HB3.out.trans (hb.mono HB3.out.size))
      have Ra4 := Lib.hid (own_below' Ra3.out hb)
      have Rb4 := Lib.hid (own_below' Rb3.out hb)
      have Rc4 := Lib.hid (own_below' Rc3.out hb)
      clear hb Ra3 Rb3 Rc3 HB3
      rw [OA.out]
      go_wp2_with fail
      refine (specOk_any w4 w4.heap.size Aa na ca la (Nat.le_refl _) (OwnT.reads Ra4.out) (by omega)).mono ?_
      rintro e w5 ⟨rfl, hb⟩
      have HB5 := Lib.hid (HB4.out.trans (hb.mono HB4.out.size))
      have Ra5 := Lib.hid (own_below' Ra4.out hb)
      have Rb5 := Lib.hid (own_below' Rb4.out hb)
      have Rc5 := Lib.hid (own_below' Rc4.out hb)
      clear hb Ra4 Rb4 Rc4 HB4
      rw [OA.out]
      go_wp2
      go_ret
      exact ⟨rfl, HB5.out⟩
    | true =>
      have OA := Lib.hid oka
      clear oka
      cases okb : Lv.levelOk lb with
      | false =>
        have OB := Lib.hid okb
        clear okb
        go_wp2_with fail
        refine (specOk_any w2 w2.heap.size Aa na ca la (Nat.le_refl _) (OwnT.reads Ra2.out) (by omega)).mono ?_
        rintro e w3 ⟨rfl, hb⟩
        have HB3 := Lib.hid (HB2.out.trans (hb.mono HB2.out.size))
        have Ra3 := Lib.hid (own_below' Ra2.out hb)
        have Rb3 := Lib.hid (own_below' Rb2.out hb)
        have Rc3 := Lib.hid (own_below' Rc2.out hb)
        clear hb Ra2 Rb2 Rc2 HB2
        rw [OA.out]
        go_wp2_with fail
        refine (specOk_any w3 w3.heap.size Ab nb cb lb (Nat.le_refl _) (OwnT.reads Rb3.out) (by omega)).mono ?_
        rintro e w4 ⟨rfl, hb⟩
        have HB4 := Lib.hid (HB3.out.trans (hb.mono HB3.out.size))
        have Ra4 := Lib.hid (own_below' Ra3.out hb)
        have Rb4 := Lib.hid (own_below' Rb3.out hb)
        have Rc4 := Lib.hid (own_below' Rc3.out hb)
        clear hb Ra3 Rb3 Rc3 HB3
        rw [OB.out]
        go_wp2_with fail
        refine (levelOk_any w4 w4.heap.size Aa na ca la T pv (Nat.lt_of_lt_of_le h0 (Nat.le_trans hB HB4.out.size)) (Nat.le_refl _) (OwnT.reads Ra4.out) (by omega) (hE.below (HB4.out.mono hB) h0)).mono ?_
        rintro e w5 ⟨rfl, hb⟩
        have HB5 := Lib.hid (HB4.out.trans (hb.mono HB4.out.size))
        have Ra5 := Lib.hid (own_below' Ra4.out hb)
        have Rb5 := Lib.hid (own_below' Rb4.out hb)
        have Rc5 := Lib.hid (own_below' Rc4.out hb)
        clear hb Ra4 Rb4 Rc4 HB4
        rw [OA.out]
        go_wp2_with fail
        refine (specOk_any w5 w5.heap.size Aa na ca la (Nat.le_refl _) (OwnT.reads Ra5.out) (by omega)).mono ?_
        rintro e w6 ⟨rfl, hb⟩
        have HB6 := Lib.hid (HB5.out.trans (hb.mono HB5.out.size))
        have Ra6 := Lib.hid (own_below' Ra5.out hb)
        have Rb6 := Lib.hid (own_below' Rb5.out hb)
        have Rc6 := Lib.hid (own_below' Rc5.out hb)
        clear hb Ra5 Rb5 Rc5 HB5
        rw [OA.out]
        go_wp2
        go_ret
        exact ⟨rfl, HB6.out⟩
      | true =>
        have OB := Lib.hid okb
        clear okb
        cases okc : Lv.levelOk lc with
        | false =>
          have OC := Lib.hid okc
          clear okc
          go_wp2_with fail
          refine (specOk_any w2 w2.heap.size Aa na ca la (Nat.le_refl _) (OwnT.reads Ra2.out) (by omega)).mono ?_
          rintro e w3 ⟨rfl, hb⟩
          have HB3 := Lib.hid (HB2.out.trans (hb.mono HB2.out.size))
          have Ra3 := Lib.hid (own_below' Ra2.out hb)
          have Rb3 := Lib.hid (own_below' Rb2.out hb)
          have Rc3 := Lib.hid (own_below' Rc2.out hb)
          clear hb Ra2 Rb2 Rc2 HB2
          rw [OA.out]
          go_wp2_with fail
          refine (specOk_any w3 w3.heap.size Ab nb cb lb (Nat.le_refl _) (OwnT.reads Rb3.out) (by omega)).mono ?_
          rintro e w4 ⟨rfl, hb⟩
          have HB4 := Lib.hid (HB3.out.trans (hb.mono HB3.out.size))
          have Ra4 := Lib.hid (own_below' Ra3.out hb)
          have Rb4 := Lib.hid (own_below' Rb3.out hb)
          have Rc4 := Lib.hid (own_below' Rc3.out hb)
          clear hb Ra3 Rb3 Rc3 HB3
          rw [OB.out]
          go_wp2_with fail
          refine (specOk_any w4 w4.heap.size Ac nc cc lc (Nat.le_refl _) (OwnT.reads Rc4.out) (by omega)).mono ?_
          rintro e w5 ⟨rfl, hb⟩
          have HB5 := Lib.hid (HB4.out.trans (hb.mono HB4.out.size))
          have Ra5 := Lib.hid (own_below' Ra4.out hb)
          have Rb5 := Lib.hid (own_below' Rb4.out hb)
          have Rc5 := Lib.hid (own_below' Rc4.out hb)
          clear hb Ra4 Rb4 Rc4 HB4
          rw [OC.out]
          go_wp2_with fail
          refine (levelOk_any w5 w5.heap.size Aa na ca la T pv (Nat.lt_of_lt_of_le h0 (Nat.le_trans hB HB5.out.size)) (Nat.le_refl _) (OwnT.reads Ra5.out) (by omega) (hE.below (HB5.out.mono hB) h0)).mono ?_
          rintro e w6 ⟨rfl, hb⟩
          have HB6 := Lib.hid (HB5.out.trans (hb.mono HB5.out.size))
          have Ra6 := Lib.hid (own_below' Ra5.out hb)
          have Rb6 := Lib.hid (own_below' Rb5.out hb)
          have Rc6 := Lib.hid (own_below' Rc5.out hb)
          clear hb Ra5 Rb5 Rc5 HB5
          rw [OA.out]
          go_wp2_with fail
          refine (specOk_any w6 w6.heap.size Aa na ca la (Nat.le_refl _) (OwnT.reads Ra6.out) (by omega)).mono ?_
          rintro e w7 ⟨rfl, hb⟩
          have HB7 := Lib.hid (HB6.out.trans (hb.mono HB6.out.size))
          have Ra7 := Lib.hid (own_below' Ra6.out hb)
          have Rb7 := Lib.hid (own_below' Rb6.out hb)
          have Rc7 := Lib.hid (own_below' Rc6.out hb)
          clear hb Ra6 Rb6 Rc6 HB6
          rw [OA.out]
          go_wp2
          go_ret
          exact ⟨rfl, HB7.out⟩
        | true =>
          have OC := Lib.hid okc
          clear okc
          have hla : la.length = na := (OwnT.reads Ra2.out).1
          have hlb : lb.length = nb := (OwnT.reads Rb2.out).1
          have hlc : lc.length = nc := (OwnT.reads Rc2.out).1
          go_wp2_with fail
          refine (specOk_any w2 w2.heap.size Aa na ca la (Nat.le_refl _) (OwnT.reads Ra2.out) (by omega)).mono ?_
          rintro e w3 ⟨rfl, hb⟩
          have HB3 := Lib.hid (HB2.out.trans (hb.mono HB2.out.size))
          have Ra3 := Lib.hid (own_below' Ra2.out hb)
          have Rb3 := Lib.hid (own_below' Rb2.out hb)
          have Rc3 := Lib.hid (own_below' Rc2.out hb)
          clear hb Ra2 Rb2 Rc2 HB2
          rw [OA.out]
          go_wp2_with fail
          refine (specOk_any w3 w3.heap.size Ab nb cb lb (Nat.le_refl _) (OwnT.reads Rb3.out) (by omega)).mono ?_
          rintro e w4 ⟨rfl, hb⟩
          have HB4 := Lib.hid (HB3.out.trans (hb.mono HB3.out.size))
          have Ra4 := Lib.hid (own_below' Ra3.out hb)
          have Rb4 := Lib.hid (own_below' Rb3.out hb)
          have Rc4 := Lib.hid (own_below' Rc3.out hb)
          clear hb Ra3 Rb3 Rc3 HB3
          rw [OB.out]
          go_wp2_with fail
          refine (specOk_any w4 w4.heap.size Ac nc cc lc (Nat.le_refl _) (OwnT.reads Rc4.out) (by omega)).mono ?_
          rintro e w5 ⟨rfl, hb⟩
          have HB5 := Lib.hid (HB4.out.trans (hb.mono HB4.out.size))
          have Ra5 := Lib.hid (own_below' Ra4.out hb)
          have Rb5 := Lib.hid (own_below' Rb4.out hb)
          have Rc5 := Lib.hid (own_below' Rc4.out hb)
          clear hb Ra4 Rb4 Rc4 HB4
          rw [OC.out]
          by_cases h7a : (7 : Int) < (na : Int)
          · have da : decide ((7 : Int) < (na : Int)) = true := decide_eq_true h7a
            go_wp2_with fail
            refine (levelOk_any w5 w5.heap.size Aa na ca la T pv (Nat.lt_of_lt_of_le h0 (Nat.le_trans hB HB5.out.size)) (Nat.le_refl _) (OwnT.reads Ra5.out) (by omega) (hE.below (HB5.out.mono hB) h0)).mono ?_
            rintro e w6 ⟨rfl, hb⟩
            have HB6 := Lib.hid (HB5.out.trans (hb.mono HB5.out.size))
            have Ra6 := Lib.hid (own_below' Ra5.out hb)
            have Rb6 := Lib.hid (own_below' Rb5.out hb)
            have Rc6 := Lib.hid (own_below' Rc5.out hb)
            clear hb Ra5 Rb5 Rc5 HB5
            rw [OA.out]
            go_wp2_with fail
            refine (specOk_any w6 w6.heap.size Aa na ca la (Nat.le_refl _) (OwnT.reads Ra6.out) (by omega)).mono ?_
            rintro e w7 ⟨rfl, hb⟩
            have HB7 := Lib.hid (HB6.out.trans (hb.mono HB6.out.size))
            have Ra7 := Lib.hid (own_below' Ra6.out hb)
            have Rb7 := Lib.hid (own_below' Rb6.out hb)
            have Rc7 := Lib.hid (own_below' Rc6.out hb)
            clear hb Ra6 Rb6 Rc6 HB6
            rw [OA.out]
            go_wp2
            go_ret
            exact ⟨rfl, HB7.out⟩
          · have da : decide ((7 : Int) < (na : Int)) = false := decide_eq_false h7a
            by_cases h7b : (7 : Int) < (nb : Int)
            · have db : decide ((7 : Int) < (nb : Int)) = true := decide_eq_true h7b
              go_wp2_with fail
              refine (levelOk_any w5 w5.heap.size Aa na ca la T pv (Nat.lt_of_lt_of_le h0 (Nat.le_trans hB HB5.out.size)) (Nat.le_refl _) (OwnT.reads Ra5.out) (by omega) (hE.below (HB5.out.mono hB) h0)).mono ?_
              rintro e w6 ⟨rfl, hb⟩
              have HB6 := Lib.hid (HB5.out.trans (hb.mono HB5.out.size))
              have Ra6 := Lib.hid (own_below' Ra5.out hb)
              have Rb6 := Lib.hid (own_below' Rb5.out hb)
              have Rc6 := Lib.hid (own_below' Rc5.out hb)
              clear hb Ra5 Rb5 Rc5 HB5
              rw [OA.out]
              go_wp2_with fail
              refine (specOk_any w6 w6.heap.size Aa na ca la (Nat.le_refl _) (OwnT.reads Ra6.out) (by omega)).mono ?_
              rintro e w7 ⟨rfl, hb⟩
              have HB7 := Lib.hid (HB6.out.trans (hb.mono HB6.out.size))
              have Ra7 := Lib.hid (own_below' Ra6.out hb)
              have Rb7 := Lib.hid (own_below' Rb6.out hb)
              have Rc7 := Lib.hid (own_below' Rc6.out hb)
              clear hb Ra6 Rb6 Rc6 HB6
              rw [OA.out]
              go_wp2
              go_ret
              exact ⟨rfl, HB7.out⟩
            · have db : decide ((7 : Int) < (nb : Int)) = false := decide_eq_false h7b
              by_cases h7c : (7 : Int) < (nc : Int)
              · have dc : decide ((7 : Int) < (nc : Int)) = true := decide_eq_true h7c
                go_wp2_with fail
                refine (levelOk_any w5 w5.heap.size Aa na ca la T pv (Nat.lt_of_lt_of_le h0 (Nat.le_trans hB HB5.out.size)) (Nat.le_refl _) (OwnT.reads Ra5.out) (by omega) (hE.below (HB5.out.mono hB) h0)).mono ?_
                rintro e w6 ⟨rfl, hb⟩
                have HB6 := Lib.hid (HB5.out.trans (hb.mono HB5.out.size))
                have Ra6 := Lib.hid (own_below' Ra5.out hb)
                have Rb6 := Lib.hid (own_below' Rb5.out hb)
                have Rc6 := Lib.hid (own_below' Rc5.out hb)
                clear hb Ra5 Rb5 Rc5 HB5
                rw [OA.out]
                go_wp2_with fail
                refine (specOk_any w6 w6.heap.size Aa na ca la (Nat.le_refl _) (OwnT.reads Ra6.out) (by omega)).mono ?_
                rintro e w7 ⟨rfl, hb⟩
                have HB7 := Lib.hid (HB6.out.trans (hb.mono HB6.out.size))
                have Ra7 := Lib.hid (own_below' Ra6.out hb)
                have Rb7 := Lib.hid (own_below' Rb6.out hb)
                have Rc7 := Lib.hid (own_below' Rc6.out hb)
                clear hb Ra6 Rb6 Rc6 HB6
                rw [OA.out]
                go_wp2
                go_ret
                exact ⟨rfl, HB7.out⟩
              · have dc : decide ((7 : Int) < (nc : Int)) = false := decide_eq_false h7c
                have h7A : na ≤ 7 := by omega
                have h7B : nb ≤ 7 := by omega
                have h7C : nc ≤ 7 := by omega
                obtain ⟨qs, hs, hls, hoks, hevs⟩ := Dc.succ_some OB.out (by omega)
                obtain ⟨qi, hi, hli⟩ := Dc.join_some (op := 3) (.inr rfl) OA.out hoks (by omega)
                obtain ⟨qm, hm, hlm⟩ := Dc.join_some (op := 2) (.inl rfl) OA.out hoks (by omega)
                obtain ⟨qn, hn2, hln⟩ := Dc.join_some (op := 3) (a := la) (b := [(0, 0)]) (.inr rfl) OA.out (by decide) (by simp; omega)
                obtain ⟨qp, hp, hlp⟩ := Dc.join_some (op := 3) (.inr rfl) OB.out OC.out (by omega)
                obtain ⟨qf, hf, hlf⟩ := Dc.join_some (op := 3) (.inr rfl) OA.out (Dc.join_parts hp).2.2 (by omega)
                obtain ⟨qt, ht, hlt⟩ := Dc.join_some (op := 2) (.inl rfl) OA.out OB.out (by omega)
                obtain ⟨qr, hr, hlr⟩ := Dc.join_some (op := 3) (.inr rfl) (Dc.join_parts ht).2.2 OC.out (by omega)
                have EIM := Lib.hid (Dc.imax_pos OB.out hevs hi hm)
                have EN := Lib.hid (Dc.imax_zero hn2)
                have ELR := Lib.hid (Dc.imax_assoc hp hf ht hr)
                rw [hlb] at hls
                rw [hla] at hli hlm hln hlf hlt
                rw [hlb] at hlp hlt
                rw [hlc] at hlp hlr
                simp only [List.length_cons, List.length_nil] at hln
                obtain ⟨ms, hms⟩ : ∃ ms, qs.length = ms := ⟨_, rfl⟩
                have Js := Lib.hid hs
                have Ns := Lib.hid hms
                obtain ⟨mi, hmi⟩ : ∃ mi, qi.length = mi := ⟨_, rfl⟩
                have Ji := Lib.hid hi
                have Ni := Lib.hid hmi
                obtain ⟨mm, hmm⟩ : ∃ mm, qm.length = mm := ⟨_, rfl⟩
                have Jm := Lib.hid hm
                have Nm := Lib.hid hmm
                obtain ⟨mn, hmn⟩ : ∃ mn, qn.length = mn := ⟨_, rfl⟩
                have Jn := Lib.hid hn2
                have Nn := Lib.hid hmn
                obtain ⟨mp, hmp⟩ : ∃ mp, qp.length = mp := ⟨_, rfl⟩
                have Jp := Lib.hid hp
                have Np := Lib.hid hmp
                obtain ⟨mf, hmf⟩ : ∃ mf, qf.length = mf := ⟨_, rfl⟩
                have Jf := Lib.hid hf
                have Nf := Lib.hid hmf
                obtain ⟨mt, hmt⟩ : ∃ mt, qt.length = mt := ⟨_, rfl⟩
                have Jt := Lib.hid ht
                have Nt := Lib.hid hmt
                obtain ⟨mr, hmr⟩ : ∃ mr, qr.length = mr := ⟨_, rfl⟩
                have Jr := Lib.hid hr
                have Nr := Lib.hid hmr
                rw [hms] at hls hli hlm
                rw [hmi] at hli
                rw [hmm] at hlm
                rw [hmn] at hln
                rw [hmp] at hlp hlf
                rw [hmf] at hlf
                rw [hmt] at hlt hlr
                rw [hmr] at hlr
                have bs : ms ≤ 8 := by omega
                have bi : mi ≤ 16 := by omega
                have bm : mm ≤ 16 := by omega
                have bn : mn ≤ 9 := by omega
                have bp : mp ≤ 15 := by omega
                have bf : mf ≤ 23 := by omega
                have bt : mt ≤ 15 := by omega
                have br : mr ≤ 23 := by omega
                clear hls hli hlm hln hlp hlf hlt hlr
                clear hs hi hm hn2 hp hf ht hr hms hmi hmm hmn hmp hmf hmt hmr hoks hevs hla hlb hlc da db dc
                have d1 : decide ((7 : Int) < (na : Int)) = false := decide_eq_false (by omega)
                have d2 : decide ((7 : Int) < (nb : Int)) = false := decide_eq_false (by omega)
                have d3 : decide ((7 : Int) < (nc : Int)) = false := decide_eq_false (by omega)
                obtain ⟨w6, hwz⟩ : ∃ wz, w5.alloc (.cells #[.int .i64 0, .int .i64 0] 44) = wz := ⟨_, rfl⟩
                have hb : Below w5.heap.size w5 w6 := by rw [← hwz]; exact (Below.refl _ _).alloc (Nat.le_refl _) _
                have HB6 := Lib.hid (HB5.out.trans (hb.mono HB5.out.size))
                have Ra6 := Lib.hid (own_below' Ra5.out hb)
                have Rb6 := Lib.hid (own_below' Rb5.out hb)
                have Rc6 := Lib.hid (own_below' Rc5.out hb)
                have Rz6 : Hid (OwnT w6 w.heap.size (some ⟨w5.heap.size, 0, none⟩) 1 1 [(0, 0)]) := by rw [← hwz]; exact own_base (own_tok w5 0 0) HB5.out.size
                clear hb Ra5 Rb5 Rc5 HB5
                go_wp2_with fail
                refine (implSucc_any w6 w6.heap.size Ab nb cb lb 1 T pv (Nat.lt_of_lt_of_le h0 (Nat.le_trans hB HB6.out.size)) (Nat.le_refl _) (OwnT.reads Rb6.out) (by omega) (hE.below (HB6.out.mono hB) h0)).mono ?_
                rintro e w7 ⟨A7, c7, rfl, ho, hb⟩
                have HB7 := Lib.hid (HB6.out.trans (hb.mono HB6.out.size))
                have Ra7 := Lib.hid (own_below' Ra6.out hb)
                have Rb7 := Lib.hid (own_below' Rb6.out hb)
                have Rc7 := Lib.hid (own_below' Rc6.out hb)
                have Rz7 := Lib.hid (own_below' Rz6.out hb)
                rw [Js.out] at ho ⊢
                simp only [Option.getD_some, Option.isSome_some] at ho ⊢
                rw [Ns.out] at ho ⊢
                have Rs7 := Lib.hid (own_base (base' := w.heap.size) ho HB6.out.size)
                clear hb Ra6 Rb6 Rc6 Rz6 HB6
                clear ho
                clear hwz
                go_wp2_with fail
                refine (implJoin_any w7 w7.heap.size 3 Aa na ca la A7 ms c7 qs T pv (Nat.lt_of_lt_of_le h0 (Nat.le_trans hB HB7.out.size)) (Nat.le_refl _) (OwnT.reads Ra7.out) (by omega) (OwnT.reads Rs7.out) (by omega) (hE.below (HB7.out.mono hB) h0)).mono ?_
                rintro e w8 ⟨A8, c8, rfl, ho, hb⟩
                have HB8 := Lib.hid (HB7.out.trans (hb.mono HB7.out.size))
                have Ra8 := Lib.hid (own_below' Ra7.out hb)
                have Rb8 := Lib.hid (own_below' Rb7.out hb)
                have Rc8 := Lib.hid (own_below' Rc7.out hb)
                have Rz8 := Lib.hid (own_below' Rz7.out hb)
                have Rs8 := Lib.hid (own_below' Rs7.out hb)
                rw [Ji.out] at ho ⊢
                simp only [Option.getD_some, Option.isSome_some] at ho ⊢
                rw [Ni.out] at ho ⊢
                have Ri8 := Lib.hid (own_base (base' := w.heap.size) ho HB7.out.size)
                clear hb Ra7 Rb7 Rc7 Rz7 Rs7 HB7
                clear ho
                go_wp2_with fail
                refine (implJoin_any w8 w8.heap.size 2 Aa na ca la A7 ms c7 qs T pv (Nat.lt_of_lt_of_le h0 (Nat.le_trans hB HB8.out.size)) (Nat.le_refl _) (OwnT.reads Ra8.out) (by omega) (OwnT.reads Rs8.out) (by omega) (hE.below (HB8.out.mono hB) h0)).mono ?_
                rintro e w9 ⟨A9, c9, rfl, ho, hb⟩
                have HB9 := Lib.hid (HB8.out.trans (hb.mono HB8.out.size))
                have Ra9 := Lib.hid (own_below' Ra8.out hb)
                have Rb9 := Lib.hid (own_below' Rb8.out hb)
                have Rc9 := Lib.hid (own_below' Rc8.out hb)
                have Rz9 := Lib.hid (own_below' Rz8.out hb)
                have Rs9 := Lib.hid (own_below' Rs8.out hb)
                have Ri9 := Lib.hid (own_below' Ri8.out hb)
                rw [Jm.out] at ho ⊢
                simp only [Option.getD_some, Option.isSome_some] at ho ⊢
                rw [Nm.out] at ho ⊢
                have Rm9 := Lib.hid (own_base (base' := w.heap.size) ho HB8.out.size)
                clear hb Ra8 Rb8 Rc8 Rz8 Rs8 Ri8 HB8
                clear ho
                go_wp2_with fail
                refine (implJoin_any w9 w9.heap.size 3 Aa na ca la (some ⟨w5.heap.size, 0, none⟩) 1 1 [(0, 0)] T pv (Nat.lt_of_lt_of_le h0 (Nat.le_trans hB HB9.out.size)) (Nat.le_refl _) (OwnT.reads Ra9.out) (by omega) (OwnT.reads Rz9.out) (by omega) (hE.below (HB9.out.mono hB) h0)).mono ?_
                rintro e w10 ⟨A10, c10, rfl, ho, hb⟩
                have HB10 := Lib.hid (HB9.out.trans (hb.mono HB9.out.size))
                have Ra10 := Lib.hid (own_below' Ra9.out hb)
                have Rb10 := Lib.hid (own_below' Rb9.out hb)
                have Rc10 := Lib.hid (own_below' Rc9.out hb)
                have Rz10 := Lib.hid (own_below' Rz9.out hb)
                have Rs10 := Lib.hid (own_below' Rs9.out hb)
                have Ri10 := Lib.hid (own_below' Ri9.out hb)
                have Rm10 := Lib.hid (own_below' Rm9.out hb)
                rw [Jn.out] at ho ⊢
                simp only [Option.getD_some, Option.isSome_some] at ho ⊢
                rw [Nn.out] at ho ⊢
                have Rn10 := Lib.hid (own_base (base' := w.heap.size) ho HB9.out.size)
                clear hb Ra9 Rb9 Rc9 Rz9 Rs9 Ri9 Rm9 HB9
                clear ho
                go_wp2_with fail
                refine (implJoin_any w10 w10.heap.size 3 Ab nb cb lb Ac nc cc lc T pv (Nat.lt_of_lt_of_le h0 (Nat.le_trans hB HB10.out.size)) (Nat.le_refl _) (OwnT.reads Rb10.out) (by omega) (OwnT.reads Rc10.out) (by omega) (hE.below (HB10.out.mono hB) h0)).mono ?_
                rintro e w11 ⟨A11, c11, rfl, ho, hb⟩
                have HB11 := Lib.hid (HB10.out.trans (hb.mono HB10.out.size))
                have Ra11 := Lib.hid (own_below' Ra10.out hb)
                have Rb11 := Lib.hid (own_below' Rb10.out hb)
                have Rc11 := Lib.hid (own_below' Rc10.out hb)
                have Rz11 := Lib.hid (own_below' Rz10.out hb)
                have Rs11 := Lib.hid (own_below' Rs10.out hb)
                have Ri11 := Lib.hid (own_below' Ri10.out hb)
                have Rm11 := Lib.hid (own_below' Rm10.out hb)
                have Rn11 := Lib.hid (own_below' Rn10.out hb)
                rw [Jp.out] at ho ⊢
                simp only [Option.getD_some, Option.isSome_some] at ho ⊢
                rw [Np.out] at ho ⊢
                have Rp11 := Lib.hid (own_base (base' := w.heap.size) ho HB10.out.size)
                clear hb Ra10 Rb10 Rc10 Rz10 Rs10 Ri10 Rm10 Rn10 HB10
                clear ho
                go_wp2_with fail
                refine (implJoin_any w11 w11.heap.size 3 Aa na ca la A11 mp c11 qp T pv (Nat.lt_of_lt_of_le h0 (Nat.le_trans hB HB11.out.size)) (Nat.le_refl _) (OwnT.reads Ra11.out) (by omega) (OwnT.reads Rp11.out) (by omega) (hE.below (HB11.out.mono hB) h0)).mono ?_
                rintro e w12 ⟨A12, c12, rfl, ho, hb⟩
                have HB12 := Lib.hid (HB11.out.trans (hb.mono HB11.out.size))
                have Ra12 := Lib.hid (own_below' Ra11.out hb)
                have Rb12 := Lib.hid (own_below' Rb11.out hb)
                have Rc12 := Lib.hid (own_below' Rc11.out hb)
                have Rz12 := Lib.hid (own_below' Rz11.out hb)
                have Rs12 := Lib.hid (own_below' Rs11.out hb)
                have Ri12 := Lib.hid (own_below' Ri11.out hb)
                have Rm12 := Lib.hid (own_below' Rm11.out hb)
                have Rn12 := Lib.hid (own_below' Rn11.out hb)
                have Rp12 := Lib.hid (own_below' Rp11.out hb)
                rw [Jf.out] at ho ⊢
                simp only [Option.getD_some, Option.isSome_some] at ho ⊢
                rw [Nf.out] at ho ⊢
                have Rf12 := Lib.hid (own_base (base' := w.heap.size) ho HB11.out.size)
                clear hb Ra11 Rb11 Rc11 Rz11 Rs11 Ri11 Rm11 Rn11 Rp11 HB11
                clear ho
                go_wp2_with fail
                refine (implJoin_any w12 w12.heap.size 2 Aa na ca la Ab nb cb lb T pv (Nat.lt_of_lt_of_le h0 (Nat.le_trans hB HB12.out.size)) (Nat.le_refl _) (OwnT.reads Ra12.out) (by omega) (OwnT.reads Rb12.out) (by omega) (hE.below (HB12.out.mono hB) h0)).mono ?_
                rintro e w13 ⟨A13, c13, rfl, ho, hb⟩
                have HB13 := Lib.hid (HB12.out.trans (hb.mono HB12.out.size))
                have Ra13 := Lib.hid (own_below' Ra12.out hb)
                have Rb13 := Lib.hid (own_below' Rb12.out hb)
                have Rc13 := Lib.hid (own_below' Rc12.out hb)
                have Rz13 := Lib.hid (own_below' Rz12.out hb)
                have Rs13 := Lib.hid (own_below' Rs12.out hb)
                have Ri13 := Lib.hid (own_below' Ri12.out hb)
                have Rm13 := Lib.hid (own_below' Rm12.out hb)
                have Rn13 := Lib.hid (own_below' Rn12.out hb)
                have Rp13 := Lib.hid (own_below' Rp12.out hb)
                have Rf13 := Lib.hid (own_below' Rf12.out hb)
                rw [Jt.out] at ho ⊢
                simp only [Option.getD_some, Option.isSome_some] at ho ⊢
                rw [Nt.out] at ho ⊢
                have Rt13 := Lib.hid (own_base (base' := w.heap.size) ho HB12.out.size)
                clear hb Ra12 Rb12 Rc12 Rz12 Rs12 Ri12 Rm12 Rn12 Rp12 Rf12 HB12
                clear ho
                go_wp2_with fail
                refine (implJoin_any w13 w13.heap.size 3 A13 mt c13 qt Ac nc cc lc T pv (Nat.lt_of_lt_of_le h0 (Nat.le_trans hB HB13.out.size)) (Nat.le_refl _) (OwnT.reads Rt13.out) (by omega) (OwnT.reads Rc13.out) (by omega) (hE.below (HB13.out.mono hB) h0)).mono ?_
                rintro e w14 ⟨A14, c14, rfl, ho, hb⟩
                have HB14 := Lib.hid (HB13.out.trans (hb.mono HB13.out.size))
                have Ra14 := Lib.hid (own_below' Ra13.out hb)
                have Rb14 := Lib.hid (own_below' Rb13.out hb)
                have Rc14 := Lib.hid (own_below' Rc13.out hb)
                have Rz14 := Lib.hid (own_below' Rz13.out hb)
                have Rs14 := Lib.hid (own_below' Rs13.out hb)
                have Ri14 := Lib.hid (own_below' Ri13.out hb)
                have Rm14 := Lib.hid (own_below' Rm13.out hb)
                have Rn14 := Lib.hid (own_below' Rn13.out hb)
                have Rp14 := Lib.hid (own_below' Rp13.out hb)
                have Rf14 := Lib.hid (own_below' Rf13.out hb)
                have Rt14 := Lib.hid (own_below' Rt13.out hb)
                rw [Jr.out] at ho ⊢
                simp only [Option.getD_some, Option.isSome_some] at ho ⊢
                rw [Nr.out] at ho ⊢
                have Rr14 := Lib.hid (own_base (base' := w.heap.size) ho HB13.out.size)
                clear hb Ra13 Rb13 Rc13 Rz13 Rs13 Ri13 Rm13 Rn13 Rp13 Rf13 Rt13 HB13
                clear ho
                go_wp2_with fail
                refine (implLevelEq_any w14 w14.heap.size A8 mi c8 qi A9 mm c9 qm T pv (Nat.lt_of_lt_of_le h0 (Nat.le_trans hB HB14.out.size)) (Nat.le_refl _) (OwnT.reads Ri14.out) (by omega) (OwnT.reads Rm14.out) (by omega) (hE.below (HB14.out.mono hB) h0)).mono ?_
                rintro e w15 ⟨rfl, hb⟩
                have HB15 := Lib.hid (HB14.out.trans (hb.mono HB14.out.size))
                have Ra15 := Lib.hid (own_below' Ra14.out hb)
                have Rb15 := Lib.hid (own_below' Rb14.out hb)
                have Rc15 := Lib.hid (own_below' Rc14.out hb)
                have Rz15 := Lib.hid (own_below' Rz14.out hb)
                have Rs15 := Lib.hid (own_below' Rs14.out hb)
                have Ri15 := Lib.hid (own_below' Ri14.out hb)
                have Rm15 := Lib.hid (own_below' Rm14.out hb)
                have Rn15 := Lib.hid (own_below' Rn14.out hb)
                have Rp15 := Lib.hid (own_below' Rp14.out hb)
                have Rf15 := Lib.hid (own_below' Rf14.out hb)
                have Rt15 := Lib.hid (own_below' Rt14.out hb)
                have Rr15 := Lib.hid (own_below' Rr14.out hb)
                clear hb Ra14 Rb14 Rc14 Rz14 Rs14 Ri14 Rm14 Rn14 Rp14 Rf14 Rt14 Rr14 HB14
                rw [EIM.out]
                go_wp2_with fail
                refine (implLevelConst_any w15 w15.heap.size A10 mn c10 qn T pv (Nat.lt_of_lt_of_le h0 (Nat.le_trans hB HB15.out.size)) (Nat.le_refl _) (OwnT.reads Rn15.out) (by omega) (hE.below (HB15.out.mono hB) h0)).mono ?_
                rintro e w16 ⟨rfl, hb⟩
                have HB16 := Lib.hid (HB15.out.trans (hb.mono HB15.out.size))
                have Ra16 := Lib.hid (own_below' Ra15.out hb)
                have Rb16 := Lib.hid (own_below' Rb15.out hb)
                have Rc16 := Lib.hid (own_below' Rc15.out hb)
                have Rz16 := Lib.hid (own_below' Rz15.out hb)
                have Rs16 := Lib.hid (own_below' Rs15.out hb)
                have Ri16 := Lib.hid (own_below' Ri15.out hb)
                have Rm16 := Lib.hid (own_below' Rm15.out hb)
                have Rn16 := Lib.hid (own_below' Rn15.out hb)
                have Rp16 := Lib.hid (own_below' Rp15.out hb)
                have Rf16 := Lib.hid (own_below' Rf15.out hb)
                have Rt16 := Lib.hid (own_below' Rt15.out hb)
                have Rr16 := Lib.hid (own_below' Rr15.out hb)
                clear hb Ra15 Rb15 Rc15 Rz15 Rs15 Ri15 Rm15 Rn15 Rp15 Rf15 Rt15 Rr15 HB15
                rw [EN.out]
                go_wp2_with fail
                refine (implLevelEq_any w16 w16.heap.size A12 mf c12 qf A14 mr c14 qr T pv (Nat.lt_of_lt_of_le h0 (Nat.le_trans hB HB16.out.size)) (Nat.le_refl _) (OwnT.reads Rf16.out) (by omega) (OwnT.reads Rr16.out) (by omega) (hE.below (HB16.out.mono hB) h0)).mono ?_
                rintro e w17 ⟨rfl, hb⟩
                have HB17 := Lib.hid (HB16.out.trans (hb.mono HB16.out.size))
                have Ra17 := Lib.hid (own_below' Ra16.out hb)
                have Rb17 := Lib.hid (own_below' Rb16.out hb)
                have Rc17 := Lib.hid (own_below' Rc16.out hb)
                have Rz17 := Lib.hid (own_below' Rz16.out hb)
                have Rs17 := Lib.hid (own_below' Rs16.out hb)
                have Ri17 := Lib.hid (own_below' Ri16.out hb)
                have Rm17 := Lib.hid (own_below' Rm16.out hb)
                have Rn17 := Lib.hid (own_below' Rn16.out hb)
                have Rp17 := Lib.hid (own_below' Rp16.out hb)
                have Rf17 := Lib.hid (own_below' Rf16.out hb)
                have Rt17 := Lib.hid (own_below' Rt16.out hb)
                have Rr17 := Lib.hid (own_below' Rr16.out hb)
                clear hb Ra16 Rb16 Rc16 Rz16 Rs16 Ri16 Rm16 Rn16 Rp16 Rf16 Rt16 Rr16 HB16
                rw [ELR.out]
                go_wp2
                go_ret
                exact ⟨rfl, HB17.out⟩
end Go.Proofs.YtghoofgfimeedaaDoor
