/- The law FnJoinLe: the walk. -/
import Derived.Test.YtghoofgfimeedaaDoorDraw6
import Derived.Test.YtghoofgfimeedaaDoorDLe
import Derived.Test.YtghoofgfimeedaaDoorDcMath6
import Derived.Test.YtghoofgfimeedaaDoorSameT

namespace Go.Proofs.YtghoofgfimeedaaDoor
open Go.RowKit

set_option maxRecDepth 100000 in
set_option maxHeartbeats 16000000 in
theorem fnJoinLe_any (w : World) (B : Nat) (A : Option Addr) (n c : Nat) (T : TypeId) (pv : Value) (h0 : 0 < B) (hB : B ≤ w.heap.size)
    (hb : BytR w B A n) (hnc : n ≤ c) (hE : ErrAt w T pv) :
    Calls Tryd.prog 5 #[.slice A n c] w fun e w' => e = .returned (.bool true) ∧ Below w.heap.size w w' := by
  by_cases hbig : 1048576 < (n : Int)
  · go_enter Tryd.func5, Tryd.ntmps5
    go_wp2_with fail
    refine (big_any w A n c).mono ?_
    rintro e w' ⟨rfl, rfl⟩
    rw [decide_eq_true (by omega)]
    go_wp2
    go_ret
    exact ⟨rfl, Below.refl _ _⟩
  · have hn : n ≤ 1048576 := by omega
    go_enter Tryd.func5, Tryd.ntmps5
    go_wp2_with fail
    refine (big_any w A n c).mono ?_
    rintro e w' ⟨rfl, rfl⟩
    rw [decide_eq_false (by omega)]
    have HB0 : Hid (Below w.heap.size w w) := Below.refl _ _
    go_wp2_with fail
    refine (drawLe_any w B A n c hB hb hn).mono ?_
    rintro e w1 ⟨⟨Aa, na, ca, la, Ab, nb, cb, lb, rfl, hna, hnb, hoa, hob⟩, hb1⟩
    have HB1 := Lib.hid hb1
    have Ra1 := Lib.hid hoa
    have Rb1 := Lib.hid hob
    have hs1 := hb1.size
    clear hoa hob
    go_wp2_with fail
    refine (rest5_any w1 B A n c (hb.below (hb1.mono hB)) hn hnc).mono ?_
    rintro e w' ⟨A', n', c', rfl, hbr, hn', rfl⟩
    clear hb1
    go_wp2_with fail
    refine (drawLe_any w1 B A' n' c' (by omega) hbr hn').mono ?_
    rintro e w2 ⟨⟨Ad, nd, cd, ld, Ac, nc, cc, lc, rfl, hnd, hncc, hod, hoc⟩, hb2⟩
    have HB2 := Lib.hid (HB1.out.trans (hb2.mono HB1.out.size))
    have Ra2 := Lib.hid (own_below' Ra1.out hb2)
    have Rb2 := Lib.hid (own_below' Rb1.out hb2)
    have Rc2 := Lib.hid (own_base (base' := w.heap.size) hoc hs1)
    clear hb2 Ra1 Rb1 HB1
    clear hod hoc hbr hn'
    cases hj : joinR 2 la lb with
    | none =>
      have HJ := Lib.hid hj
      have HI := Lib.hid (Dc.join_none hj)
      clear hj
      go_wp2_with fail
      refine (implJoin_any w2 w2.heap.size 2 Aa na ca la Ab nb cb lb T pv (Nat.lt_of_lt_of_le h0 (Nat.le_trans hB HB2.out.size)) (Nat.le_refl _) (OwnT.reads Ra2.out) (by omega) (OwnT.reads Rb2.out) (by omega) (hE.below (HB2.out.mono hB) h0)).mono ?_
      rintro e w3 ⟨A3, c3, rfl, ho, hb⟩
      have HB3 := Lib.hid (HB2.out.trans (hb.mono HB2.out.size))
      have Ra3 := Lib.hid (own_below' Ra2.out hb)
      have Rb3 := Lib.hid (own_below' Rb2.out hb)
      have Rc3 := Lib.hid (own_below' Rc2.out hb)
      rw [HJ.out] at ho ⊢
      simp only [Option.getD_none, Option.isSome_none, List.length_nil] at ho ⊢
      have Rm3 := Lib.hid (own_base (base' := w.heap.size) ho HB2.out.size)
      clear hb Ra2 Rb2 Rc2 HB2
      clear ho
      go_wp2_with fail
      refine (implJoin_any w3 w3.heap.size 3 Aa na ca la Ab nb cb lb T pv (Nat.lt_of_lt_of_le h0 (Nat.le_trans hB HB3.out.size)) (Nat.le_refl _) (OwnT.reads Ra3.out) (by omega) (OwnT.reads Rb3.out) (by omega) (hE.below (HB3.out.mono hB) h0)).mono ?_
      rintro e w4 ⟨A4, c4, rfl, ho, hb⟩
      have HB4 := Lib.hid (HB3.out.trans (hb.mono HB3.out.size))
      have Ra4 := Lib.hid (own_below' Ra3.out hb)
      have Rb4 := Lib.hid (own_below' Rb3.out hb)
      have Rc4 := Lib.hid (own_below' Rc3.out hb)
      have Rm4 := Lib.hid (own_below' Rm3.out hb)
      rw [HI.out] at ho ⊢
      simp only [Option.getD_none, Option.isSome_none, List.length_nil] at ho ⊢
      have Ri4 := Lib.hid (own_base (base' := w.heap.size) ho HB3.out.size)
      clear hb Ra3 Rb3 Rc3 Rm3 HB3
      clear ho
      go_wp2_with fail
      refine (specJoin_any w4 w4.heap.size 2 Aa na ca la Ab nb cb lb (Nat.le_refl _) (OwnT.reads Ra4.out) (by omega) (OwnT.reads Rb4.out) (by omega)).mono ?_
      rintro e w5 ⟨A5, c5, rfl, ho, hb⟩
      have HB5 := Lib.hid (HB4.out.trans (hb.mono HB4.out.size))
      have Ra5 := Lib.hid (own_below' Ra4.out hb)
      have Rb5 := Lib.hid (own_below' Rb4.out hb)
      have Rc5 := Lib.hid (own_below' Rc4.out hb)
      have Rm5 := Lib.hid (own_below' Rm4.out hb)
      have Ri5 := Lib.hid (own_below' Ri4.out hb)
      rw [HJ.out] at ho ⊢
      simp only [Option.getD_none, Option.isSome_none, List.length_nil] at ho ⊢
      have Rv5 := Lib.hid (own_base (base' := w.heap.size) ho HB4.out.size)
      clear hb Ra4 Rb4 Rc4 Rm4 Ri4 HB4
      clear ho
      go_wp2_with fail
      refine (sameT_any w5 w5.heap.size A3 A5 0 c3 c5 ([] : List (Int × Int)) (Nat.le_refl _) (OwnT.reads Rm5.out) (OwnT.reads Rv5.out) (by omega)).mono ?_
      rintro e w6 ⟨rfl, hb⟩
      have HB6 := Lib.hid (HB5.out.trans (hb.mono HB5.out.size))
      have Ra6 := Lib.hid (own_below' Ra5.out hb)
      have Rb6 := Lib.hid (own_below' Rb5.out hb)
      have Rc6 := Lib.hid (own_below' Rc5.out hb)
      have Rm6 := Lib.hid (own_below' Rm5.out hb)
      have Ri6 := Lib.hid (own_below' Ri5.out hb)
      have Rv6 := Lib.hid (own_below' Rv5.out hb)
      clear hb Ra5 Rb5 Rc5 Rm5 Ri5 Rv5 HB5
      go_wp2
      go_ret
      exact ⟨rfl, HB6.out⟩
    | some qm =>
      obtain ⟨qi, hi⟩ := Dc.join_both hj
      have HJ := Lib.hid hj
      have HI := Lib.hid hi
      have LM := Lib.hid (Dc.le_max hj)
      have IM := Lib.hid (Dc.imax_le hj hi)
      have MC := Lib.hid (Dc.max_le (c := lc) hj)
      have hlm := joinR_len25 2 la lb
      rw [hj] at hlm
      have hli := joinR_len25 3 la lb
      rw [hi] at hli
      simp only [Option.getD_some] at hlm hli
      obtain ⟨nm, hnm⟩ : ∃ nm, qm.length = nm := ⟨_, rfl⟩
      obtain ⟨ni, hni⟩ : ∃ ni, qi.length = ni := ⟨_, rfl⟩
      rw [hnm] at hlm
      rw [hni] at hli
      have Nm' := Lib.hid hnm
      have Ni' := Lib.hid hni
      clear hnm hni hj hi
      go_wp2_with fail
      refine (implJoin_any w2 w2.heap.size 2 Aa na ca la Ab nb cb lb T pv (Nat.lt_of_lt_of_le h0 (Nat.le_trans hB HB2.out.size)) (Nat.le_refl _) (OwnT.reads Ra2.out) (by omega) (OwnT.reads Rb2.out) (by omega) (hE.below (HB2.out.mono hB) h0)).mono ?_
      rintro e w3 ⟨A3, c3, rfl, ho, hb⟩
      have HB3 := Lib.hid (HB2.out.trans (hb.mono HB2.out.size))
      have Ra3 := Lib.hid (own_below' Ra2.out hb)
      have Rb3 := Lib.hid (own_below' Rb2.out hb)
      have Rc3 := Lib.hid (own_below' Rc2.out hb)
      rw [HJ.out] at ho ⊢
      simp only [Option.getD_some, Option.isSome_some] at ho ⊢
      rw [Nm'.out] at ho ⊢
      have Rm3 := Lib.hid (own_base (base' := w.heap.size) ho HB2.out.size)
      clear hb Ra2 Rb2 Rc2 HB2
      clear ho
      go_wp2_with fail
      refine (implJoin_any w3 w3.heap.size 3 Aa na ca la Ab nb cb lb T pv (Nat.lt_of_lt_of_le h0 (Nat.le_trans hB HB3.out.size)) (Nat.le_refl _) (OwnT.reads Ra3.out) (by omega) (OwnT.reads Rb3.out) (by omega) (hE.below (HB3.out.mono hB) h0)).mono ?_
      rintro e w4 ⟨A4, c4, rfl, ho, hb⟩
      have HB4 := Lib.hid (HB3.out.trans (hb.mono HB3.out.size))
      have Ra4 := Lib.hid (own_below' Ra3.out hb)
      have Rb4 := Lib.hid (own_below' Rb3.out hb)
      have Rc4 := Lib.hid (own_below' Rc3.out hb)
      have Rm4 := Lib.hid (own_below' Rm3.out hb)
      rw [HI.out] at ho ⊢
      simp only [Option.getD_some, Option.isSome_some] at ho ⊢
      rw [Ni'.out] at ho ⊢
      have Ri4 := Lib.hid (own_base (base' := w.heap.size) ho HB3.out.size)
      clear hb Ra3 Rb3 Rc3 Rm3 HB3
      clear ho
      go_wp2_with fail
      refine (specJoin_any w4 w4.heap.size 2 Aa na ca la Ab nb cb lb (Nat.le_refl _) (OwnT.reads Ra4.out) (by omega) (OwnT.reads Rb4.out) (by omega)).mono ?_
      rintro e w5 ⟨A5, c5, rfl, ho, hb⟩
      have HB5 := Lib.hid (HB4.out.trans (hb.mono HB4.out.size))
      have Ra5 := Lib.hid (own_below' Ra4.out hb)
      have Rb5 := Lib.hid (own_below' Rb4.out hb)
      have Rc5 := Lib.hid (own_below' Rc4.out hb)
      have Rm5 := Lib.hid (own_below' Rm4.out hb)
      have Ri5 := Lib.hid (own_below' Ri4.out hb)
      rw [HJ.out] at ho ⊢
      simp only [Option.getD_some, Option.isSome_some] at ho ⊢
      rw [Nm'.out] at ho ⊢
      have Rv5 := Lib.hid (own_base (base' := w.heap.size) ho HB4.out.size)
      clear hb Ra4 Rb4 Rc4 Rm4 Ri4 HB4
      clear ho
      go_wp2_with fail
      refine (sameT_any w5 w5.heap.size A3 A5 nm c3 c5 qm (Nat.le_refl _) (OwnT.reads Rm5.out) (OwnT.reads Rv5.out) (by omega)).mono ?_
      rintro e w6 ⟨rfl, hb⟩
      have HB6 := Lib.hid (HB5.out.trans (hb.mono HB5.out.size))
      have Ra6 := Lib.hid (own_below' Ra5.out hb)
      have Rb6 := Lib.hid (own_below' Rb5.out hb)
      have Rc6 := Lib.hid (own_below' Rc5.out hb)
      have Rm6 := Lib.hid (own_below' Rm5.out hb)
      have Ri6 := Lib.hid (own_below' Ri5.out hb)
      have Rv6 := Lib.hid (own_below' Rv5.out hb)
      clear hb Ra5 Rb5 Rc5 Rm5 Ri5 Rv5 HB5
      cases okc : Lv.levelOk lc with
      | false =>
        have OC := Lib.hid okc
        clear okc
        go_wp2_with fail
        refine (specOk_any w6 w6.heap.size Ac nc cc lc (Nat.le_refl _) (OwnT.reads Rc6.out) (by omega)).mono ?_
        rintro e w7 ⟨rfl, hb⟩
        have HB7 := Lib.hid (HB6.out.trans (hb.mono HB6.out.size))
        have Ra7 := Lib.hid (own_below' Ra6.out hb)
        have Rb7 := Lib.hid (own_below' Rb6.out hb)
        have Rc7 := Lib.hid (own_below' Rc6.out hb)
        have Rm7 := Lib.hid (own_below' Rm6.out hb)
        have Ri7 := Lib.hid (own_below' Ri6.out hb)
        have Rv7 := Lib.hid (own_below' Rv6.out hb)
        clear hb Ra6 Rb6 Rc6 Rm6 Ri6 Rv6 HB6
        rw [OC.out]
        go_wp2
        go_ret
        exact ⟨rfl, HB7.out⟩
      | true =>
        have OC := Lib.hid okc
        clear okc
        go_wp2_with fail
        refine (specOk_any w6 w6.heap.size Ac nc cc lc (Nat.le_refl _) (OwnT.reads Rc6.out) (by omega)).mono ?_
        rintro e w7 ⟨rfl, hb⟩
        have HB7 := Lib.hid (HB6.out.trans (hb.mono HB6.out.size))
        have Ra7 := Lib.hid (own_below' Ra6.out hb)
        have Rb7 := Lib.hid (own_below' Rb6.out hb)
        have Rc7 := Lib.hid (own_below' Rc6.out hb)
        have Rm7 := Lib.hid (own_below' Rm6.out hb)
        have Ri7 := Lib.hid (own_below' Ri6.out hb)
        have Rv7 := Lib.hid (own_below' Rv6.out hb)
        clear hb Ra6 Rb6 Rc6 Rm6 Ri6 Rv6 HB6
        rw [OC.out]
        cases hac : Dc.leR la lc with
        | false =>
          have AC := Lib.hid hac
          clear hac
          go_wp2_with fail
          refine (implLevelLe_any w7 w7.heap.size Aa na ca la Ac nc cc lc T pv (Nat.lt_of_lt_of_le h0 (Nat.le_trans hB HB7.out.size)) (Nat.le_refl _) (OwnT.reads Ra7.out) (by omega) (OwnT.reads Rc7.out) (by omega) (hE.below (HB7.out.mono hB) h0)).mono ?_
          rintro e w8 ⟨rfl, hb⟩
          have HB8 := Lib.hid (HB7.out.trans (hb.mono HB7.out.size))
          have Ra8 := Lib.hid (own_below' Ra7.out hb)
          have Rb8 := Lib.hid (own_below' Rb7.out hb)
          have Rc8 := Lib.hid (own_below' Rc7.out hb)
          have Rm8 := Lib.hid (own_below' Rm7.out hb)
          have Ri8 := Lib.hid (own_below' Ri7.out hb)
          have Rv8 := Lib.hid (own_below' Rv7.out hb)
          clear hb Ra7 Rb7 Rc7 Rm7 Ri7 Rv7 HB7
          rw [AC.out]
          go_wp2_with fail
          refine (implLevelLe_any w8 w8.heap.size Aa na ca la A3 nm c3 qm T pv (Nat.lt_of_lt_of_le h0 (Nat.le_trans hB HB8.out.size)) (Nat.le_refl _) (OwnT.reads Ra8.out) (by omega) (OwnT.reads Rm8.out) (by omega) (hE.below (HB8.out.mono hB) h0)).mono ?_
          rintro e w9 ⟨rfl, hb⟩
          have HB9 := Lib.hid (HB8.out.trans (hb.mono HB8.out.size))
          have Ra9 := Lib.hid (own_below' Ra8.out hb)
          have Rb9 := Lib.hid (own_below' Rb8.out hb)
          have Rc9 := Lib.hid (own_below' Rc8.out hb)
          have Rm9 := Lib.hid (own_below' Rm8.out hb)
          have Ri9 := Lib.hid (own_below' Ri8.out hb)
          have Rv9 := Lib.hid (own_below' Rv8.out hb)
          clear hb Ra8 Rb8 Rc8 Rm8 Ri8 Rv8 HB8
          rw [LM.out.1]
          go_wp2_with fail
          refine (implLevelLe_any w9 w9.heap.size Ab nb cb lb A3 nm c3 qm T pv (Nat.lt_of_lt_of_le h0 (Nat.le_trans hB HB9.out.size)) (Nat.le_refl _) (OwnT.reads Rb9.out) (by omega) (OwnT.reads Rm9.out) (by omega) (hE.below (HB9.out.mono hB) h0)).mono ?_
          rintro e w10 ⟨rfl, hb⟩
          have HB10 := Lib.hid (HB9.out.trans (hb.mono HB9.out.size))
          have Ra10 := Lib.hid (own_below' Ra9.out hb)
          have Rb10 := Lib.hid (own_below' Rb9.out hb)
          have Rc10 := Lib.hid (own_below' Rc9.out hb)
          have Rm10 := Lib.hid (own_below' Rm9.out hb)
          have Ri10 := Lib.hid (own_below' Ri9.out hb)
          have Rv10 := Lib.hid (own_below' Rv9.out hb)
          clear hb Ra9 Rb9 Rc9 Rm9 Ri9 Rv9 HB9
          rw [LM.out.2]
          go_wp2_with fail
          refine (implLevelLe_any w10 w10.heap.size A4 ni c4 qi A3 nm c3 qm T pv (Nat.lt_of_lt_of_le h0 (Nat.le_trans hB HB10.out.size)) (Nat.le_refl _) (OwnT.reads Ri10.out) (by omega) (OwnT.reads Rm10.out) (by omega) (hE.below (HB10.out.mono hB) h0)).mono ?_
          rintro e w11 ⟨rfl, hb⟩
          have HB11 := Lib.hid (HB10.out.trans (hb.mono HB10.out.size))
          have Ra11 := Lib.hid (own_below' Ra10.out hb)
          have Rb11 := Lib.hid (own_below' Rb10.out hb)
          have Rc11 := Lib.hid (own_below' Rc10.out hb)
          have Rm11 := Lib.hid (own_below' Rm10.out hb)
          have Ri11 := Lib.hid (own_below' Ri10.out hb)
          have Rv11 := Lib.hid (own_below' Rv10.out hb)
          clear hb Ra10 Rb10 Rc10 Rm10 Ri10 Rv10 HB10
          rw [IM.out.1]
          go_wp2_with fail
          refine (implLevelLe_any w11 w11.heap.size Ab nb cb lb A4 ni c4 qi T pv (Nat.lt_of_lt_of_le h0 (Nat.le_trans hB HB11.out.size)) (Nat.le_refl _) (OwnT.reads Rb11.out) (by omega) (OwnT.reads Ri11.out) (by omega) (hE.below (HB11.out.mono hB) h0)).mono ?_
          rintro e w12 ⟨rfl, hb⟩
          have HB12 := Lib.hid (HB11.out.trans (hb.mono HB11.out.size))
          have Ra12 := Lib.hid (own_below' Ra11.out hb)
          have Rb12 := Lib.hid (own_below' Rb11.out hb)
          have Rc12 := Lib.hid (own_below' Rc11.out hb)
          have Rm12 := Lib.hid (own_below' Rm11.out hb)
          have Ri12 := Lib.hid (own_below' Ri11.out hb)
          have Rv12 := Lib.hid (own_below' Rv11.out hb)
          clear hb Ra11 Rb11 Rc11 Rm11 Ri11 Rv11 HB11
          rw [IM.out.2]
          go_wp2_with fail
          refine (implLevelLe_any w12 w12.heap.size A3 nm c3 qm Ac nc cc lc T pv (Nat.lt_of_lt_of_le h0 (Nat.le_trans hB HB12.out.size)) (Nat.le_refl _) (OwnT.reads Rm12.out) (by omega) (OwnT.reads Rc12.out) (by omega) (hE.below (HB12.out.mono hB) h0)).mono ?_
          rintro e w13 ⟨rfl, hb⟩
          have HB13 := Lib.hid (HB12.out.trans (hb.mono HB12.out.size))
          have Ra13 := Lib.hid (own_below' Ra12.out hb)
          have Rb13 := Lib.hid (own_below' Rb12.out hb)
          have Rc13 := Lib.hid (own_below' Rc12.out hb)
          have Rm13 := Lib.hid (own_below' Rm12.out hb)
          have Ri13 := Lib.hid (own_below' Ri12.out hb)
          have Rv13 := Lib.hid (own_below' Rv12.out hb)
          clear hb Ra12 Rb12 Rc12 Rm12 Ri12 Rv12 HB12
          rw [MC.out, AC.out, Bool.false_and]
          go_wp2
          go_ret
          exact ⟨rfl, HB13.out⟩
        | true =>
          have AC := Lib.hid hac
          clear hac
          go_wp2_with fail
          refine (implLevelLe_any w7 w7.heap.size Aa na ca la Ac nc cc lc T pv (Nat.lt_of_lt_of_le h0 (Nat.le_trans hB HB7.out.size)) (Nat.le_refl _) (OwnT.reads Ra7.out) (by omega) (OwnT.reads Rc7.out) (by omega) (hE.below (HB7.out.mono hB) h0)).mono ?_
          rintro e w8 ⟨rfl, hb⟩
          have HB8 := Lib.hid (HB7.out.trans (hb.mono HB7.out.size))
          have Ra8 := Lib.hid (own_below' Ra7.out hb)
          have Rb8 := Lib.hid (own_below' Rb7.out hb)
          have Rc8 := Lib.hid (own_below' Rc7.out hb)
          have Rm8 := Lib.hid (own_below' Rm7.out hb)
          have Ri8 := Lib.hid (own_below' Ri7.out hb)
          have Rv8 := Lib.hid (own_below' Rv7.out hb)
          clear hb Ra7 Rb7 Rc7 Rm7 Ri7 Rv7 HB7
          rw [AC.out]
          cases hbc : Dc.leR lb lc with
          | false =>
            have BC := Lib.hid hbc
            clear hbc
            go_wp2_with fail
            refine (implLevelLe_any w8 w8.heap.size Ab nb cb lb Ac nc cc lc T pv (Nat.lt_of_lt_of_le h0 (Nat.le_trans hB HB8.out.size)) (Nat.le_refl _) (OwnT.reads Rb8.out) (by omega) (OwnT.reads Rc8.out) (by omega) (hE.below (HB8.out.mono hB) h0)).mono ?_
            rintro e w9 ⟨rfl, hb⟩
            have HB9 := Lib.hid (HB8.out.trans (hb.mono HB8.out.size))
            have Ra9 := Lib.hid (own_below' Ra8.out hb)
            have Rb9 := Lib.hid (own_below' Rb8.out hb)
            have Rc9 := Lib.hid (own_below' Rc8.out hb)
            have Rm9 := Lib.hid (own_below' Rm8.out hb)
            have Ri9 := Lib.hid (own_below' Ri8.out hb)
            have Rv9 := Lib.hid (own_below' Rv8.out hb)
            clear hb Ra8 Rb8 Rc8 Rm8 Ri8 Rv8 HB8
            rw [BC.out]
            go_wp2_with fail
            refine (implLevelLe_any w9 w9.heap.size Aa na ca la A3 nm c3 qm T pv (Nat.lt_of_lt_of_le h0 (Nat.le_trans hB HB9.out.size)) (Nat.le_refl _) (OwnT.reads Ra9.out) (by omega) (OwnT.reads Rm9.out) (by omega) (hE.below (HB9.out.mono hB) h0)).mono ?_
            rintro e w10 ⟨rfl, hb⟩
            have HB10 := Lib.hid (HB9.out.trans (hb.mono HB9.out.size))
            have Ra10 := Lib.hid (own_below' Ra9.out hb)
            have Rb10 := Lib.hid (own_below' Rb9.out hb)
            have Rc10 := Lib.hid (own_below' Rc9.out hb)
            have Rm10 := Lib.hid (own_below' Rm9.out hb)
            have Ri10 := Lib.hid (own_below' Ri9.out hb)
            have Rv10 := Lib.hid (own_below' Rv9.out hb)
            clear hb Ra9 Rb9 Rc9 Rm9 Ri9 Rv9 HB9
            rw [LM.out.1]
            go_wp2_with fail
            refine (implLevelLe_any w10 w10.heap.size Ab nb cb lb A3 nm c3 qm T pv (Nat.lt_of_lt_of_le h0 (Nat.le_trans hB HB10.out.size)) (Nat.le_refl _) (OwnT.reads Rb10.out) (by omega) (OwnT.reads Rm10.out) (by omega) (hE.below (HB10.out.mono hB) h0)).mono ?_
            rintro e w11 ⟨rfl, hb⟩
            have HB11 := Lib.hid (HB10.out.trans (hb.mono HB10.out.size))
            have Ra11 := Lib.hid (own_below' Ra10.out hb)
            have Rb11 := Lib.hid (own_below' Rb10.out hb)
            have Rc11 := Lib.hid (own_below' Rc10.out hb)
            have Rm11 := Lib.hid (own_below' Rm10.out hb)
            have Ri11 := Lib.hid (own_below' Ri10.out hb)
            have Rv11 := Lib.hid (own_below' Rv10.out hb)
            clear hb Ra10 Rb10 Rc10 Rm10 Ri10 Rv10 HB10
            rw [LM.out.2]
            go_wp2_with fail
            refine (implLevelLe_any w11 w11.heap.size A4 ni c4 qi A3 nm c3 qm T pv (Nat.lt_of_lt_of_le h0 (Nat.le_trans hB HB11.out.size)) (Nat.le_refl _) (OwnT.reads Ri11.out) (by omega) (OwnT.reads Rm11.out) (by omega) (hE.below (HB11.out.mono hB) h0)).mono ?_
            rintro e w12 ⟨rfl, hb⟩
            have HB12 := Lib.hid (HB11.out.trans (hb.mono HB11.out.size))
            have Ra12 := Lib.hid (own_below' Ra11.out hb)
            have Rb12 := Lib.hid (own_below' Rb11.out hb)
            have Rc12 := Lib.hid (own_below' Rc11.out hb)
            have Rm12 := Lib.hid (own_below' Rm11.out hb)
            have Ri12 := Lib.hid (own_below' Ri11.out hb)
            have Rv12 := Lib.hid (own_below' Rv11.out hb)
            clear hb Ra11 Rb11 Rc11 Rm11 Ri11 Rv11 HB11
            rw [IM.out.1]
            go_wp2_with fail
            refine (implLevelLe_any w12 w12.heap.size Ab nb cb lb A4 ni c4 qi T pv (Nat.lt_of_lt_of_le h0 (Nat.le_trans hB HB12.out.size)) (Nat.le_refl _) (OwnT.reads Rb12.out) (by omega) (OwnT.reads Ri12.out) (by omega) (hE.below (HB12.out.mono hB) h0)).mono ?_
            rintro e w13 ⟨rfl, hb⟩
            have HB13 := Lib.hid (HB12.out.trans (hb.mono HB12.out.size))
            have Ra13 := Lib.hid (own_below' Ra12.out hb)
            have Rb13 := Lib.hid (own_below' Rb12.out hb)
            have Rc13 := Lib.hid (own_below' Rc12.out hb)
            have Rm13 := Lib.hid (own_below' Rm12.out hb)
            have Ri13 := Lib.hid (own_below' Ri12.out hb)
            have Rv13 := Lib.hid (own_below' Rv12.out hb)
            clear hb Ra12 Rb12 Rc12 Rm12 Ri12 Rv12 HB12
            rw [IM.out.2]
            go_wp2_with fail
            refine (implLevelLe_any w13 w13.heap.size A3 nm c3 qm Ac nc cc lc T pv (Nat.lt_of_lt_of_le h0 (Nat.le_trans hB HB13.out.size)) (Nat.le_refl _) (OwnT.reads Rm13.out) (by omega) (OwnT.reads Rc13.out) (by omega) (hE.below (HB13.out.mono hB) h0)).mono ?_
            rintro e w14 ⟨rfl, hb⟩
            have HB14 := Lib.hid (HB13.out.trans (hb.mono HB13.out.size))
            have Ra14 := Lib.hid (own_below' Ra13.out hb)
            have Rb14 := Lib.hid (own_below' Rb13.out hb)
            have Rc14 := Lib.hid (own_below' Rc13.out hb)
            have Rm14 := Lib.hid (own_below' Rm13.out hb)
            have Ri14 := Lib.hid (own_below' Ri13.out hb)
            have Rv14 := Lib.hid (own_below' Rv13.out hb)
            clear hb Ra13 Rb13 Rc13 Rm13 Ri13 Rv13 HB13
            rw [MC.out, AC.out, BC.out, Bool.true_and]
            go_wp2
            go_ret
            exact ⟨rfl, HB14.out⟩
          | true =>
            have BC := Lib.hid hbc
            clear hbc
            go_wp2_with fail
            refine (implLevelLe_any w8 w8.heap.size Ab nb cb lb Ac nc cc lc T pv (Nat.lt_of_lt_of_le h0 (Nat.le_trans hB HB8.out.size)) (Nat.le_refl _) (OwnT.reads Rb8.out) (by omega) (OwnT.reads Rc8.out) (by omega) (hE.below (HB8.out.mono hB) h0)).mono ?_
            rintro e w9 ⟨rfl, hb⟩
            have HB9 := Lib.hid (HB8.out.trans (hb.mono HB8.out.size))
            have Ra9 := Lib.hid (own_below' Ra8.out hb)
            have Rb9 := Lib.hid (own_below' Rb8.out hb)
            have Rc9 := Lib.hid (own_below' Rc8.out hb)
            have Rm9 := Lib.hid (own_below' Rm8.out hb)
            have Ri9 := Lib.hid (own_below' Ri8.out hb)
            have Rv9 := Lib.hid (own_below' Rv8.out hb)
            clear hb Ra8 Rb8 Rc8 Rm8 Ri8 Rv8 HB8
            rw [BC.out]
            go_wp2_with fail
            refine (implLevelLe_any w9 w9.heap.size Aa na ca la A3 nm c3 qm T pv (Nat.lt_of_lt_of_le h0 (Nat.le_trans hB HB9.out.size)) (Nat.le_refl _) (OwnT.reads Ra9.out) (by omega) (OwnT.reads Rm9.out) (by omega) (hE.below (HB9.out.mono hB) h0)).mono ?_
            rintro e w10 ⟨rfl, hb⟩
            have HB10 := Lib.hid (HB9.out.trans (hb.mono HB9.out.size))
            have Ra10 := Lib.hid (own_below' Ra9.out hb)
            have Rb10 := Lib.hid (own_below' Rb9.out hb)
            have Rc10 := Lib.hid (own_below' Rc9.out hb)
            have Rm10 := Lib.hid (own_below' Rm9.out hb)
            have Ri10 := Lib.hid (own_below' Ri9.out hb)
            have Rv10 := Lib.hid (own_below' Rv9.out hb)
            clear hb Ra9 Rb9 Rc9 Rm9 Ri9 Rv9 HB9
            rw [LM.out.1]
            go_wp2_with fail
            refine (implLevelLe_any w10 w10.heap.size Ab nb cb lb A3 nm c3 qm T pv (Nat.lt_of_lt_of_le h0 (Nat.le_trans hB HB10.out.size)) (Nat.le_refl _) (OwnT.reads Rb10.out) (by omega) (OwnT.reads Rm10.out) (by omega) (hE.below (HB10.out.mono hB) h0)).mono ?_
            rintro e w11 ⟨rfl, hb⟩
            have HB11 := Lib.hid (HB10.out.trans (hb.mono HB10.out.size))
            have Ra11 := Lib.hid (own_below' Ra10.out hb)
            have Rb11 := Lib.hid (own_below' Rb10.out hb)
            have Rc11 := Lib.hid (own_below' Rc10.out hb)
            have Rm11 := Lib.hid (own_below' Rm10.out hb)
            have Ri11 := Lib.hid (own_below' Ri10.out hb)
            have Rv11 := Lib.hid (own_below' Rv10.out hb)
            clear hb Ra10 Rb10 Rc10 Rm10 Ri10 Rv10 HB10
            rw [LM.out.2]
            go_wp2_with fail
            refine (implLevelLe_any w11 w11.heap.size A4 ni c4 qi A3 nm c3 qm T pv (Nat.lt_of_lt_of_le h0 (Nat.le_trans hB HB11.out.size)) (Nat.le_refl _) (OwnT.reads Ri11.out) (by omega) (OwnT.reads Rm11.out) (by omega) (hE.below (HB11.out.mono hB) h0)).mono ?_
            rintro e w12 ⟨rfl, hb⟩
            have HB12 := Lib.hid (HB11.out.trans (hb.mono HB11.out.size))
            have Ra12 := Lib.hid (own_below' Ra11.out hb)
            have Rb12 := Lib.hid (own_below' Rb11.out hb)
            have Rc12 := Lib.hid (own_below' Rc11.out hb)
            have Rm12 := Lib.hid (own_below' Rm11.out hb)
            have Ri12 := Lib.hid (own_below' Ri11.out hb)
            have Rv12 := Lib.hid (own_below' Rv11.out hb)
            clear hb Ra11 Rb11 Rc11 Rm11 Ri11 Rv11 HB11
            rw [IM.out.1]
            go_wp2_with fail
            refine (implLevelLe_any w12 w12.heap.size Ab nb cb lb A4 ni c4 qi T pv (Nat.lt_of_lt_of_le h0 (Nat.le_trans hB HB12.out.size)) (Nat.le_refl _) (OwnT.reads Rb12.out) (by omega) (OwnT.reads Ri12.out) (by omega) (hE.below (HB12.out.mono hB) h0)).mono ?_
            rintro e w13 ⟨rfl, hb⟩
            have HB13 := Lib.hid (HB12.out.trans (hb.mono HB12.out.size))
            have Ra13 := Lib.hid (own_below' Ra12.out hb)
            have Rb13 := Lib.hid (own_below' Rb12.out hb)
            have Rc13 := Lib.hid (own_below' Rc12.out hb)
            have Rm13 := Lib.hid (own_below' Rm12.out hb)
            have Ri13 := Lib.hid (own_below' Ri12.out hb)
            have Rv13 := Lib.hid (own_below' Rv12.out hb)
            clear hb Ra12 Rb12 Rc12 Rm12 Ri12 Rv12 HB12
            rw [IM.out.2]
            go_wp2_with fail
            refine (implLevelLe_any w13 w13.heap.size A3 nm c3 qm Ac nc cc lc T pv (Nat.lt_of_lt_of_le h0 (Nat.le_trans hB HB13.out.size)) (Nat.le_refl _) (OwnT.reads Rm13.out) (by omega) (OwnT.reads Rc13.out) (by omega) (hE.below (HB13.out.mono hB) h0)).mono ?_
            rintro e w14 ⟨rfl, hb⟩
            have HB14 := Lib.hid (HB13.out.trans (hb.mono HB13.out.size))
            have Ra14 := Lib.hid (own_below' Ra13.out hb)
            have Rb14 := Lib.hid (own_below' Rb13.out hb)
            have Rc14 := Lib.hid (own_below' Rc13.out hb)
            have Rm14 := Lib.hid (own_below' Rm13.out hb)
            have Ri14 := Lib.hid (own_below' Ri13.out hb)
            have Rv14 := Lib.hid (own_below' Rv13.out hb)
            clear hb Ra13 Rb13 Rc13 Rm13 Ri13 Rv13 HB13
            rw [MC.out, AC.out, BC.out, Bool.true_and]
            go_wp2
            go_ret
            exact ⟨rfl, HB14.out⟩
end Go.Proofs.YtghoofgfimeedaaDoor
