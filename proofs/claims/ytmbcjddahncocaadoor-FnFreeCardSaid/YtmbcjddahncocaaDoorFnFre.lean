/- The law FnFree: the walk. -/
import Derived.Test.YtmbcjddahncocaaDoorRsMath
import Derived.Test.YtmbcjddahncocaaDoorRegInvIn
import Derived.Test.YtmbcjddahncocaaDoorCtrMath
import Derived.Test.YtmbcjddahncocaaDoorDCts

namespace Go.Proofs.YtmbcjddahncocaaDoor
open Go.RowKit
open Cs (Cn)

set_option maxRecDepth 100000 in
set_option maxHeartbeats 16000000 in
theorem fnFree_any (w : World) (B : Nat) (A : Option Addr) (n c : Nat) (T : TypeId) (pv : Value) (Tc : TypeId) (pc : Value) (h0 : 0 < B) (h0c : 1 < B) (hB : B ≤ w.heap.size)
    (hb : BytR w B A n) (_hnc : n ≤ c) (hE : ErrAt w T pv) (hEc : ErrCAt w Tc pc) :
    Calls Tryd.prog 3 #[.slice A n c] w fun e w' => e = .returned (.bool true) ∧ Below w.heap.size w w' := by
  by_cases hbig : 1048576 < (n : Int)
  · go_enter Tryd.func3, Tryd.ntmps3
    go_wp2_with fail
    refine (big_any w A n c).mono ?_
    rintro e w' ⟨rfl, rfl⟩
    rw [decide_eq_true (by omega)]
    go_wp2
    go_ret
    exact ⟨rfl, Below.refl _ _⟩
  · have hn : n ≤ 1048576 := by omega
    go_enter Tryd.func3, Tryd.ntmps3
    go_wp2_with fail
    refine (big_any w A n c).mono ?_
    rintro e w' ⟨rfl, rfl⟩
    rw [decide_eq_false (by omega)]
    have HB0 : Hid (Below w.heap.size w w) := Below.refl _ _
    go_wp2_with fail
    refine (drawCtr_any w B A n c hB hb hn).mono ?_
    rintro e w1 ⟨⟨Aa, na, ca, la, Ab, nb, cb, lb, rfl, hna, hnb, hoa, hob⟩, hb1⟩
    have HB1 := Lib.hid hb1
    have Ra1 := Lib.hid hoa
    have Rb1 := Lib.hid hob
    clear hoa hob hb1
    cases oka : Lv.levelOk la with
    | false =>
      have OA := Lib.hid oka
      have HY := Lib.hid (Dc.leR_no (a := la) (b := lb) (fun h => by rw [oka] at h; cases h.1))
      have HC := Lib.hid (Dc.ctrR_no (a := la) (b := lb) (fun h => by rw [oka] at h; cases h.1))
      clear oka
      go_wp2_with fail
      refine (implLevelLe_any w1 w1.heap.size Aa na ca la Ab nb cb lb T pv (Nat.lt_of_lt_of_le h0 (Nat.le_trans hB HB1.out.size)) (Nat.le_refl _) (OwnT.reads Ra1.out) (by omega) (OwnT.reads Rb1.out) (by omega) (hE.below (HB1.out.mono hB) h0)).mono ?_
      rintro e w2 ⟨rfl, hb⟩
      have HB2 := Lib.hid (HB1.out.trans (hb.mono HB1.out.size))
      have Ra2 := Lib.hid (own_below' Ra1.out hb)
      have Rb2 := Lib.hid (own_below' Rb1.out hb)
      clear hb Ra1 Rb1 HB1
      rw [HY.out]
      go_wp2_with fail
      refine (implCounter_any w2 w2.heap.size Aa na ca la Ab nb cb lb T pv (Nat.lt_of_lt_of_le h0 (Nat.le_trans hB HB2.out.size)) (Nat.le_refl _) (OwnT.reads Ra2.out) (by omega) (OwnT.reads Rb2.out) (by omega) (hE.below (HB2.out.mono hB) h0)).mono ?_
      rintro e w3 ⟨A3, c3, rfl, ho, hb'⟩
      have HB3 := Lib.hid (HB2.out.trans (hb'.mono HB2.out.size))
      have Ra3 := Lib.hid (own_below' Ra2.out hb')
      have Rb3 := Lib.hid (own_below' Rb2.out hb')
      rw [HC.out] at ho ⊢
      simp only [Option.getD_none, Option.isSome_none, List.length_nil] at ho ⊢
      have Rv3 := Lib.hid (own_base (base' := w.heap.size) ho HB2.out.size)
      clear hb' Ra2 Rb2 HB2
      clear ho
      go_wp2_with fail
      refine (specCounter_any w3 w3.heap.size Aa na ca la Ab nb cb lb (Nat.le_refl _) (OwnT.reads Ra3.out) (by omega) (OwnT.reads Rb3.out) (by omega)).mono ?_
      rintro e w4 ⟨A4, c4, rfl, ho, hb'⟩
      have HB4 := Lib.hid (HB3.out.trans (hb'.mono HB3.out.size))
      have Ra4 := Lib.hid (own_below' Ra3.out hb')
      have Rb4 := Lib.hid (own_below' Rb3.out hb')
      have Rv4 := Lib.hid (own_below' Rv3.out hb')
      rw [HC.out] at ho ⊢
      simp only [Option.getD_none, Option.isSome_none, List.length_nil] at ho ⊢
      have Ru4 := Lib.hid (own_base (base' := w.heap.size) ho HB3.out.size)
      clear hb' Ra3 Rb3 Rv3 HB3
      clear ho
      go_wp2_with fail
      refine (specLevelLe_any w4 w4.heap.size Aa na ca la Ab nb cb lb (Nat.le_refl _) (OwnT.reads Ra4.out) (by omega) (OwnT.reads Rb4.out) (by omega)).mono ?_
      rintro e w5 ⟨rfl, hb⟩
      have HB5 := Lib.hid (HB4.out.trans (hb.mono HB4.out.size))
      have Ra5 := Lib.hid (own_below' Ra4.out hb)
      have Rb5 := Lib.hid (own_below' Rb4.out hb)
      have Rv5 := Lib.hid (own_below' Rv4.out hb)
      have Ru5 := Lib.hid (own_below' Ru4.out hb)
      clear hb Ra4 Rb4 Rv4 Ru4 HB4
      rw [HY.out]
      go_wp2_with fail
      refine (same_any w5 w5.heap.size A3 A4 0 0 c3 c4 ([] : List Int) ([] : List Int) (Nat.le_refl _) (OwnI.reads Rv5.out) (OwnI.reads Ru5.out) (by omega) (by omega)).mono ?_
      rintro e w6 ⟨rfl, hb⟩
      have HB6 := Lib.hid (HB5.out.trans (hb.mono HB5.out.size))
      have Ra6 := Lib.hid (own_below' Ra5.out hb)
      have Rb6 := Lib.hid (own_below' Rb5.out hb)
      have Rv6 := Lib.hid (own_below' Rv5.out hb)
      have Ru6 := Lib.hid (own_below' Ru5.out hb)
      clear hb Ra5 Rb5 Rv5 Ru5 HB5
      rw [decide_eq_true rfl]
      go_wp2_with fail
      refine (specOk_any w6 w6.heap.size Aa na ca la (Nat.le_refl _) (OwnT.reads Ra6.out) (by omega)).mono ?_
      rintro e w7 ⟨rfl, hb⟩
      have HB7 := Lib.hid (HB6.out.trans (hb.mono HB6.out.size))
      have Ra7 := Lib.hid (own_below' Ra6.out hb)
      have Rb7 := Lib.hid (own_below' Rb6.out hb)
      have Rv7 := Lib.hid (own_below' Rv6.out hb)
      have Ru7 := Lib.hid (own_below' Ru6.out hb)
      clear hb Ra6 Rb6 Rv6 Ru6 HB6
      rw [OA.out]
      go_wp2
      go_ret
      exact ⟨rfl, HB7.out⟩
    | true =>
      have OA := Lib.hid oka
      clear oka
      cases okb : Lv.levelOk lb with
      | false =>
        have OB := Lib.hid okb
        have HY := Lib.hid (Dc.leR_no (a := la) (b := lb) (fun h => by rw [okb] at h; cases h.2))
        have HC := Lib.hid (Dc.ctrR_no (a := la) (b := lb) (fun h => by rw [okb] at h; cases h.2))
        clear okb
        go_wp2_with fail
        refine (implLevelLe_any w1 w1.heap.size Aa na ca la Ab nb cb lb T pv (Nat.lt_of_lt_of_le h0 (Nat.le_trans hB HB1.out.size)) (Nat.le_refl _) (OwnT.reads Ra1.out) (by omega) (OwnT.reads Rb1.out) (by omega) (hE.below (HB1.out.mono hB) h0)).mono ?_
        rintro e w2 ⟨rfl, hb⟩
        have HB2 := Lib.hid (HB1.out.trans (hb.mono HB1.out.size))
        have Ra2 := Lib.hid (own_below' Ra1.out hb)
        have Rb2 := Lib.hid (own_below' Rb1.out hb)
        clear hb Ra1 Rb1 HB1
        rw [HY.out]
        go_wp2_with fail
        refine (implCounter_any w2 w2.heap.size Aa na ca la Ab nb cb lb T pv (Nat.lt_of_lt_of_le h0 (Nat.le_trans hB HB2.out.size)) (Nat.le_refl _) (OwnT.reads Ra2.out) (by omega) (OwnT.reads Rb2.out) (by omega) (hE.below (HB2.out.mono hB) h0)).mono ?_
        rintro e w3 ⟨A3, c3, rfl, ho, hb'⟩
        have HB3 := Lib.hid (HB2.out.trans (hb'.mono HB2.out.size))
        have Ra3 := Lib.hid (own_below' Ra2.out hb')
        have Rb3 := Lib.hid (own_below' Rb2.out hb')
        rw [HC.out] at ho ⊢
        simp only [Option.getD_none, Option.isSome_none, List.length_nil] at ho ⊢
        have Rv3 := Lib.hid (own_base (base' := w.heap.size) ho HB2.out.size)
        clear hb' Ra2 Rb2 HB2
        clear ho
        go_wp2_with fail
        refine (specCounter_any w3 w3.heap.size Aa na ca la Ab nb cb lb (Nat.le_refl _) (OwnT.reads Ra3.out) (by omega) (OwnT.reads Rb3.out) (by omega)).mono ?_
        rintro e w4 ⟨A4, c4, rfl, ho, hb'⟩
        have HB4 := Lib.hid (HB3.out.trans (hb'.mono HB3.out.size))
        have Ra4 := Lib.hid (own_below' Ra3.out hb')
        have Rb4 := Lib.hid (own_below' Rb3.out hb')
        have Rv4 := Lib.hid (own_below' Rv3.out hb')
        rw [HC.out] at ho ⊢
        simp only [Option.getD_none, Option.isSome_none, List.length_nil] at ho ⊢
        have Ru4 := Lib.hid (own_base (base' := w.heap.size) ho HB3.out.size)
        clear hb' Ra3 Rb3 Rv3 HB3
        clear ho
        go_wp2_with fail
        refine (specLevelLe_any w4 w4.heap.size Aa na ca la Ab nb cb lb (Nat.le_refl _) (OwnT.reads Ra4.out) (by omega) (OwnT.reads Rb4.out) (by omega)).mono ?_
        rintro e w5 ⟨rfl, hb⟩
        have HB5 := Lib.hid (HB4.out.trans (hb.mono HB4.out.size))
        have Ra5 := Lib.hid (own_below' Ra4.out hb)
        have Rb5 := Lib.hid (own_below' Rb4.out hb)
        have Rv5 := Lib.hid (own_below' Rv4.out hb)
        have Ru5 := Lib.hid (own_below' Ru4.out hb)
        clear hb Ra4 Rb4 Rv4 Ru4 HB4
        rw [HY.out]
        go_wp2_with fail
        refine (same_any w5 w5.heap.size A3 A4 0 0 c3 c4 ([] : List Int) ([] : List Int) (Nat.le_refl _) (OwnI.reads Rv5.out) (OwnI.reads Ru5.out) (by omega) (by omega)).mono ?_
        rintro e w6 ⟨rfl, hb⟩
        have HB6 := Lib.hid (HB5.out.trans (hb.mono HB5.out.size))
        have Ra6 := Lib.hid (own_below' Ra5.out hb)
        have Rb6 := Lib.hid (own_below' Rb5.out hb)
        have Rv6 := Lib.hid (own_below' Rv5.out hb)
        have Ru6 := Lib.hid (own_below' Ru5.out hb)
        clear hb Ra5 Rb5 Rv5 Ru5 HB5
        rw [decide_eq_true rfl]
        go_wp2_with fail
        refine (specOk_any w6 w6.heap.size Aa na ca la (Nat.le_refl _) (OwnT.reads Ra6.out) (by omega)).mono ?_
        rintro e w7 ⟨rfl, hb⟩
        have HB7 := Lib.hid (HB6.out.trans (hb.mono HB6.out.size))
        have Ra7 := Lib.hid (own_below' Ra6.out hb)
        have Rb7 := Lib.hid (own_below' Rb6.out hb)
        have Rv7 := Lib.hid (own_below' Rv6.out hb)
        have Ru7 := Lib.hid (own_below' Ru6.out hb)
        clear hb Ra6 Rb6 Rv6 Ru6 HB6
        rw [OA.out]
        go_wp2_with fail
        refine (specOk_any w7 w7.heap.size Ab nb cb lb (Nat.le_refl _) (OwnT.reads Rb7.out) (by omega)).mono ?_
        rintro e w8 ⟨rfl, hb⟩
        have HB8 := Lib.hid (HB7.out.trans (hb.mono HB7.out.size))
        have Ra8 := Lib.hid (own_below' Ra7.out hb)
        have Rb8 := Lib.hid (own_below' Rb7.out hb)
        have Rv8 := Lib.hid (own_below' Rv7.out hb)
        have Ru8 := Lib.hid (own_below' Ru7.out hb)
        clear hb Ra7 Rb7 Rv7 Ru7 HB7
        rw [OB.out]
        go_wp2
        go_ret
        exact ⟨rfl, HB8.out⟩
      | true =>
        have OB := Lib.hid okb
        clear okb
        cases hctr : Dc.ctrR la lb with
        | some e5 =>
          have HC := Lib.hid hctr
          obtain ⟨q1, q2, q3, q4⟩ := Dc.ctr_some OA.out OB.out hctr
          have HY := Lib.hid q1
          have HE5 := Lib.hid q2
          have EA := Lib.hid (evalU_ok q3 OA.out)
          have EB := Lib.hid (evalU_ok q3 OB.out)
          have HGT := Lib.hid q4
          clear hctr q1 q2 q3 q4
          go_wp2_with fail
          refine (implLevelLe_any w1 w1.heap.size Aa na ca la Ab nb cb lb T pv (Nat.lt_of_lt_of_le h0 (Nat.le_trans hB HB1.out.size)) (Nat.le_refl _) (OwnT.reads Ra1.out) (by omega) (OwnT.reads Rb1.out) (by omega) (hE.below (HB1.out.mono hB) h0)).mono ?_
          rintro e w2 ⟨rfl, hb⟩
          have HB2 := Lib.hid (HB1.out.trans (hb.mono HB1.out.size))
          have Ra2 := Lib.hid (own_below' Ra1.out hb)
          have Rb2 := Lib.hid (own_below' Rb1.out hb)
          clear hb Ra1 Rb1 HB1
          rw [HY.out]
          go_wp2_with fail
          refine (implCounter_any w2 w2.heap.size Aa na ca la Ab nb cb lb T pv (Nat.lt_of_lt_of_le h0 (Nat.le_trans hB HB2.out.size)) (Nat.le_refl _) (OwnT.reads Ra2.out) (by omega) (OwnT.reads Rb2.out) (by omega) (hE.below (HB2.out.mono hB) h0)).mono ?_
          rintro e w3 ⟨A3, c3, rfl, ho, hb'⟩
          have HB3 := Lib.hid (HB2.out.trans (hb'.mono HB2.out.size))
          have Ra3 := Lib.hid (own_below' Ra2.out hb')
          have Rb3 := Lib.hid (own_below' Rb2.out hb')
          rw [HC.out] at ho ⊢
          simp only [Option.getD_some, Option.isSome_some] at ho ⊢
          rw [HE5.out] at ho ⊢
          have Rv3 := Lib.hid (own_base (base' := w.heap.size) ho HB2.out.size)
          clear hb' Ra2 Rb2 HB2
          clear ho
          go_wp2_with fail
          refine (specCounter_any w3 w3.heap.size Aa na ca la Ab nb cb lb (Nat.le_refl _) (OwnT.reads Ra3.out) (by omega) (OwnT.reads Rb3.out) (by omega)).mono ?_
          rintro e w4 ⟨A4, c4, rfl, ho, hb'⟩
          have HB4 := Lib.hid (HB3.out.trans (hb'.mono HB3.out.size))
          have Ra4 := Lib.hid (own_below' Ra3.out hb')
          have Rb4 := Lib.hid (own_below' Rb3.out hb')
          have Rv4 := Lib.hid (own_below' Rv3.out hb')
          rw [HC.out] at ho ⊢
          simp only [Option.getD_some, Option.isSome_some] at ho ⊢
          rw [HE5.out] at ho ⊢
          have Ru4 := Lib.hid (own_base (base' := w.heap.size) ho HB3.out.size)
          clear hb' Ra3 Rb3 Rv3 HB3
          clear ho
          go_wp2_with fail
          refine (specLevelLe_any w4 w4.heap.size Aa na ca la Ab nb cb lb (Nat.le_refl _) (OwnT.reads Ra4.out) (by omega) (OwnT.reads Rb4.out) (by omega)).mono ?_
          rintro e w5 ⟨rfl, hb⟩
          have HB5 := Lib.hid (HB4.out.trans (hb.mono HB4.out.size))
          have Ra5 := Lib.hid (own_below' Ra4.out hb)
          have Rb5 := Lib.hid (own_below' Rb4.out hb)
          have Rv5 := Lib.hid (own_below' Rv4.out hb)
          have Ru5 := Lib.hid (own_below' Ru4.out hb)
          clear hb Ra4 Rb4 Rv4 Ru4 HB4
          rw [HY.out]
          go_wp2_with fail
          refine (same_any w5 w5.heap.size A3 A4 5 5 c3 c4 e5 e5 (Nat.le_refl _) (OwnI.reads Rv5.out) (OwnI.reads Ru5.out) (by omega) (by omega)).mono ?_
          rintro e w6 ⟨rfl, hb⟩
          have HB6 := Lib.hid (HB5.out.trans (hb.mono HB5.out.size))
          have Ra6 := Lib.hid (own_below' Ra5.out hb)
          have Rb6 := Lib.hid (own_below' Rb5.out hb)
          have Rv6 := Lib.hid (own_below' Rv5.out hb)
          have Ru6 := Lib.hid (own_below' Ru5.out hb)
          clear hb Ra5 Rb5 Rv5 Ru5 HB5
          rw [decide_eq_true rfl]
          go_wp2_with fail
          refine (specOk_any w6 w6.heap.size Aa na ca la (Nat.le_refl _) (OwnT.reads Ra6.out) (by omega)).mono ?_
          rintro e w7 ⟨rfl, hb⟩
          have HB7 := Lib.hid (HB6.out.trans (hb.mono HB6.out.size))
          have Ra7 := Lib.hid (own_below' Ra6.out hb)
          have Rb7 := Lib.hid (own_below' Rb6.out hb)
          have Rv7 := Lib.hid (own_below' Rv6.out hb)
          have Ru7 := Lib.hid (own_below' Ru6.out hb)
          clear hb Ra6 Rb6 Rv6 Ru6 HB6
          rw [OA.out]
          go_wp2_with fail
          refine (specOk_any w7 w7.heap.size Ab nb cb lb (Nat.le_refl _) (OwnT.reads Rb7.out) (by omega)).mono ?_
          rintro e w8 ⟨rfl, hb⟩
          have HB8 := Lib.hid (HB7.out.trans (hb.mono HB7.out.size))
          have Ra8 := Lib.hid (own_below' Ra7.out hb)
          have Rb8 := Lib.hid (own_below' Rb7.out hb)
          have Rv8 := Lib.hid (own_below' Rv7.out hb)
          have Ru8 := Lib.hid (own_below' Ru7.out hb)
          clear hb Ra7 Rb7 Rv7 Ru7 HB7
          rw [OB.out]
          go_wp2_with fail
          refine (envs_any w8 B A n c 3 5 (Nat.le_trans hB HB8.out.size) (hb.below (HB8.out.mono hB)) hn (by omega) (by omega)).mono ?_
          rintro e w9 ⟨gx, capx, envx, rfl, h5x, hex, ho, hb'⟩
          have HB9 := Lib.hid (HB8.out.trans (hb'.mono HB8.out.size))
          have Ra9 := Lib.hid (own_below' Ra8.out hb')
          have Rb9 := Lib.hid (own_below' Rb8.out hb')
          have Rv9 := Lib.hid (own_below' Rv8.out hb')
          have Ru9 := Lib.hid (own_below' Ru8.out hb')
          have Rx9 := Lib.hid (own_base (base' := w.heap.size) ho HB8.out.size)
          have HEx := Lib.hid (env_small h5x (by omega) hex)
          have H5x := Lib.hid h5x
          clear hb' Ra8 Rb8 Rv8 Ru8 HB8
          clear ho h5x hex
          have EX := Lib.hid (evalU_ok HEx.out.1 OA.out)
          have EY := Lib.hid (evalU_ok HEx.out.1 OB.out)
          go_wp2_with fail
          refine (levelEval_any w9 w9.heap.size Aa (some ⟨gx, 0, none⟩) na ca 5 capx envx la T pv (Nat.lt_of_lt_of_le h0 (Nat.le_trans hB HB9.out.size)) (Nat.le_refl _) (OwnT.reads Ra9.out) (by omega) (OwnI.reads Rx9.out) (by omega) (hE.below (HB9.out.mono hB) h0)).mono ?_
          rintro e w10 ⟨rfl, hb⟩
          have HB10 := Lib.hid (HB9.out.trans (hb.mono HB9.out.size))
          have Ra10 := Lib.hid (own_below' Ra9.out hb)
          have Rb10 := Lib.hid (own_below' Rb9.out hb)
          have Rv10 := Lib.hid (own_below' Rv9.out hb)
          have Ru10 := Lib.hid (own_below' Ru9.out hb)
          have Rx10 := Lib.hid (own_below' Rx9.out hb)
          clear hb Ra9 Rb9 Rv9 Ru9 Rx9 HB9
          rw [EX.out]
          go_wp2_with fail
          refine (levelEval_any w10 w10.heap.size Ab (some ⟨gx, 0, none⟩) nb cb 5 capx envx lb T pv (Nat.lt_of_lt_of_le h0 (Nat.le_trans hB HB10.out.size)) (Nat.le_refl _) (OwnT.reads Rb10.out) (by omega) (OwnI.reads Rx10.out) (by omega) (hE.below (HB10.out.mono hB) h0)).mono ?_
          rintro e w11 ⟨rfl, hb⟩
          have HB11 := Lib.hid (HB10.out.trans (hb.mono HB10.out.size))
          have Ra11 := Lib.hid (own_below' Ra10.out hb)
          have Rb11 := Lib.hid (own_below' Rb10.out hb)
          have Rv11 := Lib.hid (own_below' Rv10.out hb)
          have Ru11 := Lib.hid (own_below' Ru10.out hb)
          have Rx11 := Lib.hid (own_below' Rx10.out hb)
          clear hb Ra10 Rb10 Rv10 Ru10 Rx10 HB10
          rw [EY.out]
          go_wp2_with fail
          refine (levelEval_any w11 w11.heap.size Aa A3 na ca 5 c3 e5 la T pv (Nat.lt_of_lt_of_le h0 (Nat.le_trans hB HB11.out.size)) (Nat.le_refl _) (OwnT.reads Ra11.out) (by omega) (OwnI.reads Rv11.out) (by omega) (hE.below (HB11.out.mono hB) h0)).mono ?_
          rintro e w12 ⟨rfl, hb⟩
          have HB12 := Lib.hid (HB11.out.trans (hb.mono HB11.out.size))
          have Ra12 := Lib.hid (own_below' Ra11.out hb)
          have Rb12 := Lib.hid (own_below' Rb11.out hb)
          have Rv12 := Lib.hid (own_below' Rv11.out hb)
          have Ru12 := Lib.hid (own_below' Ru11.out hb)
          have Rx12 := Lib.hid (own_below' Rx11.out hb)
          clear hb Ra11 Rb11 Rv11 Ru11 Rx11 HB11
          rw [EA.out]
          go_wp2_with fail
          refine (levelEval_any w12 w12.heap.size Ab A3 nb cb 5 c3 e5 lb T pv (Nat.lt_of_lt_of_le h0 (Nat.le_trans hB HB12.out.size)) (Nat.le_refl _) (OwnT.reads Rb12.out) (by omega) (OwnI.reads Rv12.out) (by omega) (hE.below (HB12.out.mono hB) h0)).mono ?_
          rintro e w13 ⟨rfl, hb⟩
          have HB13 := Lib.hid (HB12.out.trans (hb.mono HB12.out.size))
          have Ra13 := Lib.hid (own_below' Ra12.out hb)
          have Rb13 := Lib.hid (own_below' Rb12.out hb)
          have Rv13 := Lib.hid (own_below' Rv12.out hb)
          have Ru13 := Lib.hid (own_below' Ru12.out hb)
          have Rx13 := Lib.hid (own_below' Rx12.out hb)
          clear hb Ra12 Rb12 Rv12 Ru12 Rx12 HB12
          rw [EB.out]
          have hgt := HGT.out
          generalize Dc.ev e5 la = X at hgt ⊢
          generalize Dc.ev e5 lb = Y at hgt ⊢
          have dgt : decide (Y < X) = true := decide_eq_true hgt
          clear hgt
          go_wp2
          go_ret
          exact ⟨rfl, HB13.out⟩
        | none =>
          have HC := Lib.hid hctr
          have HY := Lib.hid (Dc.ctr_none OA.out OB.out hctr)
          have HU := Lib.hid ((leUn_nil OA.out OB.out).trans HY.out)
          clear hctr
          go_wp2_with fail
          refine (implLevelLe_any w1 w1.heap.size Aa na ca la Ab nb cb lb T pv (Nat.lt_of_lt_of_le h0 (Nat.le_trans hB HB1.out.size)) (Nat.le_refl _) (OwnT.reads Ra1.out) (by omega) (OwnT.reads Rb1.out) (by omega) (hE.below (HB1.out.mono hB) h0)).mono ?_
          rintro e w2 ⟨rfl, hb⟩
          have HB2 := Lib.hid (HB1.out.trans (hb.mono HB1.out.size))
          have Ra2 := Lib.hid (own_below' Ra1.out hb)
          have Rb2 := Lib.hid (own_below' Rb1.out hb)
          clear hb Ra1 Rb1 HB1
          rw [HY.out]
          go_wp2_with fail
          refine (implCounter_any w2 w2.heap.size Aa na ca la Ab nb cb lb T pv (Nat.lt_of_lt_of_le h0 (Nat.le_trans hB HB2.out.size)) (Nat.le_refl _) (OwnT.reads Ra2.out) (by omega) (OwnT.reads Rb2.out) (by omega) (hE.below (HB2.out.mono hB) h0)).mono ?_
          rintro e w3 ⟨A3, c3, rfl, ho, hb'⟩
          have HB3 := Lib.hid (HB2.out.trans (hb'.mono HB2.out.size))
          have Ra3 := Lib.hid (own_below' Ra2.out hb')
          have Rb3 := Lib.hid (own_below' Rb2.out hb')
          rw [HC.out] at ho ⊢
          simp only [Option.getD_none, Option.isSome_none, List.length_nil] at ho ⊢
          have Rv3 := Lib.hid (own_base (base' := w.heap.size) ho HB2.out.size)
          clear hb' Ra2 Rb2 HB2
          clear ho
          go_wp2_with fail
          refine (specCounter_any w3 w3.heap.size Aa na ca la Ab nb cb lb (Nat.le_refl _) (OwnT.reads Ra3.out) (by omega) (OwnT.reads Rb3.out) (by omega)).mono ?_
          rintro e w4 ⟨A4, c4, rfl, ho, hb'⟩
          have HB4 := Lib.hid (HB3.out.trans (hb'.mono HB3.out.size))
          have Ra4 := Lib.hid (own_below' Ra3.out hb')
          have Rb4 := Lib.hid (own_below' Rb3.out hb')
          have Rv4 := Lib.hid (own_below' Rv3.out hb')
          rw [HC.out] at ho ⊢
          simp only [Option.getD_none, Option.isSome_none, List.length_nil] at ho ⊢
          have Ru4 := Lib.hid (own_base (base' := w.heap.size) ho HB3.out.size)
          clear hb' Ra3 Rb3 Rv3 HB3
          clear ho
          go_wp2_with fail
          refine (specLevelLe_any w4 w4.heap.size Aa na ca la Ab nb cb lb (Nat.le_refl _) (OwnT.reads Ra4.out) (by omega) (OwnT.reads Rb4.out) (by omega)).mono ?_
          rintro e w5 ⟨rfl, hb⟩
          have HB5 := Lib.hid (HB4.out.trans (hb.mono HB4.out.size))
          have Ra5 := Lib.hid (own_below' Ra4.out hb)
          have Rb5 := Lib.hid (own_below' Rb4.out hb)
          have Rv5 := Lib.hid (own_below' Rv4.out hb)
          have Ru5 := Lib.hid (own_below' Ru4.out hb)
          clear hb Ra4 Rb4 Rv4 Ru4 HB4
          rw [HY.out]
          go_wp2_with fail
          refine (same_any w5 w5.heap.size A3 A4 0 0 c3 c4 ([] : List Int) ([] : List Int) (Nat.le_refl _) (OwnI.reads Rv5.out) (OwnI.reads Ru5.out) (by omega) (by omega)).mono ?_
          rintro e w6 ⟨rfl, hb⟩
          have HB6 := Lib.hid (HB5.out.trans (hb.mono HB5.out.size))
          have Ra6 := Lib.hid (own_below' Ra5.out hb)
          have Rb6 := Lib.hid (own_below' Rb5.out hb)
          have Rv6 := Lib.hid (own_below' Rv5.out hb)
          have Ru6 := Lib.hid (own_below' Ru5.out hb)
          clear hb Ra5 Rb5 Rv5 Ru5 HB5
          rw [decide_eq_true rfl]
          go_wp2_with fail
          refine (specOk_any w6 w6.heap.size Aa na ca la (Nat.le_refl _) (OwnT.reads Ra6.out) (by omega)).mono ?_
          rintro e w7 ⟨rfl, hb⟩
          have HB7 := Lib.hid (HB6.out.trans (hb.mono HB6.out.size))
          have Ra7 := Lib.hid (own_below' Ra6.out hb)
          have Rb7 := Lib.hid (own_below' Rb6.out hb)
          have Rv7 := Lib.hid (own_below' Rv6.out hb)
          have Ru7 := Lib.hid (own_below' Ru6.out hb)
          clear hb Ra6 Rb6 Rv6 Ru6 HB6
          rw [OA.out]
          go_wp2_with fail
          refine (specOk_any w7 w7.heap.size Ab nb cb lb (Nat.le_refl _) (OwnT.reads Rb7.out) (by omega)).mono ?_
          rintro e w8 ⟨rfl, hb⟩
          have HB8 := Lib.hid (HB7.out.trans (hb.mono HB7.out.size))
          have Ra8 := Lib.hid (own_below' Ra7.out hb)
          have Rb8 := Lib.hid (own_below' Rb7.out hb)
          have Rv8 := Lib.hid (own_below' Rv7.out hb)
          have Ru8 := Lib.hid (own_below' Ru7.out hb)
          clear hb Ra7 Rb7 Rv7 Ru7 HB7
          rw [OB.out]
          go_wp2_with fail
          refine (envs_any w8 B A n c 3 5 (Nat.le_trans hB HB8.out.size) (hb.below (HB8.out.mono hB)) hn (by omega) (by omega)).mono ?_
          rintro e w9 ⟨gx, capx, envx, rfl, h5x, hex, ho, hb'⟩
          have HB9 := Lib.hid (HB8.out.trans (hb'.mono HB8.out.size))
          have Ra9 := Lib.hid (own_below' Ra8.out hb')
          have Rb9 := Lib.hid (own_below' Rb8.out hb')
          have Rv9 := Lib.hid (own_below' Rv8.out hb')
          have Ru9 := Lib.hid (own_below' Ru8.out hb')
          have Rx9 := Lib.hid (own_base (base' := w.heap.size) ho HB8.out.size)
          have HEx := Lib.hid (env_small h5x (by omega) hex)
          have H5x := Lib.hid h5x
          clear hb' Ra8 Rb8 Rv8 Ru8 HB8
          clear ho h5x hex
          have EX := Lib.hid (evalU_ok HEx.out.1 OA.out)
          have EY := Lib.hid (evalU_ok HEx.out.1 OB.out)
          go_wp2_with fail
          refine (levelEval_any w9 w9.heap.size Aa (some ⟨gx, 0, none⟩) na ca 5 capx envx la T pv (Nat.lt_of_lt_of_le h0 (Nat.le_trans hB HB9.out.size)) (Nat.le_refl _) (OwnT.reads Ra9.out) (by omega) (OwnI.reads Rx9.out) (by omega) (hE.below (HB9.out.mono hB) h0)).mono ?_
          rintro e w10 ⟨rfl, hb⟩
          have HB10 := Lib.hid (HB9.out.trans (hb.mono HB9.out.size))
          have Ra10 := Lib.hid (own_below' Ra9.out hb)
          have Rb10 := Lib.hid (own_below' Rb9.out hb)
          have Rv10 := Lib.hid (own_below' Rv9.out hb)
          have Ru10 := Lib.hid (own_below' Ru9.out hb)
          have Rx10 := Lib.hid (own_below' Rx9.out hb)
          clear hb Ra9 Rb9 Rv9 Ru9 Rx9 HB9
          rw [EX.out]
          go_wp2_with fail
          refine (levelEval_any w10 w10.heap.size Ab (some ⟨gx, 0, none⟩) nb cb 5 capx envx lb T pv (Nat.lt_of_lt_of_le h0 (Nat.le_trans hB HB10.out.size)) (Nat.le_refl _) (OwnT.reads Rb10.out) (by omega) (OwnI.reads Rx10.out) (by omega) (hE.below (HB10.out.mono hB) h0)).mono ?_
          rintro e w11 ⟨rfl, hb⟩
          have HB11 := Lib.hid (HB10.out.trans (hb.mono HB10.out.size))
          have Ra11 := Lib.hid (own_below' Ra10.out hb)
          have Rb11 := Lib.hid (own_below' Rb10.out hb)
          have Rv11 := Lib.hid (own_below' Rv10.out hb)
          have Ru11 := Lib.hid (own_below' Ru10.out hb)
          have Rx11 := Lib.hid (own_below' Rx10.out hb)
          clear hb Ra10 Rb10 Rv10 Ru10 Rx10 HB10
          rw [EY.out]
          have hle := (Dc.le_sem OA.out OB.out).1 HY.out envx H5x.out HEx.out.2
          generalize Dc.ev envx la = X at hle ⊢
          generalize Dc.ev envx lb = Y at hle ⊢
          have dle : decide (X ≤ Y) = true := decide_eq_true hle
          clear hle
          go_wp2_with fail
          refine (implLeUnder_any w11 w11.heap.size none 0 0 [] Aa na ca la Ab nb cb lb T pv Tc pc (Nat.lt_of_lt_of_le h0 (Nat.le_trans hB HB11.out.size)) (Nat.lt_of_lt_of_le h0c (Nat.le_trans hB HB11.out.size)) (Nat.le_refl _) (.inr ⟨rfl, rfl, rfl⟩) ⟨rfl, fun h => absurd h (by omega)⟩ (by omega) (OwnT.reads Ra11.out) (by omega) (OwnT.reads Rb11.out) (by omega) (hE.below (HB11.out.mono hB) h0) (hEc.below (HB11.out.mono hB) h0c)).mono ?_
          rintro e w12 ⟨rfl, hb⟩
          have HB12 := Lib.hid (HB11.out.trans (hb.mono HB11.out.size))
          have Ra12 := Lib.hid (own_below' Ra11.out hb)
          have Rb12 := Lib.hid (own_below' Rb11.out hb)
          have Rv12 := Lib.hid (own_below' Rv11.out hb)
          have Ru12 := Lib.hid (own_below' Ru11.out hb)
          have Rx12 := Lib.hid (own_below' Rx11.out hb)
          clear hb Ra11 Rb11 Rv11 Ru11 Rx11 HB11
          rw [HU.out]
          go_wp2
          go_ret
          exact ⟨rfl, HB12.out⟩
end Go.Proofs.YtmbcjddahncocaaDoor
