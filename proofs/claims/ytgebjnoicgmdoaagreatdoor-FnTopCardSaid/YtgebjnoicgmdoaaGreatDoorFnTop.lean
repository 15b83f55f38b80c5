/- The law FnTop: the walk. -/
import Derived.Test.YtgebjnoicgmdoaaGreatDoorDrawLU
import Derived.Test.YtgebjnoicgmdoaaGreatDoorHold2

namespace Go.Proofs.YtgebjnoicgmdoaaGreatDoor
open Go.RowKit
open Cs (Cn)

set_option maxRecDepth 100000 in
set_option maxHeartbeats 64000000 in
theorem fnTop_any (w : World) (B : Nat) (A : Option Addr) (n c : Nat) (pv pc : Value) (h0 : 1 < B) (h0c : 0 < B) (h0t : 2 < B) (hB : B ≤ w.heap.size)
    (hb : BytR w B A n) (_hnc : n ≤ c) (hE : ErrAt w 228 pv) (hEc : ErrCAt w 228 pc) (hEt : ErrTAt w) :
    Calls Tryz.prog 3 #[.slice A n c] w fun e w' => e = .returned (.bool true) ∧ Below w.heap.size w w' := by
  by_cases hbig : 1048576 < (n : Int)
  · go_enter Tryz.func3, Tryz.ntmps3
    go_wp2_with fail
    refine (big_any w A n c).mono ?_
    rintro e w' ⟨rfl, rfl⟩
    rw [decide_eq_true (by omega)]
    go_wp2
    go_ret
    exact ⟨rfl, Below.refl _ _⟩
  · have hn : n ≤ 1048576 := by omega
    go_enter Tryz.func3, Tryz.ntmps3
    go_wp2_with fail
    refine (big_any w A n c).mono ?_
    rintro e w' ⟨rfl, rfl⟩
    rw [decide_eq_false (by omega)]
    have HB0 : Hid (Below w.heap.size w w) := Below.refl _ _
    go_wp2_with fail
    refine (drawLeUnder_any w B A n c hB hb hn).mono ?_
    rintro e w1 ⟨⟨g, cap, m, l, Aa, na, ca, la, Ab, nb, cb, lb, rfl, hm, hna, hnb, hol, hoa, hob⟩, hb1⟩
    have HB1 := Lib.hid hb1
    have Rl1 := Lib.hid hol
    have Ra1 := Lib.hid hoa
    have Rb1 := Lib.hid hob
    have hs1 := hb1.size
    have HLL : Hid (l.length = m) := (OwnC.reads hol).1
    clear hol hoa hob hb1
    cases hc : consOkR l with
    | false =>
      obtain ⟨hY, hW⟩ := wit_bad (l := l) (a := la) (b := lb) (fun h => by rw [hc] at h; cases h.1)
      have HY := Lib.hid hY
      have HW := Lib.hid hW
      clear hY hW
      go_wp2_with fail
      refine (implLeUnder_any w1 w1.heap.size (some ⟨g, 0, none⟩) m cap l Aa na ca la Ab nb cb lb 228 pv 228 pc (Nat.lt_of_lt_of_le h0 (Nat.le_trans hB HB1.out.size)) (Nat.lt_of_lt_of_le h0c (Nat.le_trans hB HB1.out.size)) (Nat.le_refl _) (.inl ⟨_, _, rfl⟩) (OwnC.reads Rl1.out) (by omega) (OwnT.reads Ra1.out) (by omega) (OwnT.reads Rb1.out) (by omega) (hE.below (HB1.out.mono hB) h0) (hEc.below (HB1.out.mono hB) h0c)).mono ?_
      rintro e w2 ⟨rfl, hb⟩
      have HB2 := Lib.hid (HB1.out.trans (hb.mono HB1.out.size))
      have Rl2 := Lib.hid (own_below' Rl1.out hb)
      have Ra2 := Lib.hid (own_below' Ra1.out hb)
      have Rb2 := Lib.hid (own_below' Rb1.out hb)
      clear hb Rl1 Ra1 Rb1 HB1
      rw [HY.out]
      go_wp2_with fail
      refine (implWitness_any w2 w2.heap.size (some ⟨g, 0, none⟩) m cap l Aa na ca la Ab nb cb lb pv pc (Nat.lt_of_lt_of_le h0 (Nat.le_trans hB HB2.out.size)) (Nat.lt_of_lt_of_le h0c (Nat.le_trans hB HB2.out.size)) (Nat.lt_of_lt_of_le h0t (Nat.le_trans hB HB2.out.size)) (Nat.le_refl _) (.inl ⟨_, _, rfl⟩) (OwnC.reads Rl2.out) (by omega) (OwnT.reads Ra2.out) (by omega) (OwnT.reads Rb2.out) (by omega) (hE.below (HB2.out.mono hB) h0) (hEc.below (HB2.out.mono hB) h0c) (hEt.below (HB2.out.mono hB) h0t)).mono ?_
      rintro e w3 ⟨A3, c3, rfl, ho, hb'⟩
      have HB3 := Lib.hid (HB2.out.trans (hb'.mono HB2.out.size))
      have Rl3 := Lib.hid (own_below' Rl2.out hb')
      have Ra3 := Lib.hid (own_below' Ra2.out hb')
      have Rb3 := Lib.hid (own_below' Rb2.out hb')
      rw [HW.out] at ho ⊢
      simp only [Option.getD_none, Option.isSome_none, List.length_nil] at ho ⊢
      have Rv3 := Lib.hid (own_base (base' := w.heap.size) ho HB2.out.size)
      clear hb' Rl2 Ra2 Rb2 HB2
      clear ho
      go_wp2_with fail
      refine (specWitness_any w3 w3.heap.size g 0 m cap l Aa na ca la Ab nb cb lb (Nat.le_refl _) (OwnC.reads Rl3.out) (by omega) (OwnT.reads Ra3.out) (by omega) (OwnT.reads Rb3.out) (by omega)).mono ?_
      rintro e w4 ⟨A4, c4, rfl, ho, hb'⟩
      have HB4 := Lib.hid (HB3.out.trans (hb'.mono HB3.out.size))
      have Rl4 := Lib.hid (own_below' Rl3.out hb')
      have Ra4 := Lib.hid (own_below' Ra3.out hb')
      have Rb4 := Lib.hid (own_below' Rb3.out hb')
      have Rv4 := Lib.hid (own_below' Rv3.out hb')
      rw [HW.out] at ho ⊢
      simp only [Option.getD_none, Option.isSome_none, List.length_nil] at ho ⊢
      have Ru4 := Lib.hid (own_base (base' := w.heap.size) ho HB3.out.size)
      clear hb' Rl3 Ra3 Rb3 Rv3 HB3
      clear ho
      go_wp2_with fail
      refine (specLeUnder_any w4 w4.heap.size g 0 m cap l Aa na ca la Ab nb cb lb (Nat.le_refl _) (OwnC.reads Rl4.out) (by omega) (OwnT.reads Ra4.out) (by omega) (OwnT.reads Rb4.out) (by omega)).mono ?_
      rintro e w5 ⟨rfl, hb⟩
      have HB5 := Lib.hid (HB4.out.trans (hb.mono HB4.out.size))
      have Rl5 := Lib.hid (own_below' Rl4.out hb)
      have Ra5 := Lib.hid (own_below' Ra4.out hb)
      have Rb5 := Lib.hid (own_below' Rb4.out hb)
      have Rv5 := Lib.hid (own_below' Rv4.out hb)
      have Ru5 := Lib.hid (own_below' Ru4.out hb)
      clear hb Rl4 Ra4 Rb4 Rv4 Ru4 HB4
      rw [HY.out]
      go_wp2_with fail
      refine (same_any w5 w5.heap.size A3 A4 0 0 c3 c4 ([] : List Int) ([] : List Int) (Nat.le_refl _) (OwnI.reads Rv5.out) (OwnI.reads Ru5.out) (by omega) (by omega)).mono ?_
      rintro e w6 ⟨rfl, hb⟩
      have HB6 := Lib.hid (HB5.out.trans (hb.mono HB5.out.size))
      have Rl6 := Lib.hid (own_below' Rl5.out hb)
      have Ra6 := Lib.hid (own_below' Ra5.out hb)
      have Rb6 := Lib.hid (own_below' Rb5.out hb)
      have Rv6 := Lib.hid (own_below' Rv5.out hb)
      have Ru6 := Lib.hid (own_below' Ru5.out hb)
      clear hb Rl5 Ra5 Rb5 Rv5 Ru5 HB5
      rw [decide_eq_true rfl]
      clear Ru6
      have HC := Lib.hid hc
      clear hc
      go_wp2_with fail
      refine (specConsOk_any w6 w6.heap.size (some ⟨g, 0, none⟩) m cap l (Nat.le_refl _) (OwnC.reads Rl6.out) (by omega)).mono ?_
      rintro e w7 ⟨rfl, hb⟩
      have HB7 := Lib.hid (HB6.out.trans (hb.mono HB6.out.size))
      have Rl7 := Lib.hid (own_below' Rl6.out hb)
      have Ra7 := Lib.hid (own_below' Ra6.out hb)
      have Rb7 := Lib.hid (own_below' Rb6.out hb)
      have Rv7 := Lib.hid (own_below' Rv6.out hb)
      clear hb Rl6 Ra6 Rb6 Rv6 HB6
      rw [HC.out]
      go_wp2
      go_ret
      exact ⟨rfl, HB7.out⟩
    | true =>
      have HC := Lib.hid hc
      clear hc
      cases oka : Lv.levelOk la with
      | false =>
        obtain ⟨hY, hW⟩ := wit_bad (l := l) (a := la) (b := lb) (fun h => by rw [oka] at h; cases h.2.1)
        have HY := Lib.hid hY
        have HW := Lib.hid hW
        clear hY hW
        go_wp2_with fail
        refine (implLeUnder_any w1 w1.heap.size (some ⟨g, 0, none⟩) m cap l Aa na ca la Ab nb cb lb 228 pv 228 pc (Nat.lt_of_lt_of_le h0 (Nat.le_trans hB HB1.out.size)) (Nat.lt_of_lt_of_le h0c (Nat.le_trans hB HB1.out.size)) (Nat.le_refl _) (.inl ⟨_, _, rfl⟩) (OwnC.reads Rl1.out) (by omega) (OwnT.reads Ra1.out) (by omega) (OwnT.reads Rb1.out) (by omega) (hE.below (HB1.out.mono hB) h0) (hEc.below (HB1.out.mono hB) h0c)).mono ?_
        rintro e w2 ⟨rfl, hb⟩
        have HB2 := Lib.hid (HB1.out.trans (hb.mono HB1.out.size))
        have Rl2 := Lib.hid (own_below' Rl1.out hb)
        have Ra2 := Lib.hid (own_below' Ra1.out hb)
        have Rb2 := Lib.hid (own_below' Rb1.out hb)
        clear hb Rl1 Ra1 Rb1 HB1
        rw [HY.out]
        go_wp2_with fail
        refine (implWitness_any w2 w2.heap.size (some ⟨g, 0, none⟩) m cap l Aa na ca la Ab nb cb lb pv pc (Nat.lt_of_lt_of_le h0 (Nat.le_trans hB HB2.out.size)) (Nat.lt_of_lt_of_le h0c (Nat.le_trans hB HB2.out.size)) (Nat.lt_of_lt_of_le h0t (Nat.le_trans hB HB2.out.size)) (Nat.le_refl _) (.inl ⟨_, _, rfl⟩) (OwnC.reads Rl2.out) (by omega) (OwnT.reads Ra2.out) (by omega) (OwnT.reads Rb2.out) (by omega) (hE.below (HB2.out.mono hB) h0) (hEc.below (HB2.out.mono hB) h0c) (hEt.below (HB2.out.mono hB) h0t)).mono ?_
        rintro e w3 ⟨A3, c3, rfl, ho, hb'⟩
        have HB3 := Lib.hid (HB2.out.trans (hb'.mono HB2.out.size))
        have Rl3 := Lib.hid (own_below' Rl2.out hb')
        have Ra3 := Lib.hid (own_below' Ra2.out hb')
        have Rb3 := Lib.hid (own_below' Rb2.out hb')
        rw [HW.out] at ho ⊢
        simp only [Option.getD_none, Option.isSome_none, List.length_nil] at ho ⊢
        have Rv3 := Lib.hid (own_base (base' := w.heap.size) ho HB2.out.size)
        clear hb' Rl2 Ra2 Rb2 HB2
        clear ho
        go_wp2_with fail
        refine (specWitness_any w3 w3.heap.size g 0 m cap l Aa na ca la Ab nb cb lb (Nat.le_refl _) (OwnC.reads Rl3.out) (by omega) (OwnT.reads Ra3.out) (by omega) (OwnT.reads Rb3.out) (by omega)).mono ?_
        rintro e w4 ⟨A4, c4, rfl, ho, hb'⟩
        have HB4 := Lib.hid (HB3.out.trans (hb'.mono HB3.out.size))
        have Rl4 := Lib.hid (own_below' Rl3.out hb')
        have Ra4 := Lib.hid (own_below' Ra3.out hb')
        have Rb4 := Lib.hid (own_below' Rb3.out hb')
        have Rv4 := Lib.hid (own_below' Rv3.out hb')
        rw [HW.out] at ho ⊢
        simp only [Option.getD_none, Option.isSome_none, List.length_nil] at ho ⊢
        have Ru4 := Lib.hid (own_base (base' := w.heap.size) ho HB3.out.size)
        clear hb' Rl3 Ra3 Rb3 Rv3 HB3
        clear ho
        go_wp2_with fail
        refine (specLeUnder_any w4 w4.heap.size g 0 m cap l Aa na ca la Ab nb cb lb (Nat.le_refl _) (OwnC.reads Rl4.out) (by omega) (OwnT.reads Ra4.out) (by omega) (OwnT.reads Rb4.out) (by omega)).mono ?_
        rintro e w5 ⟨rfl, hb⟩
        have HB5 := Lib.hid (HB4.out.trans (hb.mono HB4.out.size))
        have Rl5 := Lib.hid (own_below' Rl4.out hb)
        have Ra5 := Lib.hid (own_below' Ra4.out hb)
        have Rb5 := Lib.hid (own_below' Rb4.out hb)
        have Rv5 := Lib.hid (own_below' Rv4.out hb)
        have Ru5 := Lib.hid (own_below' Ru4.out hb)
        clear hb Rl4 Ra4 Rb4 Rv4 Ru4 HB4
        rw [HY.out]
        go_wp2_with fail
        refine (same_any w5 w5.heap.size A3 A4 0 0 c3 c4 ([] : List Int) ([] : List Int) (Nat.le_refl _) (OwnI.reads Rv5.out) (OwnI.reads Ru5.out) (by omega) (by omega)).mono ?_
        rintro e w6 ⟨rfl, hb⟩
        have HB6 := Lib.hid (HB5.out.trans (hb.mono HB5.out.size))
        have Rl6 := Lib.hid (own_below' Rl5.out hb)
        have Ra6 := Lib.hid (own_below' Ra5.out hb)
        have Rb6 := Lib.hid (own_below' Rb5.out hb)
        have Rv6 := Lib.hid (own_below' Rv5.out hb)
        have Ru6 := Lib.hid (own_below' Ru5.out hb)
        clear hb Rl5 Ra5 Rb5 Rv5 Ru5 HB5
        rw [decide_eq_true rfl]
        clear Ru6
        have OA := Lib.hid oka
        clear oka
        go_wp2_with fail
        refine (specConsOk_any w6 w6.heap.size (some ⟨g, 0, none⟩) m cap l (Nat.le_refl _) (OwnC.reads Rl6.out) (by omega)).mono ?_
        rintro e w7 ⟨rfl, hb⟩
        have HB7 := Lib.hid (HB6.out.trans (hb.mono HB6.out.size))
        have Rl7 := Lib.hid (own_below' Rl6.out hb)
        have Ra7 := Lib.hid (own_below' Ra6.out hb)
        have Rb7 := Lib.hid (own_below' Rb6.out hb)
        have Rv7 := Lib.hid (own_below' Rv6.out hb)
        clear hb Rl6 Ra6 Rb6 Rv6 HB6
        rw [HC.out]
        go_wp2_with fail
        refine (specOk_any w7 w7.heap.size Aa na ca la (Nat.le_refl _) (OwnT.reads Ra7.out) (by omega)).mono ?_
        rintro e w8 ⟨rfl, hb⟩
        have HB8 := Lib.hid (HB7.out.trans (hb.mono HB7.out.size))
        have Rl8 := Lib.hid (own_below' Rl7.out hb)
        have Ra8 := Lib.hid (own_below' Ra7.out hb)
        have Rb8 := Lib.hid (own_below' Rb7.out hb)
        have Rv8 := Lib.hid (own_below' Rv7.out hb)
        clear hb Rl7 Ra7 Rb7 Rv7 HB7
        rw [OA.out]
        go_wp2
        go_ret
        exact ⟨rfl, HB8.out⟩
      | true =>
        have OA := Lib.hid oka
        clear oka
        cases okb : Lv.levelOk lb with
        | false =>
          obtain ⟨hY, hW⟩ := wit_bad (l := l) (a := la) (b := lb) (fun h => by rw [okb] at h; cases h.2.2)
          have HY := Lib.hid hY
          have HW := Lib.hid hW
          clear hY hW
          go_wp2_with fail
          refine (implLeUnder_any w1 w1.heap.size (some ⟨g, 0, none⟩) m cap l Aa na ca la Ab nb cb lb 228 pv 228 pc (Nat.lt_of_lt_of_le h0 (Nat.le_trans hB HB1.out.size)) (Nat.lt_of_lt_of_le h0c (Nat.le_trans hB HB1.out.size)) (Nat.le_refl _) (.inl ⟨_, _, rfl⟩) (OwnC.reads Rl1.out) (by omega) (OwnT.reads Ra1.out) (by omega) (OwnT.reads Rb1.out) (by omega) (hE.below (HB1.out.mono hB) h0) (hEc.below (HB1.out.mono hB) h0c)).mono ?_
          rintro e w2 ⟨rfl, hb⟩
          have HB2 := Lib.hid (HB1.out.trans (hb.mono HB1.out.size))
          have Rl2 := Lib.hid (own_below' Rl1.out hb)
          have Ra2 := Lib.hid (own_below' Ra1.out hb)
          have Rb2 := Lib.hid (own_below' Rb1.out hb)
          clear hb Rl1 Ra1 Rb1 HB1
          rw [HY.out]
          go_wp2_with fail
          refine (implWitness_any w2 w2.heap.size (some ⟨g, 0, none⟩) m cap l Aa na ca la Ab nb cb lb pv pc (Nat.lt_of_lt_of_le h0 (Nat.le_trans hB HB2.out.size)) (Nat.lt_of_lt_of_le h0c (Nat.le_trans hB HB2.out.size)) (Nat.lt_of_lt_of_le h0t (Nat.le_trans hB HB2.out.size)) (Nat.le_refl _) (.inl ⟨_, _, rfl⟩) (OwnC.reads Rl2.out) (by omega) (OwnT.reads Ra2.out) (by omega) (OwnT.reads Rb2.out) (by omega) (hE.below (HB2.out.mono hB) h0) (hEc.below (HB2.out.mono hB) h0c) (hEt.below (HB2.out.mono hB) h0t)).mono ?_
          rintro e w3 ⟨A3, c3, rfl, ho, hb'⟩
          have HB3 := Lib.hid (HB2.out.trans (hb'.mono HB2.out.size))
          have Rl3 := Lib.hid (own_below' Rl2.out hb')
          have Ra3 := Lib.hid (own_below' Ra2.out hb')
          have Rb3 := Lib.hid (own_below' Rb2.out hb')
          rw [HW.out] at ho ⊢
          simp only [Option.getD_none, Option.isSome_none, List.length_nil] at ho ⊢
          have Rv3 := Lib.hid (own_base (base' := w.heap.size) ho HB2.out.size)
          clear hb' Rl2 Ra2 Rb2 HB2
          clear ho
          go_wp2_with fail
          refine (specWitness_any w3 w3.heap.size g 0 m cap l Aa na ca la Ab nb cb lb (Nat.le_refl _) (OwnC.reads Rl3.out) (by omega) (OwnT.reads Ra3.out) (by omega) (OwnT.reads Rb3.out) (by omega)).mono ?_
          rintro e w4 ⟨A4, c4, rfl, ho, hb'⟩
          have HB4 := Lib.hid (HB3.out.trans (hb'.mono HB3.out.size))
          have Rl4 := Lib.hid (own_below' Rl3.out hb')
          have Ra4 := Lib.hid (own_below' Ra3.out hb')
          have Rb4 := Lib.hid (own_below' Rb3.out hb')
          have Rv4 := Lib.hid (own_below' Rv3.out hb')
          rw [HW.out] at ho ⊢
          simp only [Option.getD_none, Option.isSome_none, List.length_nil] at ho ⊢
          have Ru4 := Lib.hid (own_base (base' := w.heap.size) ho HB3.out.size)
          clear hb' Rl3 Ra3 Rb3 Rv3 HB3
          clear ho
          go_wp2_with fail
          refine (specLeUnder_any w4 w4.heap.size g 0 m cap l Aa na ca la Ab nb cb lb (Nat.le_refl _) (OwnC.reads Rl4.out) (by omega) (OwnT.reads Ra4.out) (by omega) (OwnT.reads Rb4.out) (by omega)).mono ?_
          rintro e w5 ⟨rfl, hb⟩
          have HB5 := Lib.hid (HB4.out.trans (hb.mono HB4.out.size))
          have Rl5 := Lib.hid (own_below' Rl4.out hb)
          have Ra5 := Lib.hid (own_below' Ra4.out hb)
          have Rb5 := Lib.hid (own_below' Rb4.out hb)
          have Rv5 := Lib.hid (own_below' Rv4.out hb)
          have Ru5 := Lib.hid (own_below' Ru4.out hb)
          clear hb Rl4 Ra4 Rb4 Rv4 Ru4 HB4
          rw [HY.out]
          go_wp2_with fail
          refine (same_any w5 w5.heap.size A3 A4 0 0 c3 c4 ([] : List Int) ([] : List Int) (Nat.le_refl _) (OwnI.reads Rv5.out) (OwnI.reads Ru5.out) (by omega) (by omega)).mono ?_
          rintro e w6 ⟨rfl, hb⟩
          have HB6 := Lib.hid (HB5.out.trans (hb.mono HB5.out.size))
          have Rl6 := Lib.hid (own_below' Rl5.out hb)
          have Ra6 := Lib.hid (own_below' Ra5.out hb)
          have Rb6 := Lib.hid (own_below' Rb5.out hb)
          have Rv6 := Lib.hid (own_below' Rv5.out hb)
          have Ru6 := Lib.hid (own_below' Ru5.out hb)
          clear hb Rl5 Ra5 Rb5 Rv5 Ru5 HB5
          rw [decide_eq_true rfl]
          clear Ru6
          have OB := Lib.hid okb
          clear okb
          go_wp2_with fail
          refine (specConsOk_any w6 w6.heap.size (some ⟨g, 0, none⟩) m cap l (Nat.le_refl _) (OwnC.reads Rl6.out) (by omega)).mono ?_
          rintro e w7 ⟨rfl, hb⟩
          have HB7 := Lib.hid (HB6.out.trans (hb.mono HB6.out.size))
          have Rl7 := Lib.hid (own_below' Rl6.out hb)
          have Ra7 := Lib.hid (own_below' Ra6.out hb)
          have Rb7 := Lib.hid (own_below' Rb6.out hb)
          have Rv7 := Lib.hid (own_below' Rv6.out hb)
          clear hb Rl6 Ra6 Rb6 Rv6 HB6
          rw [HC.out]
          go_wp2_with fail
          refine (specOk_any w7 w7.heap.size Aa na ca la (Nat.le_refl _) (OwnT.reads Ra7.out) (by omega)).mono ?_
          rintro e w8 ⟨rfl, hb⟩
          have HB8 := Lib.hid (HB7.out.trans (hb.mono HB7.out.size))
          have Rl8 := Lib.hid (own_below' Rl7.out hb)
          have Ra8 := Lib.hid (own_below' Ra7.out hb)
          have Rb8 := Lib.hid (own_below' Rb7.out hb)
          have Rv8 := Lib.hid (own_below' Rv7.out hb)
          clear hb Rl7 Ra7 Rb7 Rv7 HB7
          rw [OA.out]
          go_wp2_with fail
          refine (specOk_any w8 w8.heap.size Ab nb cb lb (Nat.le_refl _) (OwnT.reads Rb8.out) (by omega)).mono ?_
          rintro e w9 ⟨rfl, hb⟩
          have HB9 := Lib.hid (HB8.out.trans (hb.mono HB8.out.size))
          have Rl9 := Lib.hid (own_below' Rl8.out hb)
          have Ra9 := Lib.hid (own_below' Ra8.out hb)
          have Rb9 := Lib.hid (own_below' Rb8.out hb)
          have Rv9 := Lib.hid (own_below' Rv8.out hb)
          clear hb Rl8 Ra8 Rb8 Rv8 HB8
          rw [OB.out]
          go_wp2
          go_ret
          exact ⟨rfl, HB9.out⟩
        | true =>
          have OB := Lib.hid okb
          clear okb
          rcases wit_le HC.out OA.out OB.out with ⟨hY, hW⟩ | ⟨hY, e5, hW, hwit⟩
          · skip
            have HY := Lib.hid hY
            have HW := Lib.hid hW
            clear hY hW
            go_wp2_with fail
            refine (implLeUnder_any w1 w1.heap.size (some ⟨g, 0, none⟩) m cap l Aa na ca la Ab nb cb lb 228 pv 228 pc (Nat.lt_of_lt_of_le h0 (Nat.le_trans hB HB1.out.size)) (Nat.lt_of_lt_of_le h0c (Nat.le_trans hB HB1.out.size)) (Nat.le_refl _) (.inl ⟨_, _, rfl⟩) (OwnC.reads Rl1.out) (by omega) (OwnT.reads Ra1.out) (by omega) (OwnT.reads Rb1.out) (by omega) (hE.below (HB1.out.mono hB) h0) (hEc.below (HB1.out.mono hB) h0c)).mono ?_
            rintro e w2 ⟨rfl, hb⟩
            have HB2 := Lib.hid (HB1.out.trans (hb.mono HB1.out.size))
            have Rl2 := Lib.hid (own_below' Rl1.out hb)
            have Ra2 := Lib.hid (own_below' Ra1.out hb)
            have Rb2 := Lib.hid (own_below' Rb1.out hb)
            clear hb Rl1 Ra1 Rb1 HB1
            rw [HY.out]
            go_wp2_with fail
            refine (implWitness_any w2 w2.heap.size (some ⟨g, 0, none⟩) m cap l Aa na ca la Ab nb cb lb pv pc (Nat.lt_of_lt_of_le h0 (Nat.le_trans hB HB2.out.size)) (Nat.lt_of_lt_of_le h0c (Nat.le_trans hB HB2.out.size)) (Nat.lt_of_lt_of_le h0t (Nat.le_trans hB HB2.out.size)) (Nat.le_refl _) (.inl ⟨_, _, rfl⟩) (OwnC.reads Rl2.out) (by omega) (OwnT.reads Ra2.out) (by omega) (OwnT.reads Rb2.out) (by omega) (hE.below (HB2.out.mono hB) h0) (hEc.below (HB2.out.mono hB) h0c) (hEt.below (HB2.out.mono hB) h0t)).mono ?_
            rintro e w3 ⟨A3, c3, rfl, ho, hb'⟩
            have HB3 := Lib.hid (HB2.out.trans (hb'.mono HB2.out.size))
            have Rl3 := Lib.hid (own_below' Rl2.out hb')
            have Ra3 := Lib.hid (own_below' Ra2.out hb')
            have Rb3 := Lib.hid (own_below' Rb2.out hb')
            rw [HW.out] at ho ⊢
            simp only [Option.getD_none, Option.isSome_none, List.length_nil] at ho ⊢
            have Rv3 := Lib.hid (own_base (base' := w.heap.size) ho HB2.out.size)
            clear hb' Rl2 Ra2 Rb2 HB2
            clear ho
            go_wp2_with fail
            refine (specWitness_any w3 w3.heap.size g 0 m cap l Aa na ca la Ab nb cb lb (Nat.le_refl _) (OwnC.reads Rl3.out) (by omega) (OwnT.reads Ra3.out) (by omega) (OwnT.reads Rb3.out) (by omega)).mono ?_
            rintro e w4 ⟨A4, c4, rfl, ho, hb'⟩
            have HB4 := Lib.hid (HB3.out.trans (hb'.mono HB3.out.size))
            have Rl4 := Lib.hid (own_below' Rl3.out hb')
            have Ra4 := Lib.hid (own_below' Ra3.out hb')
            have Rb4 := Lib.hid (own_below' Rb3.out hb')
            have Rv4 := Lib.hid (own_below' Rv3.out hb')
            rw [HW.out] at ho ⊢
            simp only [Option.getD_none, Option.isSome_none, List.length_nil] at ho ⊢
            have Ru4 := Lib.hid (own_base (base' := w.heap.size) ho HB3.out.size)
            clear hb' Rl3 Ra3 Rb3 Rv3 HB3
            clear ho
            go_wp2_with fail
            refine (specLeUnder_any w4 w4.heap.size g 0 m cap l Aa na ca la Ab nb cb lb (Nat.le_refl _) (OwnC.reads Rl4.out) (by omega) (OwnT.reads Ra4.out) (by omega) (OwnT.reads Rb4.out) (by omega)).mono ?_
            rintro e w5 ⟨rfl, hb⟩
            have HB5 := Lib.hid (HB4.out.trans (hb.mono HB4.out.size))
            have Rl5 := Lib.hid (own_below' Rl4.out hb)
            have Ra5 := Lib.hid (own_below' Ra4.out hb)
            have Rb5 := Lib.hid (own_below' Rb4.out hb)
            have Rv5 := Lib.hid (own_below' Rv4.out hb)
            have Ru5 := Lib.hid (own_below' Ru4.out hb)
            clear hb Rl4 Ra4 Rb4 Rv4 Ru4 HB4
            rw [HY.out]
            go_wp2_with fail
            refine (same_any w5 w5.heap.size A3 A4 0 0 c3 c4 ([] : List Int) ([] : List Int) (Nat.le_refl _) (OwnI.reads Rv5.out) (OwnI.reads Ru5.out) (by omega) (by omega)).mono ?_
            rintro e w6 ⟨rfl, hb⟩
            have HB6 := Lib.hid (HB5.out.trans (hb.mono HB5.out.size))
            have Rl6 := Lib.hid (own_below' Rl5.out hb)
            have Ra6 := Lib.hid (own_below' Ra5.out hb)
            have Rb6 := Lib.hid (own_below' Rb5.out hb)
            have Rv6 := Lib.hid (own_below' Rv5.out hb)
            have Ru6 := Lib.hid (own_below' Ru5.out hb)
            clear hb Rl5 Ra5 Rb5 Rv5 Ru5 HB5
            rw [decide_eq_true rfl]
            clear Ru6
            go_wp2_with fail
            refine (specConsOk_any w6 w6.heap.size (some ⟨g, 0, none⟩) m cap l (Nat.le_refl _) (OwnC.reads Rl6.out) (by omega)).mono ?_
            rintro e w7 ⟨rfl, hb⟩
            have HB7 := Lib.hid (HB6.out.trans (hb.mono HB6.out.size))
            have Rl7 := Lib.hid (own_below' Rl6.out hb)
            have Ra7 := Lib.hid (own_below' Ra6.out hb)
            have Rb7 := Lib.hid (own_below' Rb6.out hb)
            have Rv7 := Lib.hid (own_below' Rv6.out hb)
            clear hb Rl6 Ra6 Rb6 Rv6 HB6
            rw [HC.out]
            go_wp2_with fail
            refine (specOk_any w7 w7.heap.size Aa na ca la (Nat.le_refl _) (OwnT.reads Ra7.out) (by omega)).mono ?_
            rintro e w8 ⟨rfl, hb⟩
            have HB8 := Lib.hid (HB7.out.trans (hb.mono HB7.out.size))
            have Rl8 := Lib.hid (own_below' Rl7.out hb)
            have Ra8 := Lib.hid (own_below' Ra7.out hb)
            have Rb8 := Lib.hid (own_below' Rb7.out hb)
            have Rv8 := Lib.hid (own_below' Rv7.out hb)
            clear hb Rl7 Ra7 Rb7 Rv7 HB7
            rw [OA.out]
            go_wp2_with fail
            refine (specOk_any w8 w8.heap.size Ab nb cb lb (Nat.le_refl _) (OwnT.reads Rb8.out) (by omega)).mono ?_
            rintro e w9 ⟨rfl, hb⟩
            have HB9 := Lib.hid (HB8.out.trans (hb.mono HB8.out.size))
            have Rl9 := Lib.hid (own_below' Rl8.out hb)
            have Ra9 := Lib.hid (own_below' Ra8.out hb)
            have Rb9 := Lib.hid (own_below' Rb8.out hb)
            have Rv9 := Lib.hid (own_below' Rv8.out hb)
            clear hb Rl8 Ra8 Rb8 Rv8 HB8
            rw [OB.out]
            clear Rv9
            go_wp2
            go_loopw [15] (fun i wr => ∃ k : Nat, k ≤ 8 ∧ i = .int .i64 k ∧ Hid (Below w9.heap.size w9 wr)) (fun i _ => 8 - (intOf i).toNat)
            case atStart => exact ⟨0, by omega, rfl, Below.refl _ _⟩
            case round =>
              obtain ⟨k, hk, rfl, hbr⟩ := hrel
              obtain ⟨ws, hws⟩ : ∃ X, X = wr := ⟨_, rfl⟩
              subst hws
              have HB10 := Lib.hid (HB9.out.trans (hbr.out.mono HB9.out.size))
              have Rl10 := Lib.hid (own_below' Rl9.out hbr.out)
              have Ra10 := Lib.hid (own_below' Ra9.out hbr.out)
              have Rb10 := Lib.hid (own_below' Rb9.out hbr.out)
              have HBR := hbr
              clear hbr
              by_cases hlt : k < 8
              · have hki : (k : Int) < 8 := by omega
                have HBS := HB10
                have SL := Rl10
                have SA := Ra10
                have SB := Rb10
                go_wp2_with fail
                refine (envs_any ws B A n c k 4 (Nat.le_trans hB HB10.out.size) (hb.below (HB10.out.mono hB)) hn (by omega) (by omega)).mono ?_
                rintro e w11 ⟨ge, ce, env, rfl, h5, he, hoe, hb'⟩
                have HB11 := Lib.hid (HB10.out.trans (hb'.mono HB10.out.size))
                have Rl11 := Lib.hid (own_below' Rl10.out hb')
                have Ra11 := Lib.hid (own_below' Ra10.out hb')
                have Rb11 := Lib.hid (own_below' Rb10.out hb')
                have HRX := Lib.hid hb'
                clear hb' Rl10 Ra10 Rb10 HB10
                have hs0 := HBR.out.size
                have HOE := Lib.hid hoe
                have H5 := Lib.hid h5
                have HEV := Lib.hid he
                clear hoe h5 he
                go_wp2_with fail
                refine (implConsLeast_any w11 w11.heap.size (some ⟨g, 0, none⟩) m cap l (Nat.le_refl _) (OwnC.reads Rl11.out) (by omega)).mono ?_
                rintro e w12 ⟨Al, cl, rfl, hol, hb'⟩
                have HB12 := Lib.hid (HB11.out.trans (hb'.mono HB11.out.size))
                have Rl12 := Lib.hid (own_below' Rl11.out hb')
                have Ra12 := Lib.hid (own_below' Ra11.out hb')
                have Rb12 := Lib.hid (own_below' Rb11.out hb')
                have HRB := Lib.hid (HRX.out.trans (hb'.mono HRX.out.size))
                have HOE2 := Lib.hid (own_below' HOE.out hb')
                clear hb' Rl11 Ra11 Rb11 HB11
                have hge : ws.heap.size ≤ ge ∧ ge < w11.heap.size := HOE.out.lt ge rfl
                have hs1 := HRX.out.size
                have HRY := Lib.hid (HBR.out.trans (HRB.out.mono HBR.out.size))
                rw [leastO_is]
                cases hsat : satR l with
                | false =>
                  obtain ⟨E, hEe⟩ : ∃ E, env = E := ⟨_, rfl⟩
                  rw [hEe] at HOE2 H5 HEV
                  have HEE : Hid (envOk E = true ∧ E.length = 5 ∧ Nm.Pos E) := by have h := env_small H5.out (by omega) HEV.out; exact ⟨h.1, H5.out, h.2⟩
                  rw [leastO_no hsat]
                  simp only [Option.getD_none, List.length_nil]
                  clear hEe hsat hol
                  have HRZ := HRY
                  have Rx12 := Lib.hid (own_base (base' := w.heap.size) HOE2.out HBS.out.size)
                  go_wp2
                  refine wp_loop_rounds 1 ?_
                  rw [rounds_succ]
                  have EX := Lib.hid (evalU_ok HEE.out.1 OA.out)
                  have EY := Lib.hid (evalU_ok HEE.out.1 OB.out)
                  go_wp2_with fail
                  refine (levelEval_any w12 w12.heap.size Aa (some ⟨ge, 0, none⟩) na ca 5 ce E la 228 pv (Nat.lt_of_lt_of_le h0 (Nat.le_trans hB HB12.out.size)) (Nat.le_refl _) (OwnT.reads Ra12.out) (by omega) (OwnI.reads Rx12.out) (by omega) (hE.below (HB12.out.mono hB) h0)).mono ?_
                  rintro e w13 ⟨rfl, hb⟩
                  have HB13 := Lib.hid (HB12.out.trans (hb.mono HB12.out.size))
                  have Rl13 := Lib.hid (own_below' Rl12.out hb)
                  have Ra13 := Lib.hid (own_below' Ra12.out hb)
                  have Rb13 := Lib.hid (own_below' Rb12.out hb)
                  have Rx13 := Lib.hid (own_below' Rx12.out hb)
                  have HRZ := Lib.hid (HRZ.out.trans (hb.mono HRZ.out.size))
                  clear hb Rl12 Ra12 Rb12 Rx12 HB12
                  rw [EX.out]
                  go_wp2_with fail
                  refine (levelEval_any w13 w13.heap.size Ab (some ⟨ge, 0, none⟩) nb cb 5 ce E lb 228 pv (Nat.lt_of_lt_of_le h0 (Nat.le_trans hB HB13.out.size)) (Nat.le_refl _) (OwnT.reads Rb13.out) (by omega) (OwnI.reads Rx13.out) (by omega) (hE.below (HB13.out.mono hB) h0)).mono ?_
                  rintro e w14 ⟨rfl, hb⟩
                  have HB14 := Lib.hid (HB13.out.trans (hb.mono HB13.out.size))
                  have Rl14 := Lib.hid (own_below' Rl13.out hb)
                  have Ra14 := Lib.hid (own_below' Ra13.out hb)
                  have Rb14 := Lib.hid (own_below' Rb13.out hb)
                  have Rx14 := Lib.hid (own_below' Rx13.out hb)
                  have HRZ := Lib.hid (HRZ.out.trans (hb.mono HRZ.out.size))
                  clear hb Rl13 Ra13 Rb13 Rx13 HB13
                  rw [EY.out]
                  have hle := top_le HY.out HEE.out.1 HEE.out.2.1 HEE.out.2.2
                  obtain ⟨Hh, hHh⟩ : ∃ Hh, consHoldR l E = Hh := ⟨_, rfl⟩
                  have HHH := Lib.hid hHh
                  rw [hHh] at hle
                  clear hHh
                  go_wp2_with fail
                  refine (implConsHold_any w14 w14.heap.size (some ⟨g, 0, none⟩) m cap l (some ⟨ge, 0, none⟩) 5 ce E (Nat.le_refl _) (OwnC.reads Rl14.out) (by omega) (OwnI.reads Rx14.out) (by omega)).mono ?_
                  rintro e w15 ⟨rfl, hb⟩
                  have HB15 := Lib.hid (HB14.out.trans (hb.mono HB14.out.size))
                  have Rl15 := Lib.hid (own_below' Rl14.out hb)
                  have Ra15 := Lib.hid (own_below' Ra14.out hb)
                  have Rb15 := Lib.hid (own_below' Rb14.out hb)
                  have Rx15 := Lib.hid (own_below' Rx14.out hb)
                  have HRZ := Lib.hid (HRZ.out.trans (hb.mono HRZ.out.size))
                  clear hb Rl14 Ra14 Rb14 Rx14 HB14
                  rw [HHH.out]
                  generalize Dc.ev E la = X at hle ⊢
                  generalize Dc.ev E lb = Y at hle ⊢
                  cases Hh with
                  | false =>
                    clear hle
                    go_wp2
                    go_roundw
                    case rel => exact ⟨k + 1, by omega, by go_num, HRZ.out⟩
                    case measure => simp [intOf]; omega
                  | true =>
                    have dgt : decide (Y < X) = false := decide_eq_false (by have := hle rfl; omega)
                    clear hle
                    go_wp2
                    go_roundw
                    case rel => exact ⟨k + 1, by omega, by go_num, HRZ.out⟩
                    case measure => simp [intOf]; omega
                | true =>
                  have HLE := Lib.hid (leastO_yes hsat)
                  rw [HLE.out] at hol ⊢
                  simp only [Option.getD_some] at hol ⊢
                  rw [Cs.leastEnv_len] at hol ⊢
                  have HOL := Lib.hid hol
                  obtain ⟨gl, rfl, hgl1, hgl2⟩ := rowA_own hol (by omega)
                  have HMX := Lib.hid (maxE_ok HEV.out hsat)
                  clear hol hsat
                  have HOE3 : Hid (OwnI w12 ws.heap.size (some ⟨ge, 0, none⟩) 5 ce (maxE env (Cs.leastEnv l) 0)) := by show OwnI _ _ _ _ _ _; rw [maxE_zero H5.out]; exact HOE2.out
                  go_wp2
                  go_loopw [19] (fun i wr => ∃ p : Nat, p ≤ 5 ∧ i = .int .i64 p ∧ Hid (OwnI wr ws.heap.size (some ⟨ge, 0, none⟩) 5 ce (maxE env (Cs.leastEnv l) p)) ∧ Hid (OwnI wr w11.heap.size (some ⟨gl, 0, none⟩) 5 cl (Cs.leastEnv l)) ∧ Hid (Below ws.heap.size ws wr)) (fun i _ => 5 - (intOf i).toNat)
                  case atStart => exact ⟨0, by omega, rfl, HOE3.out, HOL.out, HRB.out⟩
                  case round =>
                    clear HOE3
                    obtain ⟨p, hp, rfl, HO, HL, HB⟩ := hrel
                    have hst := HB.out.size
                    by_cases hpl : p < 5
                    · have hpi : (p : Int) < 5 := by omega
                      have hp0 : 0 ≤ (p : Int) := by omega
                      obtain ⟨q1, q2⟩ := own_spot HO.out (i := p) (u := .int .i64 (env.getD p 0)) (by rw [List.getElem?_map, maxE_at env _ hpl (Nat.le_refl p)]; rfl)
                      obtain ⟨q3, _⟩ := own_spot HL.out (i := p) (u := .int .i64 ((Cs.leastEnv l).getD p 0)) (by rw [List.getElem?_map, get_five (Cs.leastEnv_len l) hpl]; rfl)
                      have HST := Lib.hid (maxE_set env (Cs.leastEnv l) hpl)
                      obtain ⟨x, hx⟩ : ∃ x, env.getD p 0 = x := ⟨_, rfl⟩
                      obtain ⟨y, hy⟩ : ∃ y, (Cs.leastEnv l).getD p 0 = y := ⟨_, rfl⟩
                      rw [hx] at q1
                      rw [hy] at q3
                      rw [hx, hy] at HST
                      have HO3 : Hid (OwnI (wr.setCell ⟨ge, p, none⟩ (.int .i64 (max x y))).drew ws.heap.size (some ⟨ge, 0, none⟩) 5 ce (maxE env (Cs.leastEnv l) (p + 1))) := by
                        have := own_set HO.out p (.int .i64 (max x y))
                        rw [← List.map_set, HST.out] at this
                        exact this
                      have HL3 : Hid (OwnI (wr.setCell ⟨ge, p, none⟩ (.int .i64 (max x y))).drew w11.heap.size (some ⟨gl, 0, none⟩) 5 cl (Cs.leastEnv l)) := own_low HL.out hge.2 p _
                      have HB3 : Hid (Below ws.heap.size ws (wr.setCell ⟨ge, p, none⟩ (.int .i64 (max x y))).drew) := (HB.out.setCell (p := ⟨ge, p, none⟩) hge.1 _).drew
                      clear hx hy
                      go_wp2
                      refine region_tail 12 (by kernel_rfl) (by kernel_rfl) ?_
                      simp only [List.take_succ_cons, List.take_zero, List.drop_succ_cons, List.drop_zero]
                      repeat still_step
                      refine wpStill_nil ?_
                      rw [gtI]
                      go_wp2
                      go_roundw
                      case rel => exact ⟨p + 1, by omega, by go_num, HO3.out, HL3.out, HB3.out⟩
                      case measure => simp [intOf]; omega
                    · obtain rfl : p = 5 := by omega
                      obtain ⟨E, hEe⟩ : ∃ E, maxE env (Cs.leastEnv l) 5 = E := ⟨_, rfl⟩
                      rw [hEe] at HO HMX
                      have HEE := HMX
                      clear hEe
                      have HBW := Lib.hid (HBR.out.trans (HB.out.mono HBR.out.size))
                      have HB13 := Lib.hid (HBS.out.trans (HB.out.mono HBS.out.size))
                      have Rl13 := Lib.hid (own_below' SL.out HB.out)
                      have Ra13 := Lib.hid (own_below' SA.out HB.out)
                      have Rb13 := Lib.hid (own_below' SB.out HB.out)
                      have HRZ := HBW
                      have Rx13 := Lib.hid (own_base (base' := w.heap.size) HO.out HBS.out.size)
                      have EX := Lib.hid (evalU_ok HEE.out.1 OA.out)
                      have EY := Lib.hid (evalU_ok HEE.out.1 OB.out)
                      go_wp2_with fail
                      refine (levelEval_any wr wr.heap.size Aa (some ⟨ge, 0, none⟩) na ca 5 ce E la 228 pv (Nat.lt_of_lt_of_le h0 (Nat.le_trans hB HB13.out.size)) (Nat.le_refl _) (OwnT.reads Ra13.out) (by omega) (OwnI.reads Rx13.out) (by omega) (hE.below (HB13.out.mono hB) h0)).mono ?_
                      rintro e w14 ⟨rfl, hb⟩
                      have HB14 := Lib.hid (HB13.out.trans (hb.mono HB13.out.size))
                      have Rl14 := Lib.hid (own_below' Rl13.out hb)
                      have Ra14 := Lib.hid (own_below' Ra13.out hb)
                      have Rb14 := Lib.hid (own_below' Rb13.out hb)
                      have Rx14 := Lib.hid (own_below' Rx13.out hb)
                      have HRZ := Lib.hid (HRZ.out.trans (hb.mono HRZ.out.size))
                      clear hb Rl13 Ra13 Rb13 Rx13 HB13
                      rw [EX.out]
                      go_wp2_with fail
                      refine (levelEval_any w14 w14.heap.size Ab (some ⟨ge, 0, none⟩) nb cb 5 ce E lb 228 pv (Nat.lt_of_lt_of_le h0 (Nat.le_trans hB HB14.out.size)) (Nat.le_refl _) (OwnT.reads Rb14.out) (by omega) (OwnI.reads Rx14.out) (by omega) (hE.below (HB14.out.mono hB) h0)).mono ?_
                      rintro e w15 ⟨rfl, hb⟩
                      have HB15 := Lib.hid (HB14.out.trans (hb.mono HB14.out.size))
                      have Rl15 := Lib.hid (own_below' Rl14.out hb)
                      have Ra15 := Lib.hid (own_below' Ra14.out hb)
                      have Rb15 := Lib.hid (own_below' Rb14.out hb)
                      have Rx15 := Lib.hid (own_below' Rx14.out hb)
                      have HRZ := Lib.hid (HRZ.out.trans (hb.mono HRZ.out.size))
                      clear hb Rl14 Ra14 Rb14 Rx14 HB14
                      rw [EY.out]
                      have hle := top_le HY.out HEE.out.1 HEE.out.2.1 HEE.out.2.2
                      obtain ⟨Hh, hHh⟩ : ∃ Hh, consHoldR l E = Hh := ⟨_, rfl⟩
                      have HHH := Lib.hid hHh
                      rw [hHh] at hle
                      clear hHh
                      go_wp2_with fail
                      refine (implConsHold_any w15 w15.heap.size (some ⟨g, 0, none⟩) m cap l (some ⟨ge, 0, none⟩) 5 ce E (Nat.le_refl _) (OwnC.reads Rl15.out) (by omega) (OwnI.reads Rx15.out) (by omega)).mono ?_
                      rintro e w16 ⟨rfl, hb⟩
                      have HB16 := Lib.hid (HB15.out.trans (hb.mono HB15.out.size))
                      have Rl16 := Lib.hid (own_below' Rl15.out hb)
                      have Ra16 := Lib.hid (own_below' Ra15.out hb)
                      have Rb16 := Lib.hid (own_below' Rb15.out hb)
                      have Rx16 := Lib.hid (own_below' Rx15.out hb)
                      have HRZ := Lib.hid (HRZ.out.trans (hb.mono HRZ.out.size))
                      clear hb Rl15 Ra15 Rb15 Rx15 HB15
                      rw [HHH.out]
                      generalize Dc.ev E la = X at hle ⊢
                      generalize Dc.ev E lb = Y at hle ⊢
                      cases Hh with
                      | false =>
                        clear hle
                        go_wp2
                        go_roundw
                        case rel => exact ⟨k + 1, by omega, by go_num, HRZ.out⟩
                        case measure => simp [intOf]; omega
                      | true =>
                        have dgt : decide (Y < X) = false := decide_eq_false (by have := hle rfl; omega)
                        clear hle
                        go_wp2
                        go_roundw
                        case rel => exact ⟨k + 1, by omega, by go_num, HRZ.out⟩
                        case measure => simp [intOf]; omega
              · obtain rfl : k = 8 := by omega
                go_wp2
                go_ret
                exact ⟨rfl, HB10.out⟩
          · skip
            have HY := Lib.hid hY
            have HW := Lib.hid hW
            have HE5 := Lib.hid hwit.len
            have EA := Lib.hid (evalU_ok hwit.ok OA.out)
            have EB := Lib.hid (evalU_ok hwit.ok OB.out)
            have HGT := Lib.hid hwit.gt
            have HHO := Lib.hid (hwit.hold HC.out)
            clear hY hW hwit
            go_wp2_with fail
            refine (implLeUnder_any w1 w1.heap.size (some ⟨g, 0, none⟩) m cap l Aa na ca la Ab nb cb lb 228 pv 228 pc (Nat.lt_of_lt_of_le h0 (Nat.le_trans hB HB1.out.size)) (Nat.lt_of_lt_of_le h0c (Nat.le_trans hB HB1.out.size)) (Nat.le_refl _) (.inl ⟨_, _, rfl⟩) (OwnC.reads Rl1.out) (by omega) (OwnT.reads Ra1.out) (by omega) (OwnT.reads Rb1.out) (by omega) (hE.below (HB1.out.mono hB) h0) (hEc.below (HB1.out.mono hB) h0c)).mono ?_
            rintro e w2 ⟨rfl, hb⟩
            have HB2 := Lib.hid (HB1.out.trans (hb.mono HB1.out.size))
            have Rl2 := Lib.hid (own_below' Rl1.out hb)
            have Ra2 := Lib.hid (own_below' Ra1.out hb)
            have Rb2 := Lib.hid (own_below' Rb1.out hb)
            clear hb Rl1 Ra1 Rb1 HB1
            rw [HY.out]
            go_wp2_with fail
            refine (implWitness_any w2 w2.heap.size (some ⟨g, 0, none⟩) m cap l Aa na ca la Ab nb cb lb pv pc (Nat.lt_of_lt_of_le h0 (Nat.le_trans hB HB2.out.size)) (Nat.lt_of_lt_of_le h0c (Nat.le_trans hB HB2.out.size)) (Nat.lt_of_lt_of_le h0t (Nat.le_trans hB HB2.out.size)) (Nat.le_refl _) (.inl ⟨_, _, rfl⟩) (OwnC.reads Rl2.out) (by omega) (OwnT.reads Ra2.out) (by omega) (OwnT.reads Rb2.out) (by omega) (hE.below (HB2.out.mono hB) h0) (hEc.below (HB2.out.mono hB) h0c) (hEt.below (HB2.out.mono hB) h0t)).mono ?_
            rintro e w3 ⟨A3, c3, rfl, ho, hb'⟩
            have HB3 := Lib.hid (HB2.out.trans (hb'.mono HB2.out.size))
            have Rl3 := Lib.hid (own_below' Rl2.out hb')
            have Ra3 := Lib.hid (own_below' Ra2.out hb')
            have Rb3 := Lib.hid (own_below' Rb2.out hb')
            rw [HW.out] at ho ⊢
            simp only [Option.getD_some, Option.isSome_some] at ho ⊢
            rw [HE5.out] at ho ⊢
            have Rv3 := Lib.hid (own_base (base' := w.heap.size) ho HB2.out.size)
            clear hb' Rl2 Ra2 Rb2 HB2
            clear ho
            go_wp2_with fail
            refine (specWitness_any w3 w3.heap.size g 0 m cap l Aa na ca la Ab nb cb lb (Nat.le_refl _) (OwnC.reads Rl3.out) (by omega) (OwnT.reads Ra3.out) (by omega) (OwnT.reads Rb3.out) (by omega)).mono ?_
            rintro e w4 ⟨A4, c4, rfl, ho, hb'⟩
            have HB4 := Lib.hid (HB3.out.trans (hb'.mono HB3.out.size))
            have Rl4 := Lib.hid (own_below' Rl3.out hb')
            have Ra4 := Lib.hid (own_below' Ra3.out hb')
            have Rb4 := Lib.hid (own_below' Rb3.out hb')
            have Rv4 := Lib.hid (own_below' Rv3.out hb')
            rw [HW.out] at ho ⊢
            simp only [Option.getD_some, Option.isSome_some] at ho ⊢
            rw [HE5.out] at ho ⊢
            have Ru4 := Lib.hid (own_base (base' := w.heap.size) ho HB3.out.size)
            clear hb' Rl3 Ra3 Rb3 Rv3 HB3
            clear ho
            go_wp2_with fail
            refine (specLeUnder_any w4 w4.heap.size g 0 m cap l Aa na ca la Ab nb cb lb (Nat.le_refl _) (OwnC.reads Rl4.out) (by omega) (OwnT.reads Ra4.out) (by omega) (OwnT.reads Rb4.out) (by omega)).mono ?_
            rintro e w5 ⟨rfl, hb⟩
            have HB5 := Lib.hid (HB4.out.trans (hb.mono HB4.out.size))
            have Rl5 := Lib.hid (own_below' Rl4.out hb)
            have Ra5 := Lib.hid (own_below' Ra4.out hb)
            have Rb5 := Lib.hid (own_below' Rb4.out hb)
            have Rv5 := Lib.hid (own_below' Rv4.out hb)
            have Ru5 := Lib.hid (own_below' Ru4.out hb)
            clear hb Rl4 Ra4 Rb4 Rv4 Ru4 HB4
            rw [HY.out]
            go_wp2_with fail
            refine (same_any w5 w5.heap.size A3 A4 5 5 c3 c4 e5 e5 (Nat.le_refl _) (OwnI.reads Rv5.out) (OwnI.reads Ru5.out) (by omega) (by omega)).mono ?_
            rintro e w6 ⟨rfl, hb⟩
            have HB6 := Lib.hid (HB5.out.trans (hb.mono HB5.out.size))
            have Rl6 := Lib.hid (own_below' Rl5.out hb)
            have Ra6 := Lib.hid (own_below' Ra5.out hb)
            have Rb6 := Lib.hid (own_below' Rb5.out hb)
            have Rv6 := Lib.hid (own_below' Rv5.out hb)
            have Ru6 := Lib.hid (own_below' Ru5.out hb)
            clear hb Rl5 Ra5 Rb5 Rv5 Ru5 HB5
            rw [decide_eq_true rfl]
            clear Ru6
            go_wp2_with fail
            refine (specConsOk_any w6 w6.heap.size (some ⟨g, 0, none⟩) m cap l (Nat.le_refl _) (OwnC.reads Rl6.out) (by omega)).mono ?_
            rintro e w7 ⟨rfl, hb⟩
            have HB7 := Lib.hid (HB6.out.trans (hb.mono HB6.out.size))
            have Rl7 := Lib.hid (own_below' Rl6.out hb)
            have Ra7 := Lib.hid (own_below' Ra6.out hb)
            have Rb7 := Lib.hid (own_below' Rb6.out hb)
            have Rv7 := Lib.hid (own_below' Rv6.out hb)
            clear hb Rl6 Ra6 Rb6 Rv6 HB6
            rw [HC.out]
            go_wp2_with fail
            refine (specOk_any w7 w7.heap.size Aa na ca la (Nat.le_refl _) (OwnT.reads Ra7.out) (by omega)).mono ?_
            rintro e w8 ⟨rfl, hb⟩
            have HB8 := Lib.hid (HB7.out.trans (hb.mono HB7.out.size))
            have Rl8 := Lib.hid (own_below' Rl7.out hb)
            have Ra8 := Lib.hid (own_below' Ra7.out hb)
            have Rb8 := Lib.hid (own_below' Rb7.out hb)
            have Rv8 := Lib.hid (own_below' Rv7.out hb)
            clear hb Rl7 Ra7 Rb7 Rv7 HB7
            rw [OA.out]
            go_wp2_with fail
            refine (specOk_any w8 w8.heap.size Ab nb cb lb (Nat.le_refl _) (OwnT.reads Rb8.out) (by omega)).mono ?_
            rintro e w9 ⟨rfl, hb⟩
            have HB9 := Lib.hid (HB8.out.trans (hb.mono HB8.out.size))
            have Rl9 := Lib.hid (own_below' Rl8.out hb)
            have Ra9 := Lib.hid (own_below' Ra8.out hb)
            have Rb9 := Lib.hid (own_below' Rb8.out hb)
            have Rv9 := Lib.hid (own_below' Rv8.out hb)
            clear hb Rl8 Ra8 Rb8 Rv8 HB8
            rw [OB.out]
            go_wp2_with fail
            refine (levelEval_any w9 w9.heap.size Aa A3 na ca 5 c3 e5 la 228 pv (Nat.lt_of_lt_of_le h0 (Nat.le_trans hB HB9.out.size)) (Nat.le_refl _) (OwnT.reads Ra9.out) (by omega) (OwnI.reads Rv9.out) (by omega) (hE.below (HB9.out.mono hB) h0)).mono ?_
            rintro e w10 ⟨rfl, hb⟩
            have HB10 := Lib.hid (HB9.out.trans (hb.mono HB9.out.size))
            have Rl10 := Lib.hid (own_below' Rl9.out hb)
            have Ra10 := Lib.hid (own_below' Ra9.out hb)
            have Rb10 := Lib.hid (own_below' Rb9.out hb)
            have Rv10 := Lib.hid (own_below' Rv9.out hb)
            clear hb Rl9 Ra9 Rb9 Rv9 HB9
            rw [EA.out]
            go_wp2_with fail
            refine (levelEval_any w10 w10.heap.size Ab A3 nb cb 5 c3 e5 lb 228 pv (Nat.lt_of_lt_of_le h0 (Nat.le_trans hB HB10.out.size)) (Nat.le_refl _) (OwnT.reads Rb10.out) (by omega) (OwnI.reads Rv10.out) (by omega) (hE.below (HB10.out.mono hB) h0)).mono ?_
            rintro e w11 ⟨rfl, hb⟩
            have HB11 := Lib.hid (HB10.out.trans (hb.mono HB10.out.size))
            have Rl11 := Lib.hid (own_below' Rl10.out hb)
            have Ra11 := Lib.hid (own_below' Ra10.out hb)
            have Rb11 := Lib.hid (own_below' Rb10.out hb)
            have Rv11 := Lib.hid (own_below' Rv10.out hb)
            clear hb Rl10 Ra10 Rb10 Rv10 HB10
            rw [EB.out]
            have hgt := HGT.out
            generalize Dc.ev e5 la = X at hgt ⊢
            generalize Dc.ev e5 lb = Y at hgt ⊢
            have dgt : decide (Y < X) = true := decide_eq_true hgt
            clear hgt
            go_wp2_with fail
            refine (implConsHold_any w11 w11.heap.size (some ⟨g, 0, none⟩) m cap l A3 5 c3 e5 (Nat.le_refl _) (OwnC.reads Rl11.out) (by omega) (OwnI.reads Rv11.out) (by omega)).mono ?_
            rintro e w12 ⟨rfl, hb⟩
            have HB12 := Lib.hid (HB11.out.trans (hb.mono HB11.out.size))
            have Rl12 := Lib.hid (own_below' Rl11.out hb)
            have Ra12 := Lib.hid (own_below' Ra11.out hb)
            have Rb12 := Lib.hid (own_below' Rb11.out hb)
            have Rv12 := Lib.hid (own_below' Rv11.out hb)
            clear hb Rl11 Ra11 Rb11 Rv11 HB11
            rw [HHO.out]
            go_wp2
            go_ret
            exact ⟨rfl, HB12.out⟩
end Go.Proofs.YtgebjnoicgmdoaaGreatDoor
