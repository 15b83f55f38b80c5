/- The law FnWitnessLess: the walk. -/
import Derived.Test.YtgebjnoicgmdoaaGreatDoorDrawLU
import Derived.Test.YtgebjnoicgmdoaaGreatDoorPtImp

namespace Go.Proofs.YtgebjnoicgmdoaaGreatDoor
open Go.RowKit
open Cs (Cn)

theorem wit_or (l : List Cn) (a b : List (Int × Int)) : witR l a b = none ∨ (consOkR l = true ∧ ∃ e, witR l a b = some e ∧ Wit l a b e) := by
  by_cases h : consOkR l = true ∧ Lv.levelOk a = true ∧ Lv.levelOk b = true
  · rcases wit_le h.1 h.2.1 h.2.2 with ⟨_, h1⟩ | ⟨_, h1⟩
    · exact .inl h1
    · exact .inr ⟨h.1, h1⟩
  · exact .inl (wit_bad h).2

set_option maxRecDepth 100000 in
set_option maxHeartbeats 64000000 in
theorem fnWitnessLess_any (w : World) (B : Nat) (A : Option Addr) (n c : Nat) (pv pc : Value) (h0 : 1 < B) (h0c : 0 < B) (h0t : 2 < B) (hB : B ≤ w.heap.size)
    (hb : BytR w B A n) (_hnc : n ≤ c) (hE : ErrAt w 228 pv) (hEc : ErrCAt w 228 pc) (hEt : ErrTAt w) :
    Calls Tryz.prog 6 #[.slice A n c] w fun e w' => e = .returned (.bool true) ∧ Below w.heap.size w w' := by
  by_cases hbig : 1048576 < (n : Int)
  · go_enter Tryz.func6, Tryz.ntmps6
    go_wp2_with fail
    refine (big_any w A n c).mono ?_
    rintro e w' ⟨rfl, rfl⟩
    rw [decide_eq_true (by omega)]
    go_wp2
    go_ret
    exact ⟨rfl, Below.refl _ _⟩
  · have hn : n ≤ 1048576 := by omega
    go_enter Tryz.func6, Tryz.ntmps6
    go_wp2_with fail
    refine (big_any w A n c).mono ?_
    rintro e w' ⟨rfl, rfl⟩
    rw [decide_eq_false (by omega)]
    have HB0 : Hid (Below w.heap.size w w) := Below.refl _ _
    go_wp2_with fail
    refine (drawWitness_any w B A n c hB hb hn).mono ?_
    rintro e w1 ⟨⟨g, cap, m, l, Aa, na, ca, la, Ab, nb, cb, lb, rfl, hm, hna, hnb, hol, hoa, hob⟩, hb1⟩
    have HB1 := Lib.hid hb1
    have Rl1 := Lib.hid hol
    have Ra1 := Lib.hid hoa
    have Rb1 := Lib.hid hob
    have hs1 := hb1.size
    have HLL : Hid (l.length = m) := (OwnC.reads hol).1
    clear hol hoa hob hb1
    rcases wit_or l la lb with hW | ⟨hc, e5, hW, hwit⟩
    · have HW := Lib.hid hW
      clear hW
      go_wp2_with fail
      refine (implWitness_any w1 w1.heap.size (some ⟨g, 0, none⟩) m cap l Aa na ca la Ab nb cb lb pv pc (Nat.lt_of_lt_of_le h0 (Nat.le_trans hB HB1.out.size)) (Nat.lt_of_lt_of_le h0c (Nat.le_trans hB HB1.out.size)) (Nat.lt_of_lt_of_le h0t (Nat.le_trans hB HB1.out.size)) (Nat.le_refl _) (.inl ⟨_, _, rfl⟩) (OwnC.reads Rl1.out) (by omega) (OwnT.reads Ra1.out) (by omega) (OwnT.reads Rb1.out) (by omega) (hE.below (HB1.out.mono hB) h0) (hEc.below (HB1.out.mono hB) h0c) (hEt.below (HB1.out.mono hB) h0t)).mono ?_
      rintro e w2 ⟨A2, c2, rfl, ho, hb'⟩
      have HB2 := Lib.hid (HB1.out.trans (hb'.mono HB1.out.size))
      have Rl2 := Lib.hid (own_below' Rl1.out hb')
      have Ra2 := Lib.hid (own_below' Ra1.out hb')
      have Rb2 := Lib.hid (own_below' Rb1.out hb')
      rw [HW.out] at ho ⊢
      simp only [Option.getD_none, Option.isSome_none, List.length_nil] at ho ⊢
      have Rv2 := Lib.hid (own_base (base' := w.heap.size) ho HB1.out.size)
      clear hb' Rl1 Ra1 Rb1 HB1
      clear ho
      go_wp2_with fail
      refine (specWitness_any w2 w2.heap.size g 0 m cap l Aa na ca la Ab nb cb lb (Nat.le_refl _) (OwnC.reads Rl2.out) (by omega) (OwnT.reads Ra2.out) (by omega) (OwnT.reads Rb2.out) (by omega)).mono ?_
      rintro e w3 ⟨A3, c3, rfl, ho, hb'⟩
      have HB3 := Lib.hid (HB2.out.trans (hb'.mono HB2.out.size))
      have Rl3 := Lib.hid (own_below' Rl2.out hb')
      have Ra3 := Lib.hid (own_below' Ra2.out hb')
      have Rb3 := Lib.hid (own_below' Rb2.out hb')
      have Rv3 := Lib.hid (own_below' Rv2.out hb')
      rw [HW.out] at ho ⊢
      simp only [Option.getD_none, Option.isSome_none, List.length_nil] at ho ⊢
      have Ru3 := Lib.hid (own_base (base' := w.heap.size) ho HB2.out.size)
      clear hb' Rl2 Ra2 Rb2 Rv2 HB2
      clear ho
      go_wp2_with fail
      refine (same_any w3 w3.heap.size A2 A3 0 0 c2 c3 ([] : List Int) ([] : List Int) (Nat.le_refl _) (OwnI.reads Rv3.out) (OwnI.reads Ru3.out) (by omega) (by omega)).mono ?_
      rintro e w4 ⟨rfl, hb⟩
      have HB4 := Lib.hid (HB3.out.trans (hb.mono HB3.out.size))
      have Rl4 := Lib.hid (own_below' Rl3.out hb)
      have Ra4 := Lib.hid (own_below' Ra3.out hb)
      have Rb4 := Lib.hid (own_below' Rb3.out hb)
      have Rv4 := Lib.hid (own_below' Rv3.out hb)
      have Ru4 := Lib.hid (own_below' Ru3.out hb)
      clear hb Rl3 Ra3 Rb3 Rv3 Ru3 HB3
      rw [decide_eq_true rfl]
      go_wp2_with fail
      refine (same_any w4 w4.heap.size A2 A3 0 0 c2 c3 ([] : List Int) ([] : List Int) (Nat.le_refl _) (OwnI.reads Rv4.out) (OwnI.reads Ru4.out) (by omega) (by omega)).mono ?_
      rintro e w5 ⟨rfl, hb⟩
      have HB5 := Lib.hid (HB4.out.trans (hb.mono HB4.out.size))
      have Rl5 := Lib.hid (own_below' Rl4.out hb)
      have Ra5 := Lib.hid (own_below' Ra4.out hb)
      have Rb5 := Lib.hid (own_below' Rb4.out hb)
      have Rv5 := Lib.hid (own_below' Rv4.out hb)
      have Ru5 := Lib.hid (own_below' Ru4.out hb)
      clear hb Rl4 Ra4 Rb4 Rv4 Ru4 HB4
      rw [decide_eq_true rfl]
      go_wp2
      go_ret
      exact ⟨rfl, HB5.out⟩
    · have HW := Lib.hid hW
      clear hW
      have HC := Lib.hid hc
      have HE5 := Lib.hid hwit.len
      have HWT : Hid (Wit l la lb e5) := hwit
      have HSAT := Lib.hid (hwit.flat hc)
      clear hc hwit
      go_wp2_with fail
      refine (implWitness_any w1 w1.heap.size (some ⟨g, 0, none⟩) m cap l Aa na ca la Ab nb cb lb pv pc (Nat.lt_of_lt_of_le h0 (Nat.le_trans hB HB1.out.size)) (Nat.lt_of_lt_of_le h0c (Nat.le_trans hB HB1.out.size)) (Nat.lt_of_lt_of_le h0t (Nat.le_trans hB HB1.out.size)) (Nat.le_refl _) (.inl ⟨_, _, rfl⟩) (OwnC.reads Rl1.out) (by omega) (OwnT.reads Ra1.out) (by omega) (OwnT.reads Rb1.out) (by omega) (hE.below (HB1.out.mono hB) h0) (hEc.below (HB1.out.mono hB) h0c) (hEt.below (HB1.out.mono hB) h0t)).mono ?_
      rintro e w2 ⟨A2, c2, rfl, ho, hb'⟩
      have HB2 := Lib.hid (HB1.out.trans (hb'.mono HB1.out.size))
      have Rl2 := Lib.hid (own_below' Rl1.out hb')
      have Ra2 := Lib.hid (own_below' Ra1.out hb')
      have Rb2 := Lib.hid (own_below' Rb1.out hb')
      rw [HW.out] at ho ⊢
      simp only [Option.getD_some, Option.isSome_some] at ho ⊢
      rw [HE5.out] at ho ⊢
      have Rv2 := Lib.hid (own_base (base' := w.heap.size) ho HB1.out.size)
      clear hb' Rl1 Ra1 Rb1 HB1
      clear ho
      go_wp2_with fail
      refine (specWitness_any w2 w2.heap.size g 0 m cap l Aa na ca la Ab nb cb lb (Nat.le_refl _) (OwnC.reads Rl2.out) (by omega) (OwnT.reads Ra2.out) (by omega) (OwnT.reads Rb2.out) (by omega)).mono ?_
      rintro e w3 ⟨A3, c3, rfl, ho, hb'⟩
      have HB3 := Lib.hid (HB2.out.trans (hb'.mono HB2.out.size))
      have Rl3 := Lib.hid (own_below' Rl2.out hb')
      have Ra3 := Lib.hid (own_below' Ra2.out hb')
      have Rb3 := Lib.hid (own_below' Rb2.out hb')
      have Rv3 := Lib.hid (own_below' Rv2.out hb')
      rw [HW.out] at ho ⊢
      simp only [Option.getD_some, Option.isSome_some] at ho ⊢
      rw [HE5.out] at ho ⊢
      have Ru3 := Lib.hid (own_base (base' := w.heap.size) ho HB2.out.size)
      clear hb' Rl2 Ra2 Rb2 Rv2 HB2
      clear ho
      go_wp2_with fail
      refine (same_any w3 w3.heap.size A2 A3 5 5 c2 c3 e5 e5 (Nat.le_refl _) (OwnI.reads Rv3.out) (OwnI.reads Ru3.out) (by omega) (by omega)).mono ?_
      rintro e w4 ⟨rfl, hb⟩
      have HB4 := Lib.hid (HB3.out.trans (hb.mono HB3.out.size))
      have Rl4 := Lib.hid (own_below' Rl3.out hb)
      have Ra4 := Lib.hid (own_below' Ra3.out hb)
      have Rb4 := Lib.hid (own_below' Rb3.out hb)
      have Rv4 := Lib.hid (own_below' Rv3.out hb)
      have Ru4 := Lib.hid (own_below' Ru3.out hb)
      clear hb Rl3 Ra3 Rb3 Rv3 Ru3 HB3
      rw [decide_eq_true rfl]
      clear Ru4
      obtain ⟨gv, hgv, _, _⟩ := rowA_own Rv4.out (by omega)
      subst hgv
      go_wp2
      go_loopw [10] (fun i wr => ∃ k : Nat, k ≤ 5 ∧ i = .int .i64 k ∧ Hid (Below w4.heap.size w4 wr)) (fun i _ => 5 - (intOf i).toNat)
      case atStart => exact ⟨0, by omega, rfl, Below.refl _ _⟩
      case round =>
        obtain ⟨k, hk, rfl, hbr⟩ := hrel
        have HB5 := Lib.hid (HB4.out.trans (hbr.out.mono HB4.out.size))
        have Rl5 := Lib.hid (own_below' Rl4.out hbr.out)
        have Ra5 := Lib.hid (own_below' Ra4.out hbr.out)
        have Rb5 := Lib.hid (own_below' Rb4.out hbr.out)
        have Rv5 := Lib.hid (own_below' Rv4.out hbr.out)
        clear Rl4 Ra4 Rb4 Rv4 HB4
        have HBR := hbr
        clear hbr
        by_cases hlt : k < 5
        · have hki : (k : Int) < 5 := by omega
          obtain ⟨q1, _⟩ := own_spot Rv5.out (i := k) (u := .int .i64 (e5.getD k 0)) (by rw [List.getElem?_map, get_five HE5.out hlt]; rfl)
          have hmx := HWT.out.max k hlt
          have HZR := fun h => HWT.out.zero HC.out hlt h
          obtain ⟨x, hx⟩ : ∃ x, e5.getD k 0 = x := ⟨_, rfl⟩
          rw [hx] at q1 hmx HZR
          have HZR' := Lib.hid HZR
          clear hx HZR
          have d1 : decide (205 < x) = false := decide_eq_false (by omega)
          go_wp2_with fail
          refine (implConsImply_any wr wr.heap.size (some ⟨g, 0, none⟩) m cap l (k : Int) 0 (-1) (Nat.le_refl _) (OwnC.reads Rl5.out) (by omega)).mono ?_
          rintro e w6 ⟨rfl, hb'⟩
          have HB6 := Lib.hid (HB5.out.trans (hb'.mono HB5.out.size))
          have Rl6 := Lib.hid (own_below' Rl5.out hb')
          have Ra6 := Lib.hid (own_below' Ra5.out hb')
          have Rb6 := Lib.hid (own_below' Rb5.out hb')
          have Rv6 := Lib.hid (own_below' Rv5.out hb')
          have HRZ := Lib.hid (HBR.out.trans (hb'.mono HBR.out.size))
          clear hb' Rl5 Ra5 Rb5 Rv5 HB5
          cases hy : impR l ((k : Int), 0, -1) with
          | false =>
            go_wp2
            go_roundw
            case rel => exact ⟨k + 1, by omega, by go_num, HRZ.out⟩
            case measure => simp [intOf]; omega
          | true =>
            have hx0 := HZR'.out hy
            subst hx0
            obtain ⟨q2, _⟩ := own_spot Rv6.out (i := k) (u := .int .i64 0) (by rw [List.getElem?_map, get_five HE5.out hlt, HWT.out.zero HC.out hlt hy]; rfl)
            clear hy
            go_wp2
            go_roundw
            case rel => exact ⟨k + 1, by omega, by go_num, HRZ.out⟩
            case measure => simp [intOf]; omega
        · have hkn : ¬ (k : Int) < 5 := by omega
          go_wp2_with fail
          refine (implConsLeast_any wr wr.heap.size (some ⟨g, 0, none⟩) m cap l (Nat.le_refl _) (OwnC.reads Rl5.out) (by omega)).mono ?_
          rintro e w6 ⟨Al, cl, rfl, hol, hb'⟩
          have HB6 := Lib.hid (HB5.out.trans (hb'.mono HB5.out.size))
          have Rl6 := Lib.hid (own_below' Rl5.out hb')
          have Ra6 := Lib.hid (own_below' Ra5.out hb')
          have Rb6 := Lib.hid (own_below' Rb5.out hb')
          have Rv6 := Lib.hid (own_below' Rv5.out hb')
          clear hb' Rl5 Ra5 Rb5 Rv5 HB5
          have HLE := Lib.hid (leastO_yes HSAT.out)
          rw [HLE.out] at hol ⊢
          simp only [Option.getD_some, Option.isSome_some] at hol ⊢
          rw [Cs.leastEnv_len] at hol ⊢
          have Rm6 := Lib.hid (own_base (base' := w.heap.size) hol (by have := HBR.out.size; omega))
          clear hol
          obtain ⟨gm, hgm, _, _⟩ := rowA_own Rm6.out (by omega)
          subst hgm
          go_wp2
          go_loopw [13] (fun i wr => ∃ k : Nat, k ≤ 5 ∧ i = .int .i64 k ∧ Hid (Below w6.heap.size w6 wr)) (fun i _ => 5 - (intOf i).toNat)
          case atStart => exact ⟨0, by omega, rfl, Below.refl _ _⟩
          case round =>
            obtain ⟨k, hk, rfl, hbr⟩ := hrel
            have HB7 := Lib.hid (HB6.out.trans (hbr.out.mono HB6.out.size))
            have Rl7 := Lib.hid (own_below' Rl6.out hbr.out)
            have Ra7 := Lib.hid (own_below' Ra6.out hbr.out)
            have Rb7 := Lib.hid (own_below' Rb6.out hbr.out)
            have Rv7 := Lib.hid (own_below' Rv6.out hbr.out)
            have Rm7 := Lib.hid (own_below' Rm6.out hbr.out)
            clear Rl6 Ra6 Rb6 Rv6 Rm6 HB6
            have HBR := hbr
            clear hbr
            by_cases hlt : k < 5
            · have hki : (k : Int) < 5 := by omega
              obtain ⟨q1, _⟩ := own_spot Rv7.out (i := k) (u := .int .i64 (e5.getD k 0)) (by rw [List.getElem?_map, get_five HE5.out hlt]; rfl)
              obtain ⟨q3, _⟩ := own_spot Rm7.out (i := k) (u := .int .i64 ((Cs.leastEnv l).getD k 0)) (by rw [List.getElem?_map, get_five (Cs.leastEnv_len l) hlt]; rfl)
              have hle := HWT.out.least HC.out hlt
              have hk0 : 0 ≤ (k : Int) := by omega
              generalize e5.getD k 0 = x at q1 hle
              generalize (Cs.leastEnv l).getD k 0 = y at q3 hle
              have d1 : decide (x < y) = false := decide_eq_false (by omega)
              have HRZ : Hid (Below w6.heap.size w6 wr.drew) := HBR.out.drew
              clear hle
              go_wp2
              refine region_tail 8 (by kernel_rfl) (by kernel_rfl) ?_
              simp only [List.take_succ_cons, List.take_zero, List.drop_succ_cons, List.drop_zero]
              repeat still_step
              refine wpStill_nil ?_
              go_wp2
              go_roundw
              case rel => exact ⟨k + 1, by omega, by go_num, HRZ.out⟩
              case measure => simp [intOf]; omega
            · have hkn : ¬ (k : Int) < 5 := by omega
              go_wp2
              go_ret
              exact ⟨rfl, HB7.out⟩
end Go.Proofs.YtgebjnoicgmdoaaGreatDoor
