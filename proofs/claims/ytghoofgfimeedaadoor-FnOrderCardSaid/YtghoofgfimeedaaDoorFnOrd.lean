/- The law FnOrder: the walk. -/
import Derived.Test.YtghoofgfimeedaaDoorDraw6
import Derived.Test.YtghoofgfimeedaaDoorDLe

namespace Go.Proofs.YtghoofgfimeedaaDoor
open Go.RowKit

theorem Dc.less_refl {a : List (Int × Int)} (ha : Lv.levelOk a = true) : Dc.lessR a a = false := by
  cases e : Dc.lessR a a with
  | false => rfl
  | true =>
    have := (Dc.less_sem ha ha).1 e [0, 0, 0, 0, 0] rfl (fun x hx => by simp at hx; omega)
    omega
theorem Dc.less_le {a b : List (Int × Int)} (ha : Lv.levelOk a = true) (hb : Lv.levelOk b = true) (h : Dc.lessR a b = true) : Dc.leR a b = true :=
  (Dc.le_sem ha hb).2 fun env h5 hp => by have := (Dc.less_sem ha hb).1 h env h5 hp; omega
theorem Dc.ev_succ {env : List Int} {b q : List (Int × Int)} {n : Nat} (h : succR b (n : Int) = some q) (hb : Lv.levelOk b = true) : Lv.levelOk q = true ∧ Dc.ev env q = Dc.ev env b + n := by
  have h1 := eval_succ h (Dc.ev_some (env := env) hb)
  refine ⟨h1.2.1, ?_⟩
  unfold Dc.ev at h1 ⊢
  rw [h1.2.2.1]
  rfl
theorem Dc.less_succ {a b q : List (Int × Int)} (ha : Lv.levelOk a = true) (hb : Lv.levelOk b = true) (h : succR a 1 = some q) : Dc.leR q b = Dc.lessR a b := by
  have hq := fun env => Dc.ev_succ (env := env) (n := 1) h ha
  rw [Bool.eq_iff_iff, Dc.le_sem (hq []).1 hb, Dc.less_sem ha hb]
  constructor
  · intro h1 env h5 hp
    have := h1 env h5 hp
    rw [(hq env).2] at this
    exact this
  · intro h1 env h5 hp
    rw [(hq env).2]
    exact h1 env h5 hp

set_option maxRecDepth 100000 in
set_option maxHeartbeats 16000000 in
theorem fnOrder_any (w : World) (B : Nat) (A : Option Addr) (n c : Nat) (T : TypeId) (pv : Value) (h0 : 0 < B) (hB : B ≤ w.heap.size)
    (hb : BytR w B A n) (hnc : n ≤ c) (hE : ErrAt w T pv) :
    Calls Tryd.prog 4 #[.slice A n c] w fun e w' => e = .returned (.bool true) ∧ Below w.heap.size w w' := by
  by_cases hbig : 1048576 < (n : Int)
  · go_enter Tryd.func4, Tryd.ntmps4
    go_wp2_with fail
    refine (big_any w A n c).mono ?_
    rintro e w' ⟨rfl, rfl⟩
    rw [decide_eq_true (by omega)]
    go_wp2
    go_ret
    exact ⟨rfl, Below.refl _ _⟩
  · have hn : n ≤ 1048576 := by omega
    go_enter Tryd.func4, Tryd.ntmps4
    go_wp2_with fail
    refine (big_any w A n c).mono ?_
    rintro e w' ⟨rfl, rfl⟩
    rw [decide_eq_false (by omega)]
    have HB0 : Hid (Below w.heap.size w w) := Below.refl _ _
    go_wp2_with fail
    refine (drawLess_any w B A n c hB hb hn).mono ?_
    rintro e w1 ⟨⟨Aa, na, ca, la, Ab, nb, cb, lb, rfl, hna, hnb, hoa, hob⟩, hb1⟩
    have HB1 := Lib.hid hb1
    have Ra1 := Lib.hid hoa
    have Rb1 := Lib.hid hob
    have hs1 := hb1.size
    clear hoa hob
    go_wp2_with fail
    refine (rest5_any w1 B A n c (hb.below (hb1.mono hB)) hn hnc).mono ?_
    rintro e w' ⟨A', n', c', rfl, hbr, hn', rfl⟩
    clear hb1
    go_wp2_with fail
    refine (drawEq_any w1 B A' n' c' (by omega) hbr hn').mono ?_
    rintro e w2 ⟨⟨Ad, nd, cd, ld, Ac, nc, cc, lc, rfl, hnd, hncc, hod, hoc⟩, hb2⟩
    have HB2 := Lib.hid (HB1.out.trans (hb2.mono HB1.out.size))
    have Ra2 := Lib.hid (own_below' Ra1.out hb2)
    have Rb2 := Lib.hid (own_below' Rb1.out hb2)
    have Rc2 := Lib.hid (own_base (base' := w.heap.size) hoc hs1)
    clear hb2 Ra1 Rb1 HB1
    clear hod hoc hbr hn'
    have HAA := fun h => Lib.hid (Dc.le_refl (a := la) h)
    have HLL := fun h => Lib.hid (Dc.less_refl (a := la) h)
    cases oka : Lv.levelOk la with
    | false =>
      have OA := Lib.hid oka
      clear oka HAA HLL
      go_wp2_with fail
      refine (specOk_any w2 w2.heap.size Aa na ca la (Nat.le_refl _) (OwnT.reads Ra2.out) (by omega)).mono ?_
      rintro e w3 ⟨rfl, hb⟩
      have HB3 := Lib.hid (HB2.out.trans (hb.mono HB2.out.size))
      have Ra3 := Lib.hid (own_below' Ra2.out hb)
      have Rb3 := Lib.hid (own_below' Rb2.out hb)
      have Rc3 := Lib.hid (own_below' Rc2.out hb)
      clear hb Ra2 Rb2 Rc2 HB2
      rw [OA.out]
      go_wp2_with fail
      refine (levelOk_any w3 w3.heap.size Aa na ca la T pv (Nat.lt_of_lt_of_le h0 (Nat.le_trans hB HB3.out.size)) (Nat.le_refl _) (OwnT.reads Ra3.out) (by omega) (hE.below (HB3.out.mono hB) h0)).mono ?_
      rintro e w4 ⟨rfl, hb⟩
      have HB4 := Lib.hid (HB3.out.trans (hb.mono HB3.out.size))
      have Ra4 := Lib.hid (own_below' Ra3.out hb)
      have Rb4 := Lib.hid (own_below' Rb3.out hb)
      have Rc4 := Lib.hid (own_below' Rc3.out hb)
      clear hb Ra3 Rb3 Rc3 HB3
      rw [OA.out]
      go_wp2_with fail
      refine (specOk_any w4 w4.heap.size Aa na ca la (Nat.le_refl _) (OwnT.reads Ra4.out) (by omega)).mono ?_
      rintro e w5 ⟨rfl, hb⟩
      have HB5 := Lib.hid (HB4.out.trans (hb.mono HB4.out.size))
      have Ra5 := Lib.hid (own_below' Ra4.out hb)
      have Rb5 := Lib.hid (own_below' Rb4.out hb)
      have Rc5 := Lib.hid (own_below' Rc4.out hb)
      clear hb Ra4 Rb4 Rc4 HB4
      rw [OA.out]
      go_wp2
      go_ret
      exact ⟨rfl, HB5.out⟩
    | true =>
      have OA := Lib.hid oka
      have HA2 := HAA oka
      have HL2 := HLL oka
      clear oka HAA HLL
      cases okb : Lv.levelOk lb with
      | false =>
        have OB := Lib.hid okb
        clear okb
        go_wp2_with fail
        refine (specOk_any w2 w2.heap.size Aa na ca la (Nat.le_refl _) (OwnT.reads Ra2.out) (by omega)).mono ?_
        rintro e w3 ⟨rfl, hb⟩
        have HB3 := Lib.hid (HB2.out.trans (hb.mono HB2.out.size))
        have Ra3 := Lib.hid (own_below' Ra2.out hb)
        have Rb3 := Lib.hid (own_below' Rb2.out hb)
        have Rc3 := Lib.hid (own_below' Rc2.out hb)
        clear hb Ra2 Rb2 Rc2 HB2
        rw [OA.out]
        go_wp2_with fail
        refine (specOk_any w3 w3.heap.size Ab nb cb lb (Nat.le_refl _) (OwnT.reads Rb3.out) (by omega)).mono ?_
        rintro e w4 ⟨rfl, hb⟩
        have HB4 := Lib.hid (HB3.out.trans (hb.mono HB3.out.size))
        have Ra4 := Lib.hid (own_below' Ra3.out hb)
        have Rb4 := Lib.hid (own_below' Rb3.out hb)
        have Rc4 := Lib.hid (own_below' Rc3.out hb)
        clear hb Ra3 Rb3 Rc3 HB3
        rw [OB.out]
        go_wp2_with fail
        refine (levelOk_any w4 w4.heap.size Aa na ca la T pv (Nat.lt_of_lt_of_le h0 (Nat.le_trans hB HB4.out.size)) (Nat.le_refl _) (OwnT.reads Ra4.out) (by omega) (hE.below (HB4.out.mono hB) h0)).mono ?_
        rintro e w5 ⟨rfl, hb⟩
        have HB5 := Lib.hid (HB4.out.trans (hb.mono HB4.out.size))
        have Ra5 := Lib.hid (own_below' Ra4.out hb)
        have Rb5 := Lib.hid (own_below' Rb4.out hb)
        have Rc5 := Lib.hid (own_below' Rc4.out hb)
        clear hb Ra4 Rb4 Rc4 HB4
        rw [OA.out]
        go_wp2_with fail
        refine (specOk_any w5 w5.heap.size Aa na ca la (Nat.le_refl _) (OwnT.reads Ra5.out) (by omega)).mono ?_
        rintro e w6 ⟨rfl, hb⟩
        have HB6 := Lib.hid (HB5.out.trans (hb.mono HB5.out.size))
        have Ra6 := Lib.hid (own_below' Ra5.out hb)
        have Rb6 := Lib.hid (own_below' Rb5.out hb)
        have Rc6 := Lib.hid (own_below' Rc5.out hb)
        clear hb Ra5 Rb5 Rc5 HB5
        rw [OA.out]
        go_wp2
        go_ret
        exact ⟨rfl, HB6.out⟩
      | true =>
        have OB := Lib.hid okb
        clear okb
        cases okc : Lv.levelOk lc with
        | false =>
          have OC := Lib.hid okc
          clear okc
          go_wp2_with fail
          refine (specOk_any w2 w2.heap.size Aa na ca la (Nat.le_refl _) (OwnT.reads Ra2.out) (by omega)).mono ?_
          rintro e w3 ⟨rfl, hb⟩
          have HB3 := Lib.hid (HB2.out.trans (hb.mono HB2.out.size))
          have Ra3 := Lib.hid (own_below' Ra2.out hb)
          have Rb3 := Lib.hid (own_below' Rb2.out hb)
          have Rc3 := Lib.hid (own_below' Rc2.out hb)
          clear hb Ra2 Rb2 Rc2 HB2
          rw [OA.out]
          go_wp2_with fail
          refine (specOk_any w3 w3.heap.size Ab nb cb lb (Nat.le_refl _) (OwnT.reads Rb3.out) (by omega)).mono ?_
          rintro e w4 ⟨rfl, hb⟩
          have HB4 := Lib.hid (HB3.out.trans (hb.mono HB3.out.size))
          have Ra4 := Lib.hid (own_below' Ra3.out hb)
          have Rb4 := Lib.hid (own_below' Rb3.out hb)
          have Rc4 := Lib.hid (own_below' Rc3.out hb)
          clear hb Ra3 Rb3 Rc3 HB3
          rw [OB.out]
          go_wp2_with fail
          refine (specOk_any w4 w4.heap.size Ac nc cc lc (Nat.le_refl _) (OwnT.reads Rc4.out) (by omega)).mono ?_
          rintro e w5 ⟨rfl, hb⟩
          have HB5 := Lib.hid (HB4.out.trans (hb.mono HB4.out.size))
          have Ra5 := Lib.hid (own_below' Ra4.out hb)
          have Rb5 := Lib.hid (own_below' Rb4.out hb)
          have Rc5 := Lib.hid (own_below' Rc4.out hb)
          clear hb Ra4 Rb4 Rc4 HB4
          rw [OC.out]
          go_wp2_with fail
          refine (levelOk_any w5 w5.heap.size Aa na ca la T pv (Nat.lt_of_lt_of_le h0 (Nat.le_trans hB HB5.out.size)) (Nat.le_refl _) (OwnT.reads Ra5.out) (by omega) (hE.below (HB5.out.mono hB) h0)).mono ?_
          rintro e w6 ⟨rfl, hb⟩
          have HB6 := Lib.hid (HB5.out.trans (hb.mono HB5.out.size))
          have Ra6 := Lib.hid (own_below' Ra5.out hb)
          have Rb6 := Lib.hid (own_below' Rb5.out hb)
          have Rc6 := Lib.hid (own_below' Rc5.out hb)
          clear hb Ra5 Rb5 Rc5 HB5
          rw [OA.out]
          go_wp2_with fail
          refine (specOk_any w6 w6.heap.size Aa na ca la (Nat.le_refl _) (OwnT.reads Ra6.out) (by omega)).mono ?_
          rintro e w7 ⟨rfl, hb⟩
          have HB7 := Lib.hid (HB6.out.trans (hb.mono HB6.out.size))
          have Ra7 := Lib.hid (own_below' Ra6.out hb)
          have Rb7 := Lib.hid (own_below' Rb6.out hb)
          have Rc7 := Lib.hid (own_below' Rc6.out hb)
          clear hb Ra6 Rb6 Rc6 HB6
          rw [OA.out]
          go_wp2
          go_ret
          exact ⟨rfl, HB7.out⟩
        | true =>
          have OC := Lib.hid okc
          clear okc
          go_wp2_with fail
          refine (specOk_any w2 w2.heap.size Aa na ca la (Nat.le_refl _) (OwnT.reads Ra2.out) (by omega)).mono ?_
          rintro e w3 ⟨rfl, hb⟩
          have HB3 := Lib.hid (HB2.out.trans (hb.mono HB2.out.size))
          have Ra3 := Lib.hid (own_below' Ra2.out hb)
          have Rb3 := Lib.hid (own_below' Rb2.out hb)
          have Rc3 := Lib.hid (own_below' Rc2.out hb)
          clear hb Ra2 Rb2 Rc2 HB2
          rw [OA.out]
          go_wp2_with fail
          refine (specOk_any w3 w3.heap.size Ab nb cb lb (Nat.le_refl _) (OwnT.reads Rb3.out) (by omega)).mono ?_
          rintro e w4 ⟨rfl, hb⟩
          have HB4 := Lib.hid (HB3.out.trans (hb.mono HB3.out.size))
          have Ra4 := Lib.hid (own_below' Ra3.out hb)
          have Rb4 := Lib.hid (own_below' Rb3.out hb)
          have Rc4 := Lib.hid (own_below' Rc3.out hb)
          clear hb Ra3 Rb3 Rc3 HB3
          rw [OB.out]
          go_wp2_with fail
          refine (specOk_any w4 w4.heap.size Ac nc cc lc (Nat.le_refl _) (OwnT.reads Rc4.out) (by omega)).mono ?_
          rintro e w5 ⟨rfl, hb⟩
          have HB5 := Lib.hid (HB4.out.trans (hb.mono HB4.out.size))
          have Ra5 := Lib.hid (own_below' Ra4.out hb)
          have Rb5 := Lib.hid (own_below' Rb4.out hb)
          have Rc5 := Lib.hid (own_below' Rc4.out hb)
          clear hb Ra4 Rb4 Rc4 HB4
          rw [OC.out]
          cases hab : Dc.leR la lb with
          | true =>
            have AB := Lib.hid hab
            have EQ : Hid (Dc.eqR la lb = Dc.leR lb la) := by show _ = _; unfold Dc.eqR; rw [hab]; rfl
            clear hab
            go_wp2_with fail
            refine (implLevelLe_any w5 w5.heap.size Aa na ca la Ab nb cb lb T pv (Nat.lt_of_lt_of_le h0 (Nat.le_trans hB HB5.out.size)) (Nat.le_refl _) (OwnT.reads Ra5.out) (by omega) (OwnT.reads Rb5.out) (by omega) (hE.below (HB5.out.mono hB) h0)).mono ?_
            rintro e w6 ⟨rfl, hb⟩
            have HB6 := Lib.hid (HB5.out.trans (hb.mono HB5.out.size))
            have Ra6 := Lib.hid (own_below' Ra5.out hb)
            have Rb6 := Lib.hid (own_below' Rb5.out hb)
            have Rc6 := Lib.hid (own_below' Rc5.out hb)
            clear hb Ra5 Rb5 Rc5 HB5
            rw [AB.out]
            cases hbc : Dc.leR lb lc with
            | true =>
              have BC := Lib.hid hbc
              have AC := Lib.hid (Dc.le_trans AB.out hbc)
              clear hbc
              go_wp2_with fail
              refine (implLevelLe_any w6 w6.heap.size Ab nb cb lb Ac nc cc lc T pv (Nat.lt_of_lt_of_le h0 (Nat.le_trans hB HB6.out.size)) (Nat.le_refl _) (OwnT.reads Rb6.out) (by omega) (OwnT.reads Rc6.out) (by omega) (hE.below (HB6.out.mono hB) h0)).mono ?_
              rintro e w7 ⟨rfl, hb⟩
              have HB7 := Lib.hid (HB6.out.trans (hb.mono HB6.out.size))
              have Ra7 := Lib.hid (own_below' Ra6.out hb)
              have Rb7 := Lib.hid (own_below' Rb6.out hb)
              have Rc7 := Lib.hid (own_below' Rc6.out hb)
              clear hb Ra6 Rb6 Rc6 HB6
              rw [BC.out]
              go_wp2_with fail
              refine (implLevelLe_any w7 w7.heap.size Aa na ca la Ac nc cc lc T pv (Nat.lt_of_lt_of_le h0 (Nat.le_trans hB HB7.out.size)) (Nat.le_refl _) (OwnT.reads Ra7.out) (by omega) (OwnT.reads Rc7.out) (by omega) (hE.below (HB7.out.mono hB) h0)).mono ?_
              rintro e w8 ⟨rfl, hb⟩
              have HB8 := Lib.hid (HB7.out.trans (hb.mono HB7.out.size))
              have Ra8 := Lib.hid (own_below' Ra7.out hb)
              have Rb8 := Lib.hid (own_below' Rb7.out hb)
              have Rc8 := Lib.hid (own_below' Rc7.out hb)
              clear hb Ra7 Rb7 Rc7 HB7
              rw [AC.out]
              go_wp2_with fail
              refine (implLevelLe_any w8 w8.heap.size Aa na ca la Aa na ca la T pv (Nat.lt_of_lt_of_le h0 (Nat.le_trans hB HB8.out.size)) (Nat.le_refl _) (OwnT.reads Ra8.out) (by omega) (OwnT.reads Ra8.out) (by omega) (hE.below (HB8.out.mono hB) h0)).mono ?_
              rintro e w9 ⟨rfl, hb⟩
              have HB9 := Lib.hid (HB8.out.trans (hb.mono HB8.out.size))
              have Ra9 := Lib.hid (own_below' Ra8.out hb)
              have Rb9 := Lib.hid (own_below' Rb8.out hb)
              have Rc9 := Lib.hid (own_below' Rc8.out hb)
              clear hb Ra8 Rb8 Rc8 HB8
              rw [HA2.out]
              go_wp2_with fail
              refine (implLevelLess_any w9 w9.heap.size Aa na ca la Aa na ca la T pv (Nat.lt_of_lt_of_le h0 (Nat.le_trans hB HB9.out.size)) (Nat.le_refl _) (OwnT.reads Ra9.out) (by omega) (OwnT.reads Ra9.out) (by omega) (hE.below (HB9.out.mono hB) h0)).mono ?_
              rintro e w10 ⟨rfl, hb⟩
              have HB10 := Lib.hid (HB9.out.trans (hb.mono HB9.out.size))
              have Ra10 := Lib.hid (own_below' Ra9.out hb)
              have Rb10 := Lib.hid (own_below' Rb9.out hb)
              have Rc10 := Lib.hid (own_below' Rc9.out hb)
              clear hb Ra9 Rb9 Rc9 HB9
              rw [HL2.out]
              cases hls : Dc.lessR la lb with
              | true =>
                have LS := Lib.hid hls
                clear hls
                go_wp2_with fail
                refine (implLevelLess_any w10 w10.heap.size Aa na ca la Ab nb cb lb T pv (Nat.lt_of_lt_of_le h0 (Nat.le_trans hB HB10.out.size)) (Nat.le_refl _) (OwnT.reads Ra10.out) (by omega) (OwnT.reads Rb10.out) (by omega) (hE.below (HB10.out.mono hB) h0)).mono ?_
                rintro e w11 ⟨rfl, hb⟩
                have HB11 := Lib.hid (HB10.out.trans (hb.mono HB10.out.size))
                have Ra11 := Lib.hid (own_below' Ra10.out hb)
                have Rb11 := Lib.hid (own_below' Rb10.out hb)
                have Rc11 := Lib.hid (own_below' Rc10.out hb)
                clear hb Ra10 Rb10 Rc10 HB10
                rw [LS.out]
                cases hsu : succR la 1 with
                | none =>
                  have HSU := Lib.hid hsu
                  clear hsu
                  go_wp2_with fail
                  refine (implSucc_any w11 w11.heap.size Aa na ca la 1 T pv (Nat.lt_of_lt_of_le h0 (Nat.le_trans hB HB11.out.size)) (Nat.le_refl _) (OwnT.reads Ra11.out) (by omega) (hE.below (HB11.out.mono hB) h0)).mono ?_
                  rintro e w12 ⟨A12, c12, rfl, ho, hb⟩
                  have HB12 := Lib.hid (HB11.out.trans (hb.mono HB11.out.size))
                  have Ra12 := Lib.hid (own_below' Ra11.out hb)
                  have Rb12 := Lib.hid (own_below' Rb11.out hb)
                  have Rc12 := Lib.hid (own_below' Rc11.out hb)
                  rw [HSU.out] at ho ⊢
                  simp only [Option.getD_none, Option.isSome_none, List.length_nil]
                  clear hb Ra11 Rb11 Rc11 HB11
                  clear ho
                  go_wp2_with fail
                  refine (specLevelLe_any w12 w12.heap.size Aa na ca la Ab nb cb lb (Nat.le_refl _) (OwnT.reads Ra12.out) (by omega) (OwnT.reads Rb12.out) (by omega)).mono ?_
                  rintro e w13 ⟨rfl, hb⟩
                  have HB13 := Lib.hid (HB12.out.trans (hb.mono HB12.out.size))
                  have Ra13 := Lib.hid (own_below' Ra12.out hb)
                  have Rb13 := Lib.hid (own_below' Rb12.out hb)
                  have Rc13 := Lib.hid (own_below' Rc12.out hb)
                  clear hb Ra12 Rb12 Rc12 HB12
                  rw [AB.out]
                  go_wp2_with fail
                  refine (implLevelEq_any w13 w13.heap.size Aa na ca la Ab nb cb lb T pv (Nat.lt_of_lt_of_le h0 (Nat.le_trans hB HB13.out.size)) (Nat.le_refl _) (OwnT.reads Ra13.out) (by omega) (OwnT.reads Rb13.out) (by omega) (hE.below (HB13.out.mono hB) h0)).mono ?_
                  rintro e w14 ⟨rfl, hb⟩
                  have HB14 := Lib.hid (HB13.out.trans (hb.mono HB13.out.size))
                  have Ra14 := Lib.hid (own_below' Ra13.out hb)
                  have Rb14 := Lib.hid (own_below' Rb13.out hb)
                  have Rc14 := Lib.hid (own_below' Rc13.out hb)
                  clear hb Ra13 Rb13 Rc13 HB13
                  rw [EQ.out]
                  go_wp2_with fail
                  refine (implLevelLe_any w14 w14.heap.size Ab nb cb lb Aa na ca la T pv (Nat.lt_of_lt_of_le h0 (Nat.le_trans hB HB14.out.size)) (Nat.le_refl _) (OwnT.reads Rb14.out) (by omega) (OwnT.reads Ra14.out) (by omega) (hE.below (HB14.out.mono hB) h0)).mono ?_
                  rintro e w15 ⟨rfl, hb⟩
                  have HB15 := Lib.hid (HB14.out.trans (hb.mono HB14.out.size))
                  have Ra15 := Lib.hid (own_below' Ra14.out hb)
                  have Rb15 := Lib.hid (own_below' Rb14.out hb)
                  have Rc15 := Lib.hid (own_below' Rc14.out hb)
                  clear hb Ra14 Rb14 Rc14 HB14
                  have hvv : (Dc.leR lb la == Dc.leR lb la) = true := by simp
                  generalize Dc.leR lb la = vv at hvv ⊢
                  go_wp2
                  go_ret
                  exact ⟨rfl, HB15.out⟩
                | some qu =>
                  have HSU := Lib.hid hsu
                  have HLQ := Lib.hid (Dc.less_succ OA.out OB.out hsu)
                  have hlen := succR_len25 la 1
                  rw [hsu] at hlen
                  simp only [Option.getD_some] at hlen
                  obtain ⟨nu, hnu⟩ : ∃ nu, qu.length = nu := ⟨_, rfl⟩
                  rw [hnu] at hlen
                  have Nu := Lib.hid hnu
                  clear hnu
                  clear hsu
                  go_wp2_with fail
                  refine (implSucc_any w11 w11.heap.size Aa na ca la 1 T pv (Nat.lt_of_lt_of_le h0 (Nat.le_trans hB HB11.out.size)) (Nat.le_refl _) (OwnT.reads Ra11.out) (by omega) (hE.below (HB11.out.mono hB) h0)).mono ?_
                  rintro e w12 ⟨A12, c12, rfl, ho, hb⟩
                  have HB12 := Lib.hid (HB11.out.trans (hb.mono HB11.out.size))
                  have Ra12 := Lib.hid (own_below' Ra11.out hb)
                  have Rb12 := Lib.hid (own_below' Rb11.out hb)
                  have Rc12 := Lib.hid (own_below' Rc11.out hb)
                  rw [HSU.out] at ho ⊢
                  simp only [Option.getD_some, Option.isSome_some] at ho ⊢
                  have hu := 0
                  rw [Nu.out] at ho ⊢
                  have Ru12 := Lib.hid (own_base (base' := w.heap.size) ho HB11.out.size)
                  clear hb Ra11 Rb11 Rc11 HB11
                  clear ho hu
                  go_wp2_with fail
                  refine (specLevelLe_any w12 w12.heap.size Aa na ca la Ab nb cb lb (Nat.le_refl _) (OwnT.reads Ra12.out) (by omega) (OwnT.reads Rb12.out) (by omega)).mono ?_
                  rintro e w13 ⟨rfl, hb⟩
                  have HB13 := Lib.hid (HB12.out.trans (hb.mono HB12.out.size))
                  have Ra13 := Lib.hid (own_below' Ra12.out hb)
                  have Rb13 := Lib.hid (own_below' Rb12.out hb)
                  have Rc13 := Lib.hid (own_below' Rc12.out hb)
                  have Ru13 := Lib.hid (own_below' Ru12.out hb)
                  clear hb Ra12 Rb12 Rc12 Ru12 HB12
                  rw [AB.out]
                  go_wp2_with fail
                  refine (implLevelLess_any w13 w13.heap.size Aa na ca la Ab nb cb lb T pv (Nat.lt_of_lt_of_le h0 (Nat.le_trans hB HB13.out.size)) (Nat.le_refl _) (OwnT.reads Ra13.out) (by omega) (OwnT.reads Rb13.out) (by omega) (hE.below (HB13.out.mono hB) h0)).mono ?_
                  rintro e w14 ⟨rfl, hb⟩
                  have HB14 := Lib.hid (HB13.out.trans (hb.mono HB13.out.size))
                  have Ra14 := Lib.hid (own_below' Ra13.out hb)
                  have Rb14 := Lib.hid (own_below' Rb13.out hb)
                  have Rc14 := Lib.hid (own_below' Rc13.out hb)
                  have Ru14 := Lib.hid (own_below' Ru13.out hb)
                  clear hb Ra13 Rb13 Rc13 Ru13 HB13
                  rw [LS.out]
                  go_wp2_with fail
                  refine (implLevelLe_any w14 w14.heap.size A12 nu c12 qu Ab nb cb lb T pv (Nat.lt_of_lt_of_le h0 (Nat.le_trans hB HB14.out.size)) (Nat.le_refl _) (OwnT.reads Ru14.out) (by omega) (OwnT.reads Rb14.out) (by omega) (hE.below (HB14.out.mono hB) h0)).mono ?_
                  rintro e w15 ⟨rfl, hb⟩
                  have HB15 := Lib.hid (HB14.out.trans (hb.mono HB14.out.size))
                  have Ra15 := Lib.hid (own_below' Ra14.out hb)
                  have Rb15 := Lib.hid (own_below' Rb14.out hb)
                  have Rc15 := Lib.hid (own_below' Rc14.out hb)
                  have Ru15 := Lib.hid (own_below' Ru14.out hb)
                  clear hb Ra14 Rb14 Rc14 Ru14 HB14
                  rw [HLQ.out, LS.out]
                  go_wp2_with fail
                  refine (implLevelEq_any w15 w15.heap.size Aa na ca la Ab nb cb lb T pv (Nat.lt_of_lt_of_le h0 (Nat.le_trans hB HB15.out.size)) (Nat.le_refl _) (OwnT.reads Ra15.out) (by omega) (OwnT.reads Rb15.out) (by omega) (hE.below (HB15.out.mono hB) h0)).mono ?_
                  rintro e w16 ⟨rfl, hb⟩
                  have HB16 := Lib.hid (HB15.out.trans (hb.mono HB15.out.size))
                  have Ra16 := Lib.hid (own_below' Ra15.out hb)
                  have Rb16 := Lib.hid (own_below' Rb15.out hb)
                  have Rc16 := Lib.hid (own_below' Rc15.out hb)
                  have Ru16 := Lib.hid (own_below' Ru15.out hb)
                  clear hb Ra15 Rb15 Rc15 Ru15 HB15
                  rw [EQ.out]
                  go_wp2_with fail
                  refine (implLevelLe_any w16 w16.heap.size Ab nb cb lb Aa na ca la T pv (Nat.lt_of_lt_of_le h0 (Nat.le_trans hB HB16.out.size)) (Nat.le_refl _) (OwnT.reads Rb16.out) (by omega) (OwnT.reads Ra16.out) (by omega) (hE.below (HB16.out.mono hB) h0)).mono ?_
                  rintro e w17 ⟨rfl, hb⟩
                  have HB17 := Lib.hid (HB16.out.trans (hb.mono HB16.out.size))
                  have Ra17 := Lib.hid (own_below' Ra16.out hb)
                  have Rb17 := Lib.hid (own_below' Rb16.out hb)
                  have Rc17 := Lib.hid (own_below' Rc16.out hb)
                  have Ru17 := Lib.hid (own_below' Ru16.out hb)
                  clear hb Ra16 Rb16 Rc16 Ru16 HB16
                  have hvv : (Dc.leR lb la == Dc.leR lb la) = true := by simp
                  generalize Dc.leR lb la = vv at hvv ⊢
                  go_wp2
                  go_ret
                  exact ⟨rfl, HB17.out⟩
              | false =>
                have LS := Lib.hid hls
                clear hls
                go_wp2_with fail
                refine (implLevelLess_any w10 w10.heap.size Aa na ca la Ab nb cb lb T pv (Nat.lt_of_lt_of_le h0 (Nat.le_trans hB HB10.out.size)) (Nat.le_refl _) (OwnT.reads Ra10.out) (by omega) (OwnT.reads Rb10.out) (by omega) (hE.below (HB10.out.mono hB) h0)).mono ?_
                rintro e w11 ⟨rfl, hb⟩
                have HB11 := Lib.hid (HB10.out.trans (hb.mono HB10.out.size))
                have Ra11 := Lib.hid (own_below' Ra10.out hb)
                have Rb11 := Lib.hid (own_below' Rb10.out hb)
                have Rc11 := Lib.hid (own_below' Rc10.out hb)
                clear hb Ra10 Rb10 Rc10 HB10
                rw [LS.out]
                cases hsu : succR la 1 with
                | none =>
                  have HSU := Lib.hid hsu
                  clear hsu
                  go_wp2_with fail
                  refine (implSucc_any w11 w11.heap.size Aa na ca la 1 T pv (Nat.lt_of_lt_of_le h0 (Nat.le_trans hB HB11.out.size)) (Nat.le_refl _) (OwnT.reads Ra11.out) (by omega) (hE.below (HB11.out.mono hB) h0)).mono ?_
                  rintro e w12 ⟨A12, c12, rfl, ho, hb⟩
                  have HB12 := Lib.hid (HB11.out.trans (hb.mono HB11.out.size))
                  have Ra12 := Lib.hid (own_below' Ra11.out hb)
                  have Rb12 := Lib.hid (own_below' Rb11.out hb)
                  have Rc12 := Lib.hid (own_below' Rc11.out hb)
                  rw [HSU.out] at ho ⊢
                  simp only [Option.getD_none, Option.isSome_none, List.length_nil]
                  clear hb Ra11 Rb11 Rc11 HB11
                  clear ho
                  go_wp2_with fail
                  refine (specLevelLe_any w12 w12.heap.size Aa na ca la Ab nb cb lb (Nat.le_refl _) (OwnT.reads Ra12.out) (by omega) (OwnT.reads Rb12.out) (by omega)).mono ?_
                  rintro e w13 ⟨rfl, hb⟩
                  have HB13 := Lib.hid (HB12.out.trans (hb.mono HB12.out.size))
                  have Ra13 := Lib.hid (own_below' Ra12.out hb)
                  have Rb13 := Lib.hid (own_below' Rb12.out hb)
                  have Rc13 := Lib.hid (own_below' Rc12.out hb)
                  clear hb Ra12 Rb12 Rc12 HB12
                  rw [AB.out]
                  go_wp2_with fail
                  refine (implLevelEq_any w13 w13.heap.size Aa na ca la Ab nb cb lb T pv (Nat.lt_of_lt_of_le h0 (Nat.le_trans hB HB13.out.size)) (Nat.le_refl _) (OwnT.reads Ra13.out) (by omega) (OwnT.reads Rb13.out) (by omega) (hE.below (HB13.out.mono hB) h0)).mono ?_
                  rintro e w14 ⟨rfl, hb⟩
                  have HB14 := Lib.hid (HB13.out.trans (hb.mono HB13.out.size))
                  have Ra14 := Lib.hid (own_below' Ra13.out hb)
                  have Rb14 := Lib.hid (own_below' Rb13.out hb)
                  have Rc14 := Lib.hid (own_below' Rc13.out hb)
                  clear hb Ra13 Rb13 Rc13 HB13
                  rw [EQ.out]
                  go_wp2_with fail
                  refine (implLevelLe_any w14 w14.heap.size Ab nb cb lb Aa na ca la T pv (Nat.lt_of_lt_of_le h0 (Nat.le_trans hB HB14.out.size)) (Nat.le_refl _) (OwnT.reads Rb14.out) (by omega) (OwnT.reads Ra14.out) (by omega) (hE.below (HB14.out.mono hB) h0)).mono ?_
                  rintro e w15 ⟨rfl, hb⟩
                  have HB15 := Lib.hid (HB14.out.trans (hb.mono HB14.out.size))
                  have Ra15 := Lib.hid (own_below' Ra14.out hb)
                  have Rb15 := Lib.hid (own_below' Rb14.out hb)
                  have Rc15 := Lib.hid (own_below' Rc14.out hb)
                  clear hb Ra14 Rb14 Rc14 HB14
                  have hvv : (Dc.leR lb la == Dc.leR lb la) = true := by simp
                  generalize Dc.leR lb la = vv at hvv ⊢
                  go_wp2
                  go_ret
                  exact ⟨rfl, HB15.out⟩
                | some qu =>
                  have HSU := Lib.hid hsu
                  have HLQ := Lib.hid (Dc.less_succ OA.out OB.out hsu)
                  have hlen := succR_len25 la 1
                  rw [hsu] at hlen
                  simp only [Option.getD_some] at hlen
                  obtain ⟨nu, hnu⟩ : ∃ nu, qu.length = nu := ⟨_, rfl⟩
                  rw [hnu] at hlen
                  have Nu := Lib.hid hnu
                  clear hnu
                  clear hsu
                  go_wp2_with fail
                  refine (implSucc_any w11 w11.heap.size Aa na ca la 1 T pv (Nat.lt_of_lt_of_le h0 (Nat.le_trans hB HB11.out.size)) (Nat.le_refl _) (OwnT.reads Ra11.out) (by omega) (hE.below (HB11.out.mono hB) h0)).mono ?_
                  rintro e w12 ⟨A12, c12, rfl, ho, hb⟩
                  have HB12 := Lib.hid (HB11.out.trans (hb.mono HB11.out.size))
                  have Ra12 := Lib.hid (own_below' Ra11.out hb)
                  have Rb12 := Lib.hid (own_below' Rb11.out hb)
                  have Rc12 := Lib.hid (own_below' Rc11.out hb)
                  rw [HSU.out] at ho ⊢
                  simp only [Option.getD_some, Option.isSome_some] at ho ⊢
                  have hu := 0
                  rw [Nu.out] at ho ⊢
                  have Ru12 := Lib.hid (own_base (base' := w.heap.size) ho HB11.out.size)
                  clear hb Ra11 Rb11 Rc11 HB11
                  clear ho hu
                  go_wp2_with fail
                  refine (specLevelLe_any w12 w12.heap.size Aa na ca la Ab nb cb lb (Nat.le_refl _) (OwnT.reads Ra12.out) (by omega) (OwnT.reads Rb12.out) (by omega)).mono ?_
                  rintro e w13 ⟨rfl, hb⟩
                  have HB13 := Lib.hid (HB12.out.trans (hb.mono HB12.out.size))
                  have Ra13 := Lib.hid (own_below' Ra12.out hb)
                  have Rb13 := Lib.hid (own_below' Rb12.out hb)
                  have Rc13 := Lib.hid (own_below' Rc12.out hb)
                  have Ru13 := Lib.hid (own_below' Ru12.out hb)
                  clear hb Ra12 Rb12 Rc12 Ru12 HB12
                  rw [AB.out]
                  go_wp2_with fail
                  refine (implLevelLess_any w13 w13.heap.size Aa na ca la Ab nb cb lb T pv (Nat.lt_of_lt_of_le h0 (Nat.le_trans hB HB13.out.size)) (Nat.le_refl _) (OwnT.reads Ra13.out) (by omega) (OwnT.reads Rb13.out) (by omega) (hE.below (HB13.out.mono hB) h0)).mono ?_
                  rintro e w14 ⟨rfl, hb⟩
                  have HB14 := Lib.hid (HB13.out.trans (hb.mono HB13.out.size))
                  have Ra14 := Lib.hid (own_below' Ra13.out hb)
                  have Rb14 := Lib.hid (own_below' Rb13.out hb)
                  have Rc14 := Lib.hid (own_below' Rc13.out hb)
                  have Ru14 := Lib.hid (own_below' Ru13.out hb)
                  clear hb Ra13 Rb13 Rc13 Ru13 HB13
                  rw [LS.out]
                  go_wp2_with fail
                  refine (implLevelLe_any w14 w14.heap.size A12 nu c12 qu Ab nb cb lb T pv (Nat.lt_of_lt_of_le h0 (Nat.le_trans hB HB14.out.size)) (Nat.le_refl _) (OwnT.reads Ru14.out) (by omega) (OwnT.reads Rb14.out) (by omega) (hE.below (HB14.out.mono hB) h0)).mono ?_
                  rintro e w15 ⟨rfl, hb⟩
                  have HB15 := Lib.hid (HB14.out.trans (hb.mono HB14.out.size))
                  have Ra15 := Lib.hid (own_below' Ra14.out hb)
                  have Rb15 := Lib.hid (own_below' Rb14.out hb)
                  have Rc15 := Lib.hid (own_below' Rc14.out hb)
                  have Ru15 := Lib.hid (own_below' Ru14.out hb)
                  clear hb Ra14 Rb14 Rc14 Ru14 HB14
                  rw [HLQ.out, LS.out]
                  go_wp2_with fail
                  refine (implLevelEq_any w15 w15.heap.size Aa na ca la Ab nb cb lb T pv (Nat.lt_of_lt_of_le h0 (Nat.le_trans hB HB15.out.size)) (Nat.le_refl _) (OwnT.reads Ra15.out) (by omega) (OwnT.reads Rb15.out) (by omega) (hE.below (HB15.out.mono hB) h0)).mono ?_
                  rintro e w16 ⟨rfl, hb⟩
                  have HB16 := Lib.hid (HB15.out.trans (hb.mono HB15.out.size))
                  have Ra16 := Lib.hid (own_below' Ra15.out hb)
                  have Rb16 := Lib.hid (own_below' Rb15.out hb)
                  have Rc16 := Lib.hid (own_below' Rc15.out hb)
                  have Ru16 := Lib.hid (own_below' Ru15.out hb)
                  clear hb Ra15 Rb15 Rc15 Ru15 HB15
                  rw [EQ.out]
                  go_wp2_with fail
                  refine (implLevelLe_any w16 w16.heap.size Ab nb cb lb Aa na ca la T pv (Nat.lt_of_lt_of_le h0 (Nat.le_trans hB HB16.out.size)) (Nat.le_refl _) (OwnT.reads Rb16.out) (by omega) (OwnT.reads Ra16.out) (by omega) (hE.below (HB16.out.mono hB) h0)).mono ?_
                  rintro e w17 ⟨rfl, hb⟩
                  have HB17 := Lib.hid (HB16.out.trans (hb.mono HB16.out.size))
                  have Ra17 := Lib.hid (own_below' Ra16.out hb)
                  have Rb17 := Lib.hid (own_below' Rb16.out hb)
                  have Rc17 := Lib.hid (own_below' Rc16.out hb)
                  have Ru17 := Lib.hid (own_below' Ru16.out hb)
                  clear hb Ra16 Rb16 Rc16 Ru16 HB16
                  have hvv : (Dc.leR lb la == Dc.leR lb la) = true := by simp
                  generalize Dc.leR lb la = vv at hvv ⊢
                  go_wp2
                  go_ret
                  exact ⟨rfl, HB17.out⟩
            | false =>
              have BC := Lib.hid hbc
              clear hbc
              go_wp2_with fail
              refine (implLevelLe_any w6 w6.heap.size Ab nb cb lb Ac nc cc lc T pv (Nat.lt_of_lt_of_le h0 (Nat.le_trans hB HB6.out.size)) (Nat.le_refl _) (OwnT.reads Rb6.out) (by omega) (OwnT.reads Rc6.out) (by omega) (hE.below (HB6.out.mono hB) h0)).mono ?_
              rintro e w7 ⟨rfl, hb⟩
              have HB7 := Lib.hid (HB6.out.trans (hb.mono HB6.out.size))
              have Ra7 := Lib.hid (own_below' Ra6.out hb)
              have Rb7 := Lib.hid (own_below' Rb6.out hb)
              have Rc7 := Lib.hid (own_below' Rc6.out hb)
              clear hb Ra6 Rb6 Rc6 HB6
              rw [BC.out]
              go_wp2_with fail
              refine (implLevelLe_any w7 w7.heap.size Aa na ca la Aa na ca la T pv (Nat.lt_of_lt_of_le h0 (Nat.le_trans hB HB7.out.size)) (Nat.le_refl _) (OwnT.reads Ra7.out) (by omega) (OwnT.reads Ra7.out) (by omega) (hE.below (HB7.out.mono hB) h0)).mono ?_
              rintro e w8 ⟨rfl, hb⟩
              have HB8 := Lib.hid (HB7.out.trans (hb.mono HB7.out.size))
              have Ra8 := Lib.hid (own_below' Ra7.out hb)
              have Rb8 := Lib.hid (own_below' Rb7.out hb)
              have Rc8 := Lib.hid (own_below' Rc7.out hb)
              clear hb Ra7 Rb7 Rc7 HB7
              rw [HA2.out]
              go_wp2_with fail
              refine (implLevelLess_any w8 w8.heap.size Aa na ca la Aa na ca la T pv (Nat.lt_of_lt_of_le h0 (Nat.le_trans hB HB8.out.size)) (Nat.le_refl _) (OwnT.reads Ra8.out) (by omega) (OwnT.reads Ra8.out) (by omega) (hE.below (HB8.out.mono hB) h0)).mono ?_
              rintro e w9 ⟨rfl, hb⟩
              have HB9 := Lib.hid (HB8.out.trans (hb.mono HB8.out.size))
              have Ra9 := Lib.hid (own_below' Ra8.out hb)
              have Rb9 := Lib.hid (own_below' Rb8.out hb)
              have Rc9 := Lib.hid (own_below' Rc8.out hb)
              clear hb Ra8 Rb8 Rc8 HB8
              rw [HL2.out]
              cases hls : Dc.lessR la lb with
              | true =>
                have LS := Lib.hid hls
                clear hls
                go_wp2_with fail
                refine (implLevelLess_any w9 w9.heap.size Aa na ca la Ab nb cb lb T pv (Nat.lt_of_lt_of_le h0 (Nat.le_trans hB HB9.out.size)) (Nat.le_refl _) (OwnT.reads Ra9.out) (by omega) (OwnT.reads Rb9.out) (by omega) (hE.below (HB9.out.mono hB) h0)).mono ?_
                rintro e w10 ⟨rfl, hb⟩
                have HB10 := Lib.hid (HB9.out.trans (hb.mono HB9.out.size))
                have Ra10 := Lib.hid (own_below' Ra9.out hb)
                have Rb10 := Lib.hid (own_below' Rb9.out hb)
                have Rc10 := Lib.hid (own_below' Rc9.out hb)
                clear hb Ra9 Rb9 Rc9 HB9
                rw [LS.out]
                cases hsu : succR la 1 with
                | none =>
                  have HSU := Lib.hid hsu
                  clear hsu
                  go_wp2_with fail
                  refine (implSucc_any w10 w10.heap.size Aa na ca la 1 T pv (Nat.lt_of_lt_of_le h0 (Nat.le_trans hB HB10.out.size)) (Nat.le_refl _) (OwnT.reads Ra10.out) (by omega) (hE.below (HB10.out.mono hB) h0)).mono ?_
                  rintro e w11 ⟨A11, c11, rfl, ho, hb⟩
                  have HB11 := Lib.hid (HB10.out.trans (hb.mono HB10.out.size))
                  have Ra11 := Lib.hid (own_below' Ra10.out hb)
                  have Rb11 := Lib.hid (own_below' Rb10.out hb)
                  have Rc11 := Lib.hid (own_below' Rc10.out hb)
                  rw [HSU.out] at ho ⊢
                  simp only [Option.getD_none, Option.isSome_none, List.length_nil]
                  clear hb Ra10 Rb10 Rc10 HB10
                  clear ho
                  go_wp2_with fail
                  refine (specLevelLe_any w11 w11.heap.size Aa na ca la Ab nb cb lb (Nat.le_refl _) (OwnT.reads Ra11.out) (by omega) (OwnT.reads Rb11.out) (by omega)).mono ?_
                  rintro e w12 ⟨rfl, hb⟩
                  have HB12 := Lib.hid (HB11.out.trans (hb.mono HB11.out.size))
                  have Ra12 := Lib.hid (own_below' Ra11.out hb)
                  have Rb12 := Lib.hid (own_below' Rb11.out hb)
                  have Rc12 := Lib.hid (own_below' Rc11.out hb)
                  clear hb Ra11 Rb11 Rc11 HB11
                  rw [AB.out]
                  go_wp2_with fail
                  refine (implLevelEq_any w12 w12.heap.size Aa na ca la Ab nb cb lb T pv (Nat.lt_of_lt_of_le h0 (Nat.le_trans hB HB12.out.size)) (Nat.le_refl _) (OwnT.reads Ra12.out) (by omega) (OwnT.reads Rb12.out) (by omega) (hE.below (HB12.out.mono hB) h0)).mono ?_
                  rintro e w13 ⟨rfl, hb⟩
                  have HB13 := Lib.hid (HB12.out.trans (hb.mono HB12.out.size))
                  have Ra13 := Lib.hid (own_below' Ra12.out hb)
                  have Rb13 := Lib.hid (own_below' Rb12.out hb)
                  have Rc13 := Lib.hid (own_below' Rc12.out hb)
                  clear hb Ra12 Rb12 Rc12 HB12
                  rw [EQ.out]
                  go_wp2_with fail
                  refine (implLevelLe_any w13 w13.heap.size Ab nb cb lb Aa na ca la T pv (Nat.lt_of_lt_of_le h0 (Nat.le_trans hB HB13.out.size)) (Nat.le_refl _) (OwnT.reads Rb13.out) (by omega) (OwnT.reads Ra13.out) (by omega) (hE.below (HB13.out.mono hB) h0)).mono ?_
                  rintro e w14 ⟨rfl, hb⟩
                  have HB14 := Lib.hid (HB13.out.trans (hb.mono HB13.out.size))
                  have Ra14 := Lib.hid (own_below' Ra13.out hb)
                  have Rb14 := Lib.hid (own_below' Rb13.out hb)
                  have Rc14 := Lib.hid (own_below' Rc13.out hb)
                  clear hb Ra13 Rb13 Rc13 HB13
                  have hvv : (Dc.leR lb la == Dc.leR lb la) = true := by simp
                  generalize Dc.leR lb la = vv at hvv ⊢
                  go_wp2
                  go_ret
                  exact ⟨rfl, HB14.out⟩
                | some qu =>
                  have HSU := Lib.hid hsu
                  have HLQ := Lib.hid (Dc.less_succ OA.out OB.out hsu)
                  have hlen := succR_len25 la 1
                  rw [hsu] at hlen
                  simp only [Option.getD_some] at hlen
                  obtain ⟨nu, hnu⟩ : ∃ nu, qu.length = nu := ⟨_, rfl⟩
                  rw [hnu] at hlen
                  have Nu := Lib.hid hnu
                  clear hnu
                  clear hsu
                  go_wp2_with fail
                  refine (implSucc_any w10 w10.heap.size Aa na ca la 1 T pv (Nat.lt_of_lt_of_le h0 (Nat.le_trans hB HB10.out.size)) (Nat.le_refl _) (OwnT.reads Ra10.out) (by omega) (hE.below (HB10.out.mono hB) h0)).mono ?_
                  rintro e w11 ⟨A11, c11, rfl, ho, hb⟩
                  have HB11 := Lib.hid (HB10.out.trans (hb.mono HB10.out.size))
                  have Ra11 := Lib.hid (own_below' Ra10.out hb)
                  have Rb11 := Lib.hid (own_below' Rb10.out hb)
                  have Rc11 := Lib.hid (own_below' Rc10.out hb)
                  rw [HSU.out] at ho ⊢
                  simp only [Option.getD_some, Option.isSome_some] at ho ⊢
                  have hu := 0
                  rw [Nu.out] at ho ⊢
                  have Ru11 := Lib.hid (own_base (base' := w.heap.size) ho HB10.out.size)
                  clear hb Ra10 Rb10 Rc10 HB10
                  clear ho hu
                  go_wp2_with fail
                  refine (specLevelLe_any w11 w11.heap.size Aa na ca la Ab nb cb lb (Nat.le_refl _) (OwnT.reads Ra11.out) (by omega) (OwnT.reads Rb11.out) (by omega)).mono ?_
                  rintro e w12 ⟨rfl, hb⟩
                  have HB12 := Lib.hid (HB11.out.trans (hb.mono HB11.out.size))
                  have Ra12 := Lib.hid (own_below' Ra11.out hb)
                  have Rb12 := Lib.hid (own_below' Rb11.out hb)
                  have Rc12 := Lib.hid (own_below' Rc11.out hb)
                  have Ru12 := Lib.hid (own_below' Ru11.out hb)
                  clear hb Ra11 Rb11 Rc11 Ru11 HB11
                  rw [AB.out]
                  go_wp2_with fail
                  refine (implLevelLess_any w12 w12.heap.size Aa na ca la Ab nb cb lb T pv (Nat.lt_of_lt_of_le h0 (Nat.le_trans hB HB12.out.size)) (Nat.le_refl _) (OwnT.reads Ra12.out) (by omega) (OwnT.reads Rb12.out) (by omega) (hE.below (HB12.out.mono hB) h0)).mono ?_
                  rintro e w13 ⟨rfl, hb⟩
                  have HB13 := Lib.hid (HB12.out.trans (hb.mono HB12.out.size))
                  have Ra13 := Lib.hid (own_below' Ra12.out hb)
                  have Rb13 := Lib.hid (own_below' Rb12.out hb)
                  have Rc13 := Lib.hid (own_below' Rc12.out hb)
                  have Ru13 := Lib.hid (own_below' Ru12.out hb)
                  clear hb Ra12 Rb12 Rc12 Ru12 HB12
                  rw [LS.out]
                  go_wp2_with fail
                  refine (implLevelLe_any w13 w13.heap.size A11 nu c11 qu Ab nb cb lb T pv (Nat.lt_of_lt_of_le h0 (Nat.le_trans hB HB13.out.size)) (Nat.le_refl _) (OwnT.reads Ru13.out) (by omega) (OwnT.reads Rb13.out) (by omega) (hE.below (HB13.out.mono hB) h0)).mono ?_
                  rintro e w14 ⟨rfl, hb⟩
                  have HB14 := Lib.hid (HB13.out.trans (hb.mono HB13.out.size))
                  have Ra14 := Lib.hid (own_below' Ra13.out hb)
                  have Rb14 := Lib.hid (own_below' Rb13.out hb)
                  have Rc14 := Lib.hid (own_below' Rc13.out hb)
                  have Ru14 := Lib.hid (own_below' Ru13.out hb)
                  clear hb Ra13 Rb13 Rc13 Ru13 HB13
                  rw [HLQ.out, LS.out]
                  go_wp2_with fail
                  refine (implLevelEq_any w14 w14.heap.size Aa na ca la Ab nb cb lb T pv (Nat.lt_of_lt_of_le h0 (Nat.le_trans hB HB14.out.size)) (Nat.le_refl _) (OwnT.reads Ra14.out) (by omega) (OwnT.reads Rb14.out) (by omega) (hE.below (HB14.out.mono hB) h0)).mono ?_
                  rintro e w15 ⟨rfl, hb⟩
                  have HB15 := Lib.hid (HB14.out.trans (hb.mono HB14.out.size))
                  have Ra15 := Lib.hid (own_below' Ra14.out hb)
                  have Rb15 := Lib.hid (own_below' Rb14.out hb)
                  have Rc15 := Lib.hid (own_below' Rc14.out hb)
                  have Ru15 := Lib.hid (own_below' Ru14.out hb)
                  clear hb Ra14 Rb14 Rc14 Ru14 HB14
                  rw [EQ.out]
                  go_wp2_with fail
                  refine (implLevelLe_any w15 w15.heap.size Ab nb cb lb Aa na ca la T pv (Nat.lt_of_lt_of_le h0 (Nat.le_trans hB HB15.out.size)) (Nat.le_refl _) (OwnT.reads Rb15.out) (by omega) (OwnT.reads Ra15.out) (by omega) (hE.below (HB15.out.mono hB) h0)).mono ?_
                  rintro e w16 ⟨rfl, hb⟩
                  have HB16 := Lib.hid (HB15.out.trans (hb.mono HB15.out.size))
                  have Ra16 := Lib.hid (own_below' Ra15.out hb)
                  have Rb16 := Lib.hid (own_below' Rb15.out hb)
                  have Rc16 := Lib.hid (own_below' Rc15.out hb)
                  have Ru16 := Lib.hid (own_below' Ru15.out hb)
                  clear hb Ra15 Rb15 Rc15 Ru15 HB15
                  have hvv : (Dc.leR lb la == Dc.leR lb la) = true := by simp
                  generalize Dc.leR lb la = vv at hvv ⊢
                  go_wp2
                  go_ret
                  exact ⟨rfl, HB16.out⟩
              | false =>
                have LS := Lib.hid hls
                clear hls
                go_wp2_with fail
                refine (implLevelLess_any w9 w9.heap.size Aa na ca la Ab nb cb lb T pv (Nat.lt_of_lt_of_le h0 (Nat.le_trans hB HB9.out.size)) (Nat.le_refl _) (OwnT.reads Ra9.out) (by omega) (OwnT.reads Rb9.out) (by omega) (hE.below (HB9.out.mono hB) h0)).mono ?_
                rintro e w10 ⟨rfl, hb⟩
                have HB10 := Lib.hid (HB9.out.trans (hb.mono HB9.out.size))
                have Ra10 := Lib.hid (own_below' Ra9.out hb)
                have Rb10 := Lib.hid (own_below' Rb9.out hb)
                have Rc10 := Lib.hid (own_below' Rc9.out hb)
                clear hb Ra9 Rb9 Rc9 HB9
                rw [LS.out]
                cases hsu : succR la 1 with
                | none =>
                  have HSU := Lib.hid hsu
                  clear hsu
                  go_wp2_with fail
                  refine (implSucc_any w10 w10.heap.size Aa na ca la 1 T pv (Nat.lt_of_lt_of_le h0 (Nat.le_trans hB HB10.out.size)) (Nat.le_refl _) (OwnT.reads Ra10.out) (by omega) (hE.below (HB10.out.mono hB) h0)).mono ?_
                  rintro e w11 ⟨A11, c11, rfl, ho, hb⟩
                  have HB11 := Lib.hid (HB10.out.trans (hb.mono HB10.out.size))
                  have Ra11 := Lib.hid (own_below' Ra10.out hb)
                  have Rb11 := Lib.hid (own_below' Rb10.out hb)
                  have Rc11 := Lib.hid (own_below' Rc10.out hb)
                  rw [HSU.out] at ho ⊢
                  simp only [Option.getD_none, Option.isSome_none, List.length_nil]
                  clear hb Ra10 Rb10 Rc10 HB10
                  clear ho
                  go_wp2_with fail
                  refine (specLevelLe_any w11 w11.heap.size Aa na ca la Ab nb cb lb (Nat.le_refl _) (OwnT.reads Ra11.out) (by omega) (OwnT.reads Rb11.out) (by omega)).mono ?_
                  rintro e w12 ⟨rfl, hb⟩
                  have HB12 := Lib.hid (HB11.out.trans (hb.mono HB11.out.size))
                  have Ra12 := Lib.hid (own_below' Ra11.out hb)
                  have Rb12 := Lib.hid (own_below' Rb11.out hb)
                  have Rc12 := Lib.hid (own_below' Rc11.out hb)
                  clear hb Ra11 Rb11 Rc11 HB11
                  rw [AB.out]
                  go_wp2_with fail
                  refine (implLevelEq_any w12 w12.heap.size Aa na ca la Ab nb cb lb T pv (Nat.lt_of_lt_of_le h0 (Nat.le_trans hB HB12.out.size)) (Nat.le_refl _) (OwnT.reads Ra12.out) (by omega) (OwnT.reads Rb12.out) (by omega) (hE.below (HB12.out.mono hB) h0)).mono ?_
                  rintro e w13 ⟨rfl, hb⟩
                  have HB13 := Lib.hid (HB12.out.trans (hb.mono HB12.out.size))
                  have Ra13 := Lib.hid (own_below' Ra12.out hb)
                  have Rb13 := Lib.hid (own_below' Rb12.out hb)
                  have Rc13 := Lib.hid (own_below' Rc12.out hb)
                  clear hb Ra12 Rb12 Rc12 HB12
                  rw [EQ.out]
                  go_wp2_with fail
                  refine (implLevelLe_any w13 w13.heap.size Ab nb cb lb Aa na ca la T pv (Nat.lt_of_lt_of_le h0 (Nat.le_trans hB HB13.out.size)) (Nat.le_refl _) (OwnT.reads Rb13.out) (by omega) (OwnT.reads Ra13.out) (by omega) (hE.below (HB13.out.mono hB) h0)).mono ?_
                  rintro e w14 ⟨rfl, hb⟩
                  have HB14 := Lib.hid (HB13.out.trans (hb.mono HB13.out.size))
                  have Ra14 := Lib.hid (own_below' Ra13.out hb)
                  have Rb14 := Lib.hid (own_below' Rb13.out hb)
                  have Rc14 := Lib.hid (own_below' Rc13.out hb)
                  clear hb Ra13 Rb13 Rc13 HB13
                  have hvv : (Dc.leR lb la == Dc.leR lb la) = true := by simp
                  generalize Dc.leR lb la = vv at hvv ⊢
                  go_wp2
                  go_ret
                  exact ⟨rfl, HB14.out⟩
                | some qu =>
                  have HSU := Lib.hid hsu
                  have HLQ := Lib.hid (Dc.less_succ OA.out OB.out hsu)
                  have hlen := succR_len25 la 1
                  rw [hsu] at hlen
                  simp only [Option.getD_some] at hlen
                  obtain ⟨nu, hnu⟩ : ∃ nu, qu.length = nu := ⟨_, rfl⟩
                  rw [hnu] at hlen
                  have Nu := Lib.hid hnu
                  clear hnu
                  clear hsu
                  go_wp2_with fail
                  refine (implSucc_any w10 w10.heap.size Aa na ca la 1 T pv (Nat.lt_of_lt_of_le h0 (Nat.le_trans hB HB10.out.size)) (Nat.le_refl _) (OwnT.reads Ra10.out) (by omega) (hE.below (HB10.out.mono hB) h0)).mono ?_
                  rintro e w11 ⟨A11, c11, rfl, ho, hb⟩
                  have HB11 := Lib.hid (HB10.out.trans (hb.mono HB10.out.size))
                  have Ra11 := Lib.hid (own_below' Ra10.out hb)
                  have Rb11 := Lib.hid (own_below' Rb10.out hb)
                  have Rc11 := Lib.hid (own_below' Rc10.out hb)
                  rw [HSU.out] at ho ⊢
                  simp only [Option.getD_some, Option.isSome_some] at ho ⊢
                  have hu := 0
                  rw [Nu.out] at ho ⊢
                  have Ru11 := Lib.hid (own_base (base' := w.heap.size) ho HB10.out.size)
                  clear hb Ra10 Rb10 Rc10 HB10
                  clear ho hu
                  go_wp2_with fail
                  refine (specLevelLe_any w11 w11.heap.size Aa na ca la Ab nb cb lb (Nat.le_refl _) (OwnT.reads Ra11.out) (by omega) (OwnT.reads Rb11.out) (by omega)).mono ?_
                  rintro e w12 ⟨rfl, hb⟩
                  have HB12 := Lib.hid (HB11.out.trans (hb.mono HB11.out.size))
                  have Ra12 := Lib.hid (own_below' Ra11.out hb)
                  have Rb12 := Lib.hid (own_below' Rb11.out hb)
                  have Rc12 := Lib.hid (own_below' Rc11.out hb)
                  have Ru12 := Lib.hid (own_below' Ru11.out hb)
                  clear hb Ra11 Rb11 Rc11 Ru11 HB11
                  rw [AB.out]
                  go_wp2_with fail
                  refine (implLevelLess_any w12 w12.heap.size Aa na ca la Ab nb cb lb T pv (Nat.lt_of_lt_of_le h0 (Nat.le_trans hB HB12.out.size)) (Nat.le_refl _) (OwnT.reads Ra12.out) (by omega) (OwnT.reads Rb12.out) (by omega) (hE.below (HB12.out.mono hB) h0)).mono ?_
                  rintro e w13 ⟨rfl, hb⟩
                  have HB13 := Lib.hid (HB12.out.trans (hb.mono HB12.out.size))
                  have Ra13 := Lib.hid (own_below' Ra12.out hb)
                  have Rb13 := Lib.hid (own_below' Rb12.out hb)
                  have Rc13 := Lib.hid (own_below' Rc12.out hb)
                  have Ru13 := Lib.hid (own_below' Ru12.out hb)
                  clear hb Ra12 Rb12 Rc12 Ru12 HB12
                  rw [LS.out]
                  go_wp2_with fail
                  refine (implLevelLe_any w13 w13.heap.size A11 nu c11 qu Ab nb cb lb T pv (Nat.lt_of_lt_of_le h0 (Nat.le_trans hB HB13.out.size)) (Nat.le_refl _) (OwnT.reads Ru13.out) (by omega) (OwnT.reads Rb13.out) (by omega) (hE.below (HB13.out.mono hB) h0)).mono ?_
                  rintro e w14 ⟨rfl, hb⟩
                  have HB14 := Lib.hid (HB13.out.trans (hb.mono HB13.out.size))
                  have Ra14 := Lib.hid (own_below' Ra13.out hb)
                  have Rb14 := Lib.hid (own_below' Rb13.out hb)
                  have Rc14 := Lib.hid (own_below' Rc13.out hb)
                  have Ru14 := Lib.hid (own_below' Ru13.out hb)
                  clear hb Ra13 Rb13 Rc13 Ru13 HB13
                  rw [HLQ.out, LS.out]
                  go_wp2_with fail
                  refine (implLevelEq_any w14 w14.heap.size Aa na ca la Ab nb cb lb T pv (Nat.lt_of_lt_of_le h0 (Nat.le_trans hB HB14.out.size)) (Nat.le_refl _) (OwnT.reads Ra14.out) (by omega) (OwnT.reads Rb14.out) (by omega) (hE.below (HB14.out.mono hB) h0)).mono ?_
                  rintro e w15 ⟨rfl, hb⟩
                  have HB15 := Lib.hid (HB14.out.trans (hb.mono HB14.out.size))
                  have Ra15 := Lib.hid (own_below' Ra14.out hb)
                  have Rb15 := Lib.hid (own_below' Rb14.out hb)
                  have Rc15 := Lib.hid (own_below' Rc14.out hb)
                  have Ru15 := Lib.hid (own_below' Ru14.out hb)
                  clear hb Ra14 Rb14 Rc14 Ru14 HB14
                  rw [EQ.out]
                  go_wp2_with fail
                  refine (implLevelLe_any w15 w15.heap.size Ab nb cb lb Aa na ca la T pv (Nat.lt_of_lt_of_le h0 (Nat.le_trans hB HB15.out.size)) (Nat.le_refl _) (OwnT.reads Rb15.out) (by omega) (OwnT.reads Ra15.out) (by omega) (hE.below (HB15.out.mono hB) h0)).mono ?_
                  rintro e w16 ⟨rfl, hb⟩
                  have HB16 := Lib.hid (HB15.out.trans (hb.mono HB15.out.size))
                  have Ra16 := Lib.hid (own_below' Ra15.out hb)
                  have Rb16 := Lib.hid (own_below' Rb15.out hb)
                  have Rc16 := Lib.hid (own_below' Rc15.out hb)
                  have Ru16 := Lib.hid (own_below' Ru15.out hb)
                  clear hb Ra15 Rb15 Rc15 Ru15 HB15
                  have hvv : (Dc.leR lb la == Dc.leR lb la) = true := by simp
                  generalize Dc.leR lb la = vv at hvv ⊢
                  go_wp2
                  go_ret
                  exact ⟨rfl, HB16.out⟩
          | false =>
            have AB := Lib.hid hab
            have EQ : Hid (Dc.eqR la lb = false) := by show _ = _; unfold Dc.eqR; rw [hab]; rfl
            have LS : Hid (Dc.lessR la lb = false) := by
              cases e : Dc.lessR la lb with
              | false => rfl
              | true => rw [Dc.less_le OA.out OB.out e] at hab; cases hab
            clear hab
            go_wp2_with fail
            refine (implLevelLe_any w5 w5.heap.size Aa na ca la Ab nb cb lb T pv (Nat.lt_of_lt_of_le h0 (Nat.le_trans hB HB5.out.size)) (Nat.le_refl _) (OwnT.reads Ra5.out) (by omega) (OwnT.reads Rb5.out) (by omega) (hE.below (HB5.out.mono hB) h0)).mono ?_
            rintro e w6 ⟨rfl, hb⟩
            have HB6 := Lib.hid (HB5.out.trans (hb.mono HB5.out.size))
            have Ra6 := Lib.hid (own_below' Ra5.out hb)
            have Rb6 := Lib.hid (own_below' Rb5.out hb)
            have Rc6 := Lib.hid (own_below' Rc5.out hb)
            clear hb Ra5 Rb5 Rc5 HB5
            rw [AB.out]
            go_wp2_with fail
            refine (implLevelLe_any w6 w6.heap.size Ab nb cb lb Ac nc cc lc T pv (Nat.lt_of_lt_of_le h0 (Nat.le_trans hB HB6.out.size)) (Nat.le_refl _) (OwnT.reads Rb6.out) (by omega) (OwnT.reads Rc6.out) (by omega) (hE.below (HB6.out.mono hB) h0)).mono ?_
            rintro e w7 ⟨rfl, hb⟩
            have HB7 := Lib.hid (HB6.out.trans (hb.mono HB6.out.size))
            have Ra7 := Lib.hid (own_below' Ra6.out hb)
            have Rb7 := Lib.hid (own_below' Rb6.out hb)
            have Rc7 := Lib.hid (own_below' Rc6.out hb)
            clear hb Ra6 Rb6 Rc6 HB6
            generalize Dc.leR lb lc = vbc
            go_wp2_with fail
            refine (implLevelLe_any w7 w7.heap.size Aa na ca la Aa na ca la T pv (Nat.lt_of_lt_of_le h0 (Nat.le_trans hB HB7.out.size)) (Nat.le_refl _) (OwnT.reads Ra7.out) (by omega) (OwnT.reads Ra7.out) (by omega) (hE.below (HB7.out.mono hB) h0)).mono ?_
            rintro e w8 ⟨rfl, hb⟩
            have HB8 := Lib.hid (HB7.out.trans (hb.mono HB7.out.size))
            have Ra8 := Lib.hid (own_below' Ra7.out hb)
            have Rb8 := Lib.hid (own_below' Rb7.out hb)
            have Rc8 := Lib.hid (own_below' Rc7.out hb)
            clear hb Ra7 Rb7 Rc7 HB7
            rw [HA2.out]
            go_wp2_with fail
            refine (implLevelLess_any w8 w8.heap.size Aa na ca la Aa na ca la T pv (Nat.lt_of_lt_of_le h0 (Nat.le_trans hB HB8.out.size)) (Nat.le_refl _) (OwnT.reads Ra8.out) (by omega) (OwnT.reads Ra8.out) (by omega) (hE.below (HB8.out.mono hB) h0)).mono ?_
            rintro e w9 ⟨rfl, hb⟩
            have HB9 := Lib.hid (HB8.out.trans (hb.mono HB8.out.size))
            have Ra9 := Lib.hid (own_below' Ra8.out hb)
            have Rb9 := Lib.hid (own_below' Rb8.out hb)
            have Rc9 := Lib.hid (own_below' Rc8.out hb)
            clear hb Ra8 Rb8 Rc8 HB8
            rw [HL2.out]
            go_wp2_with fail
            refine (implLevelLess_any w9 w9.heap.size Aa na ca la Ab nb cb lb T pv (Nat.lt_of_lt_of_le h0 (Nat.le_trans hB HB9.out.size)) (Nat.le_refl _) (OwnT.reads Ra9.out) (by omega) (OwnT.reads Rb9.out) (by omega) (hE.below (HB9.out.mono hB) h0)).mono ?_
            rintro e w10 ⟨rfl, hb⟩
            have HB10 := Lib.hid (HB9.out.trans (hb.mono HB9.out.size))
            have Ra10 := Lib.hid (own_below' Ra9.out hb)
            have Rb10 := Lib.hid (own_below' Rb9.out hb)
            have Rc10 := Lib.hid (own_below' Rc9.out hb)
            clear hb Ra9 Rb9 Rc9 HB9
            rw [LS.out]
            cases hsu : succR la 1 with
            | none =>
              have HSU := Lib.hid hsu
              clear hsu
              go_wp2_with fail
              refine (implSucc_any w10 w10.heap.size Aa na ca la 1 T pv (Nat.lt_of_lt_of_le h0 (Nat.le_trans hB HB10.out.size)) (Nat.le_refl _) (OwnT.reads Ra10.out) (by omega) (hE.below (HB10.out.mono hB) h0)).mono ?_
              rintro e w11 ⟨A11, c11, rfl, ho, hb⟩
              have HB11 := Lib.hid (HB10.out.trans (hb.mono HB10.out.size))
              have Ra11 := Lib.hid (own_below' Ra10.out hb)
              have Rb11 := Lib.hid (own_below' Rb10.out hb)
              have Rc11 := Lib.hid (own_below' Rc10.out hb)
              rw [HSU.out] at ho ⊢
              simp only [Option.getD_none, Option.isSome_none, List.length_nil]
              clear hb Ra10 Rb10 Rc10 HB10
              clear ho
              go_wp2_with fail
              refine (specLevelLe_any w11 w11.heap.size Aa na ca la Ab nb cb lb (Nat.le_refl _) (OwnT.reads Ra11.out) (by omega) (OwnT.reads Rb11.out) (by omega)).mono ?_
              rintro e w12 ⟨rfl, hb⟩
              have HB12 := Lib.hid (HB11.out.trans (hb.mono HB11.out.size))
              have Ra12 := Lib.hid (own_below' Ra11.out hb)
              have Rb12 := Lib.hid (own_below' Rb11.out hb)
              have Rc12 := Lib.hid (own_below' Rc11.out hb)
              clear hb Ra11 Rb11 Rc11 HB11
              rw [AB.out]
              go_wp2_with fail
              refine (implLevelEq_any w12 w12.heap.size Aa na ca la Ab nb cb lb T pv (Nat.lt_of_lt_of_le h0 (Nat.le_trans hB HB12.out.size)) (Nat.le_refl _) (OwnT.reads Ra12.out) (by omega) (OwnT.reads Rb12.out) (by omega) (hE.below (HB12.out.mono hB) h0)).mono ?_
              rintro e w13 ⟨rfl, hb⟩
              have HB13 := Lib.hid (HB12.out.trans (hb.mono HB12.out.size))
              have Ra13 := Lib.hid (own_below' Ra12.out hb)
              have Rb13 := Lib.hid (own_below' Rb12.out hb)
              have Rc13 := Lib.hid (own_below' Rc12.out hb)
              clear hb Ra12 Rb12 Rc12 HB12
              rw [EQ.out]
              go_wp2
              go_ret
              exact ⟨rfl, HB13.out⟩
            | some qu =>
              have HSU := Lib.hid hsu
              have HLQ := Lib.hid (Dc.less_succ OA.out OB.out hsu)
              have hlen := succR_len25 la 1
              rw [hsu] at hlen
              simp only [Option.getD_some] at hlen
              obtain ⟨nu, hnu⟩ : ∃ nu, qu.length = nu := ⟨_, rfl⟩
              rw [hnu] at hlen
              have Nu := Lib.hid hnu
              clear hnu
              clear hsu
              go_wp2_with fail
              refine (implSucc_any w10 w10.heap.size Aa na ca la 1 T pv (Nat.lt_of_lt_of_le h0 (Nat.le_trans hB HB10.out.size)) (Nat.le_refl _) (OwnT.reads Ra10.out) (by omega) (hE.below (HB10.out.mono hB) h0)).mono ?_
              rintro e w11 ⟨A11, c11, rfl, ho, hb⟩
              have HB11 := Lib.hid (HB10.out.trans (hb.mono HB10.out.size))
              have Ra11 := Lib.hid (own_below' Ra10.out hb)
              have Rb11 := Lib.hid (own_below' Rb10.out hb)
              have Rc11 := Lib.hid (own_below' Rc10.out hb)
              rw [HSU.out] at ho ⊢
              simp only [Option.getD_some, Option.isSome_some] at ho ⊢
              have hu := 0
              rw [Nu.out] at ho ⊢
              have Ru11 := Lib.hid (own_base (base' := w.heap.size) ho HB10.out.size)
              clear hb Ra10 Rb10 Rc10 HB10
              clear ho hu
              go_wp2_with fail
              refine (specLevelLe_any w11 w11.heap.size Aa na ca la Ab nb cb lb (Nat.le_refl _) (OwnT.reads Ra11.out) (by omega) (OwnT.reads Rb11.out) (by omega)).mono ?_
              rintro e w12 ⟨rfl, hb⟩
              have HB12 := Lib.hid (HB11.out.trans (hb.mono HB11.out.size))
              have Ra12 := Lib.hid (own_below' Ra11.out hb)
              have Rb12 := Lib.hid (own_below' Rb11.out hb)
              have Rc12 := Lib.hid (own_below' Rc11.out hb)
              have Ru12 := Lib.hid (own_below' Ru11.out hb)
              clear hb Ra11 Rb11 Rc11 Ru11 HB11
              rw [AB.out]
              go_wp2_with fail
              refine (implLevelLess_any w12 w12.heap.size Aa na ca la Ab nb cb lb T pv (Nat.lt_of_lt_of_le h0 (Nat.le_trans hB HB12.out.size)) (Nat.le_refl _) (OwnT.reads Ra12.out) (by omega) (OwnT.reads Rb12.out) (by omega) (hE.below (HB12.out.mono hB) h0)).mono ?_
              rintro e w13 ⟨rfl, hb⟩
              have HB13 := Lib.hid (HB12.out.trans (hb.mono HB12.out.size))
              have Ra13 := Lib.hid (own_below' Ra12.out hb)
              have Rb13 := Lib.hid (own_below' Rb12.out hb)
              have Rc13 := Lib.hid (own_below' Rc12.out hb)
              have Ru13 := Lib.hid (own_below' Ru12.out hb)
              clear hb Ra12 Rb12 Rc12 Ru12 HB12
              rw [LS.out]
              go_wp2_with fail
              refine (implLevelLe_any w13 w13.heap.size A11 nu c11 qu Ab nb cb lb T pv (Nat.lt_of_lt_of_le h0 (Nat.le_trans hB HB13.out.size)) (Nat.le_refl _) (OwnT.reads Ru13.out) (by omega) (OwnT.reads Rb13.out) (by omega) (hE.below (HB13.out.mono hB) h0)).mono ?_
              rintro e w14 ⟨rfl, hb⟩
              have HB14 := Lib.hid (HB13.out.trans (hb.mono HB13.out.size))
              have Ra14 := Lib.hid (own_below' Ra13.out hb)
              have Rb14 := Lib.hid (own_below' Rb13.out hb)
              have Rc14 := Lib.hid (own_below' Rc13.out hb)
              have Ru14 := Lib.hid (own_below' Ru13.out hb)
              clear hb Ra13 Rb13 Rc13 Ru13 HB13
              rw [HLQ.out, LS.out]
              go_wp2_with fail
              refine (implLevelEq_any w14 w14.heap.size Aa na ca la Ab nb cb lb T pv (Nat.lt_of_lt_of_le h0 (Nat.le_trans hB HB14.out.size)) (Nat.le_refl _) (OwnT.reads Ra14.out) (by omega) (OwnT.reads Rb14.out) (by omega) (hE.below (HB14.out.mono hB) h0)).mono ?_
              rintro e w15 ⟨rfl, hb⟩
              have HB15 := Lib.hid (HB14.out.trans (hb.mono HB14.out.size))
              have Ra15 := Lib.hid (own_below' Ra14.out hb)
              have Rb15 := Lib.hid (own_below' Rb14.out hb)
              have Rc15 := Lib.hid (own_below' Rc14.out hb)
              have Ru15 := Lib.hid (own_below' Ru14.out hb)
              clear hb Ra14 Rb14 Rc14 Ru14 HB14
              rw [EQ.out]
              go_wp2
              go_ret
              exact ⟨rfl, HB15.out⟩
end Go.Proofs.YtghoofgfimeedaaDoor
