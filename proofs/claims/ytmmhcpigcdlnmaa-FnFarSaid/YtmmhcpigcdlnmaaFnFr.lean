/- The law FnFar: the walk. -/
import Derived.Test.YtmmhcpigcdlnmaaDrawFar
import Derived.Test.YtmmhcpigcdlnmaaPtImp
import Derived.Test.YtmmhcpigcdlnmaaCoImp

namespace Go.Proofs.Ytmmhcpigcdlnmaa
open Go.RowKit
open Cs (Cn Tb)

theorem farR_at {l : List Cn} {i j : Int} {u v : Nat} (hs : satR l = true) (hu : i + 1 = u) (hu6 : u < 6) (hv : j + 1 = v) (hv6 : v < 6) : farR l i j = Cs.tab l u v := by
  unfold farR
  rw [if_pos ⟨hs, by simp [nodeR]; omega, by simp [nodeR]; omega⟩, node_of hu, node_of hv]
theorem impR_at {l : List Cn} {i j r : Int} {u v : Nat} (hs : satR l = true) (hu : i + 1 = u) (hu6 : u < 6) (hv : j + 1 = v) (hv6 : v < 6) (hr0 : 0 ≤ r) (hr1 : r ≤ 1) : impR l (i, r, j) = decide (r ≤ Cs.tab l u v) := by
  have hc : Cs.cOk (i, r, j) = true := (Cs.cOk_iff _).2 ⟨⟨by show -1 ≤ i; omega, by show i < 5; omega⟩, ⟨by show -1 ≤ j; omega, by show j < 5; omega⟩, hr0, by show r ≤ 2; omega⟩
  unfold impR
  rw [hs, hc, Bool.true_and, Bool.true_and, imp_at hu hv]
  by_cases e : r = 0
  · rw [if_pos e, e]
  · rw [if_neg e, if_pos (by omega), show r = 1 by omega]

set_option maxRecDepth 100000 in
set_option maxHeartbeats 16000000 in
theorem fnFar_any (w : World) (B : Nat) (A : Option Addr) (n c : Nat) (hB : B ≤ w.heap.size) (hb : BytR w B A n) :
    Calls Try.prog 4 #[.slice A n c] w fun e w' => e = .returned (.bool true) ∧ Below w.heap.size w w' := by
  by_cases hbig : 1048576 < (n : Int)
  · go_enter Try.func4, Try.ntmps4
    go_wp2_with fail
    refine (big_any w A n c).mono ?_
    rintro e w' ⟨rfl, rfl⟩
    rw [decide_eq_true (by omega)]
    go_wp2
    go_ret
    exact ⟨rfl, Below.refl _ _⟩
  · have hn : n ≤ 1048576 := by omega
    go_enter Try.func4, Try.ntmps4
    go_wp2_with fail
    refine (big_any w A n c).mono ?_
    rintro e w' ⟨rfl, rfl⟩
    rw [decide_eq_false (by omega)]
    go_wp2_with fail
    refine (drawFar_any w B A n c hB hb hn).mono ?_
    rintro e w1 ⟨⟨g, cap, m, l, i, j, rfl, hm, ho1⟩, hb1⟩
    have HB1 := Lib.hid hb1
    have HO1 := Lib.hid ho1
    have hs1 := hb1.size
    clear ho1 hb1
    go_wp2_with fail
    refine (implConsFar_any w1 w1.heap.size (some ⟨g, 0, none⟩) m cap l i j (Nat.le_refl _) (OwnC.reads HO1.out) (by omega)).mono ?_
    rintro e w2 ⟨rfl, hb2⟩
    have HB2 := Lib.hid (HB1.out.trans (hb2.mono hs1))
    have HO2 := Lib.hid (own_below' HO1.out hb2)
    have hs2 := HB2.out.size
    clear hb2 HO1 HB1
    go_wp2_with fail
    refine (specConsFar_any w2 w2.heap.size (some ⟨g, 0, none⟩) m cap l i j (Nat.le_refl _) (OwnC.reads HO2.out) (by omega)).mono ?_
    rintro e w3 ⟨rfl, hb3⟩
    have HB3 := Lib.hid (HB2.out.trans (hb3.mono hs2))
    have HO3 := Lib.hid (own_below' HO2.out hb3)
    have hs3 := HB3.out.size
    clear hb3 HO2 HB2
    obtain ⟨x, hx⟩ : ∃ x, farR l i j = x := ⟨_, rfl⟩
    have HX := Lib.hid hx
    rw [hx]
    have hxx : (x != x) = false := by simp
    have hxe : (x == x) = true := by simp
    clear hx
    go_wp2_with fail
    refine (specConsSat_any w3 w3.heap.size (some ⟨g, 0, none⟩) m cap l (Nat.le_refl _) (OwnC.reads HO3.out) (by omega)).mono ?_
    rintro e w4 ⟨rfl, hb4⟩
    have HB4 := Lib.hid (HB3.out.trans (hb4.mono hs3))
    have HO4 := Lib.hid (own_below' HO3.out hb4)
    have hs4 := HB4.out.size
    clear hb4 HO3 HB3
    have hend : ∀ (wx : World) (HBX : Hid (Below w.heap.size w wx)) (HOX : Hid (OwnC wx w.heap.size (some ⟨g, 0, none⟩) m cap l)), Hid (Calls Try.prog 22 #[.slice (some ⟨g, 0, none⟩) m cap, .int .i64 i, .int .i64 j] wx fun e w' => e = .returned (.int .i64 x) ∧ Below w.heap.size w w') := fun wx HBX HOX =>
      (specConsFar_any wx wx.heap.size (some ⟨g, 0, none⟩) m cap l i j (Nat.le_refl _) (OwnC.reads HOX.out) (by omega)).mono (fun e w' ⟨he, hb'⟩ => ⟨by rw [he, HX.out], HBX.out.trans (hb'.mono HBX.out.size)⟩)
    have HEND := Lib.hid hend
    clear hend
    cases hsat : satR l with
    | false =>
      clear hsat
      go_wp2_with fail
      refine ((HEND.out w4 HB4 HO4).out).mono ?_
      rintro e w5 ⟨rfl, hb5⟩
      have HB5 := Lib.hid hb5
      clear hb5
      go_wp2
      go_ret
      exact ⟨rfl, HB5.out⟩
    | true =>
      have HS := Lib.hid hsat
      clear hsat
      by_cases hi1 : i < -1
      · have d1 : decide (i < -1) = true := decide_eq_true hi1
        go_wp2_with fail
        refine ((HEND.out w4 HB4 HO4).out).mono ?_
        rintro e w5 ⟨rfl, hb5⟩
        have HB5 := Lib.hid hb5
        clear hb5
        go_wp2
        go_ret
        exact ⟨rfl, HB5.out⟩
      · have d1 : decide (i < -1) = false := decide_eq_false hi1
        by_cases hj1 : j < -1
        · have d2 : decide (j < -1) = true := decide_eq_true hj1
          go_wp2_with fail
          refine ((HEND.out w4 HB4 HO4).out).mono ?_
          rintro e w5 ⟨rfl, hb5⟩
          have HB5 := Lib.hid hb5
          clear hb5
          go_wp2
          go_ret
          exact ⟨rfl, HB5.out⟩
        · have d2 : decide (j < -1) = false := decide_eq_false hj1
          by_cases hi5 : 5 ≤ i
          · have d3 : decide (5 ≤ i) = true := decide_eq_true hi5
            go_wp2_with fail
            refine ((HEND.out w4 HB4 HO4).out).mono ?_
            rintro e w5 ⟨rfl, hb5⟩
            have HB5 := Lib.hid hb5
            clear hb5
            go_wp2
            go_ret
            exact ⟨rfl, HB5.out⟩
          · have d3 : decide (5 ≤ i) = false := decide_eq_false hi5
            by_cases hj5 : 5 ≤ j
            · have d4 : decide (5 ≤ j) = true := decide_eq_true hj5
              go_wp2_with fail
              refine ((HEND.out w4 HB4 HO4).out).mono ?_
              rintro e w5 ⟨rfl, hb5⟩
              have HB5 := Lib.hid hb5
              clear hb5
              go_wp2
              go_ret
              exact ⟨rfl, HB5.out⟩
            · have d4 : decide (5 ≤ j) = false := decide_eq_false hj5
              clear HEND
              go_wp2_with fail
              refine (lawPick_any w4 B A n c 3 6 (hb.below (HB4.out.mono hB)) hn (by omega) (by omega)).mono ?_
              rintro e w' ⟨r, rfl, hr, rfl⟩
              have hr6 : r < 6 := by omega
              obtain ⟨u, hu⟩ : ∃ u : Nat, i + 1 = u := ⟨(i + 1).toNat, by omega⟩
              obtain ⟨v, hv⟩ : ∃ v : Nat, j + 1 = v := ⟨(j + 1).toNat, by omega⟩
              have hu6 : u < 6 := by omega
              have hv6 : v < 6 := by omega
              have hrk : (r : Int) - 1 + 1 = r := by omega
              have hp := satR_parts HS.out
              obtain ⟨y, hy⟩ : ∃ y, Cs.tab l v r = y := ⟨_, rfl⟩
              obtain ⟨z, hz⟩ : ∃ z, Cs.tab l u r = z := ⟨_, rfl⟩
              obtain ⟨t, ht⟩ : ∃ t, Cs.tab l 0 u = t := ⟨_, rfl⟩
              have HXT : Hid (Cs.tab l u v = x) := (farR_at HS.out hu hu6 hv hv6).symm.trans HX.out
              have HG : Hid (farR l j ((r : Int) - 1) = y) := (farR_at HS.out hv hv6 hrk hr6).trans hy
              have HH : Hid (farR l i ((r : Int) - 1) = z) := (farR_at HS.out hu hu6 hrk hr6).trans hz
              have HII : Hid (farR l i i = 0) := (farR_at HS.out hu hu6 hu hu6).trans (Cs.tab_diag hp.2.2 hu6)
              have H0I : Hid (farR l (-1) i = t) := (farR_at (u := 0) HS.out (by rfl) (by omega) hu hu6).trans ht
              have HI0 : Hid (impR l (i, 0, j) = decide (0 ≤ x)) := by show _ = _; rw [impR_at HS.out hu hu6 hv hv6 (by omega) (by omega), HXT.out]
              have HI1 : Hid (impR l (i, 1, j) = decide (1 ≤ x)) := by show _ = _; rw [impR_at HS.out hu hu6 hv hv6 (by omega) (by omega), HXT.out]
              have hadd : 0 ≤ x → 0 ≤ y → x + y ≤ z := fun h1 h2 => by
                have := Cs.tab_closed hp.2.2 hu6 hr6 hv6 (by rw [HXT.out]; exact h1) (by rw [hy]; exact h2)
                rw [HXT.out, hy, hz] at this
                exact this
              have hb1x := Cs.tab_bd hp.2.2 u v
              rw [HXT.out] at hb1x
              have hb1y := Cs.tab_bd hp.2.2 v r
              rw [hy] at hb1y
              have ht0 : 0 ≤ t := by rw [← ht]; exact Cs.tab_zero l u
              clear hy hz ht hu hv hrk hp d1 d2 d3 d4 HX HXT
              go_wp2_with fail
              refine (implConsFar_any w4 w4.heap.size (some ⟨g, 0, none⟩) m cap l j ((r : Int) - 1) (Nat.le_refl _) (OwnC.reads HO4.out) (by omega)).mono ?_
              rintro e w5 ⟨rfl, hb5⟩
              have HB5 := Lib.hid (HB4.out.trans (hb5.mono hs4))
              have HO5 := Lib.hid (own_below' HO4.out hb5)
              have hs5 := HB5.out.size
              rw [HG.out]
              clear hb5 HO4 HB4
              go_wp2_with fail
              refine (implConsFar_any w5 w5.heap.size (some ⟨g, 0, none⟩) m cap l i ((r : Int) - 1) (Nat.le_refl _) (OwnC.reads HO5.out) (by omega)).mono ?_
              rintro e w6 ⟨rfl, hb6⟩
              have HB6 := Lib.hid (HB5.out.trans (hb6.mono hs5))
              have HO6 := Lib.hid (own_below' HO5.out hb6)
              have hs6 := HB6.out.size
              rw [HH.out]
              clear hb6 HO5 HB5
              by_cases hx0 : 0 ≤ x
              · by_cases hy0 : 0 ≤ y
                · have hz0 : ¬ z < x + y := by have := hadd hx0 hy0; omega
                  have dz : decide (z < x + y) = false := decide_eq_false hz0
                  have dx : decide (0 ≤ x) = true := decide_eq_true hx0
                  have dy : decide (0 ≤ y) = true := decide_eq_true hy0
                  clear hadd hz0
                  have e0 : (decide (0 ≤ x) == decide (0 ≤ x)) = true := by simp
                  have e1 : (decide (1 ≤ x) == decide (1 ≤ x)) = true := by simp
                  have et : decide (0 ≤ t) = true := decide_eq_true ht0
                  go_wp2_with fail
                  refine (implConsImply_any w6 w6.heap.size (some ⟨g, 0, none⟩) m cap l i 0 j (Nat.le_refl _) (OwnC.reads HO6.out) (by omega)).mono ?_
                  rintro e w7 ⟨rfl, hb7⟩
                  have HB7 := Lib.hid (HB6.out.trans (hb7.mono hs6))
                  have HO7 := Lib.hid (own_below' HO6.out hb7)
                  have hs7 := HB7.out.size
                  rw [HI0.out]
                  clear hb7 HO6 HB6
                  go_wp2_with fail
                  refine (implConsImply_any w7 w7.heap.size (some ⟨g, 0, none⟩) m cap l i 1 j (Nat.le_refl _) (OwnC.reads HO7.out) (by omega)).mono ?_
                  rintro e w8 ⟨rfl, hb8⟩
                  have HB8 := Lib.hid (HB7.out.trans (hb8.mono hs7))
                  have HO8 := Lib.hid (own_below' HO7.out hb8)
                  have hs8 := HB8.out.size
                  rw [HI1.out]
                  clear hb8 HO7 HB7
                  go_wp2_with fail
                  refine (implConsFar_any w8 w8.heap.size (some ⟨g, 0, none⟩) m cap l i i (Nat.le_refl _) (OwnC.reads HO8.out) (by omega)).mono ?_
                  rintro e w9 ⟨rfl, hb9⟩
                  have HB9 := Lib.hid (HB8.out.trans (hb9.mono hs8))
                  have HO9 := Lib.hid (own_below' HO8.out hb9)
                  have hs9 := HB9.out.size
                  rw [HII.out]
                  clear hb9 HO8 HB8
                  go_wp2_with fail
                  refine (implConsFar_any w9 w9.heap.size (some ⟨g, 0, none⟩) m cap l (-1) i (Nat.le_refl _) (OwnC.reads HO9.out) (by omega)).mono ?_
                  rintro e w10 ⟨rfl, hb10⟩
                  have HB10 := Lib.hid (HB9.out.trans (hb10.mono hs9))
                  rw [H0I.out]
                  clear hb10 HO9 HB9
                  go_wp2
                  go_ret
                  exact ⟨rfl, HB10.out⟩
                · have dx : decide (0 ≤ x) = true := decide_eq_true hx0
                  have dy : decide (0 ≤ y) = false := decide_eq_false hy0
                  clear hadd
                  have e0 : (decide (0 ≤ x) == decide (0 ≤ x)) = true := by simp
                  have e1 : (decide (1 ≤ x) == decide (1 ≤ x)) = true := by simp
                  have et : decide (0 ≤ t) = true := decide_eq_true ht0
                  go_wp2_with fail
                  refine (implConsImply_any w6 w6.heap.size (some ⟨g, 0, none⟩) m cap l i 0 j (Nat.le_refl _) (OwnC.reads HO6.out) (by omega)).mono ?_
                  rintro e w7 ⟨rfl, hb7⟩
                  have HB7 := Lib.hid (HB6.out.trans (hb7.mono hs6))
                  have HO7 := Lib.hid (own_below' HO6.out hb7)
                  have hs7 := HB7.out.size
                  rw [HI0.out]
                  clear hb7 HO6 HB6
                  go_wp2_with fail
                  refine (implConsImply_any w7 w7.heap.size (some ⟨g, 0, none⟩) m cap l i 1 j (Nat.le_refl _) (OwnC.reads HO7.out) (by omega)).mono ?_
                  rintro e w8 ⟨rfl, hb8⟩
                  have HB8 := Lib.hid (HB7.out.trans (hb8.mono hs7))
                  have HO8 := Lib.hid (own_below' HO7.out hb8)
                  have hs8 := HB8.out.size
                  rw [HI1.out]
                  clear hb8 HO7 HB7
                  go_wp2_with fail
                  refine (implConsFar_any w8 w8.heap.size (some ⟨g, 0, none⟩) m cap l i i (Nat.le_refl _) (OwnC.reads HO8.out) (by omega)).mono ?_
                  rintro e w9 ⟨rfl, hb9⟩
                  have HB9 := Lib.hid (HB8.out.trans (hb9.mono hs8))
                  have HO9 := Lib.hid (own_below' HO8.out hb9)
                  have hs9 := HB9.out.size
                  rw [HII.out]
                  clear hb9 HO8 HB8
                  go_wp2_with fail
                  refine (implConsFar_any w9 w9.heap.size (some ⟨g, 0, none⟩) m cap l (-1) i (Nat.le_refl _) (OwnC.reads HO9.out) (by omega)).mono ?_
                  rintro e w10 ⟨rfl, hb10⟩
                  have HB10 := Lib.hid (HB9.out.trans (hb10.mono hs9))
                  rw [H0I.out]
                  clear hb10 HO9 HB9
                  go_wp2
                  go_ret
                  exact ⟨rfl, HB10.out⟩
              · have dx : decide (0 ≤ x) = false := decide_eq_false hx0
                clear hadd
                have e0 : (decide (0 ≤ x) == decide (0 ≤ x)) = true := by simp
                have e1 : (decide (1 ≤ x) == decide (1 ≤ x)) = true := by simp
                have et : decide (0 ≤ t) = true := decide_eq_true ht0
                go_wp2_with fail
                refine (implConsImply_any w6 w6.heap.size (some ⟨g, 0, none⟩) m cap l i 0 j (Nat.le_refl _) (OwnC.reads HO6.out) (by omega)).mono ?_
                rintro e w7 ⟨rfl, hb7⟩
                have HB7 := Lib.hid (HB6.out.trans (hb7.mono hs6))
                have HO7 := Lib.hid (own_below' HO6.out hb7)
                have hs7 := HB7.out.size
                rw [HI0.out]
                clear hb7 HO6 HB6
                go_wp2_with fail
                refine (implConsImply_any w7 w7.heap.size (some ⟨g, 0, none⟩) m cap l i 1 j (Nat.le_refl _) (OwnC.reads HO7.out) (by omega)).mono ?_
                rintro e w8 ⟨rfl, hb8⟩
                have HB8 := Lib.hid (HB7.out.trans (hb8.mono hs7))
                have HO8 := Lib.hid (own_below' HO7.out hb8)
                have hs8 := HB8.out.size
                rw [HI1.out]
                clear hb8 HO7 HB7
                go_wp2_with fail
                refine (implConsFar_any w8 w8.heap.size (some ⟨g, 0, none⟩) m cap l i i (Nat.le_refl _) (OwnC.reads HO8.out) (by omega)).mono ?_
                rintro e w9 ⟨rfl, hb9⟩
                have HB9 := Lib.hid (HB8.out.trans (hb9.mono hs8))
                have HO9 := Lib.hid (own_below' HO8.out hb9)
                have hs9 := HB9.out.size
                rw [HII.out]
                clear hb9 HO8 HB8
                go_wp2_with fail
                refine (implConsFar_any w9 w9.heap.size (some ⟨g, 0, none⟩) m cap l (-1) i (Nat.le_refl _) (OwnC.reads HO9.out) (by omega)).mono ?_
                rintro e w10 ⟨rfl, hb10⟩
                have HB10 := Lib.hid (HB9.out.trans (hb10.mono hs9))
                rw [H0I.out]
                clear hb10 HO9 HB9
                go_wp2
                go_ret
                exact ⟨rfl, HB10.out⟩
end Go.Proofs.Ytmmhcpigcdlnmaa
