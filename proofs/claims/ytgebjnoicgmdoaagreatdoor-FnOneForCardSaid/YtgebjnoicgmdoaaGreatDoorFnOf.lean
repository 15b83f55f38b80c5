/- The law FnOneFor: the walk. -/
import Derived.Test.YtgebjnoicgmdoaaGreatDoorRegInvIn
import Derived.Test.YtgebjnoicgmdoaaGreatDoorConApp
import Derived.Test.YtgebjnoicgmdoaaGreatDoorDraw3
import Derived.Test.YtgebjnoicgmdoaaGreatDoorSubst

namespace Go.Proofs.YtgebjnoicgmdoaaGreatDoor
open Go.RowKit
open Cs (Cn)

set_option maxRecDepth 100000 in
set_option maxHeartbeats 64000000 in
theorem fnOneFor_any (w : World) (B : Nat) (A : Option Addr) (n c : Nat) (T : TypeId) (pv : Value) (Tc : TypeId) (pc : Value) (h0 : 1 < B) (h0c : 0 < B) (hB : B ≤ w.heap.size)
    (hb : BytR w B A n) (_hnc : n ≤ c) (hE : ErrAt w T pv) (hEc : ErrCAt w Tc pc) :
    Calls Tryz.prog 5 #[.slice A n c] w fun e w' => e = .returned (.bool true) ∧ Below w.heap.size w w' := by
  obtain ⟨i0, hi, hz0, hz1, hz2⟩ := info_parts info_con
  obtain ⟨i1, hj, hy0, hy1, hy2⟩ := info_parts info_level
  by_cases hbig : 1048576 < (n : Int)
  · go_enter Tryz.func5, Tryz.ntmps5
    go_wp2_with fail
    refine (big_any w A n c).mono ?_
    rintro e w' ⟨rfl, rfl⟩
    rw [decide_eq_true (by omega)]
    go_wp2
    go_ret
    exact ⟨rfl, Below.refl _ _⟩
  · have hn : n ≤ 1048576 := by omega
    go_enter Tryz.func5, Tryz.ntmps5
    go_wp2_with fail
    refine (big_any w A n c).mono ?_
    rintro e w' ⟨rfl, rfl⟩
    rw [decide_eq_false (by omega)]
    have HB0 : Hid (Below w.heap.size w w) := Below.refl _ _
    go_wp2_with fail
    refine (drawEqUnder_any w B A n c hB hb hn).mono ?_
    rintro e w1 ⟨⟨g, cap, m, l, Aa, na, ca, la, Ab, nb, cb, lb, rfl, hm, hna, hnb, hol, hoa, hob⟩, hb1⟩
    have HB1 := Lib.hid hb1
    have Rl1 := Lib.hid hol
    have Ra1 := Lib.hid hoa
    have Rb1 := Lib.hid hob
    have hs1 := hb1.size
    have HLL : Hid (l.length = m) := (OwnC.reads hol).1
    clear hol hoa hob hb1
    obtain ⟨R, hR⟩ : ∃ R, eqUnR l la lb = R := ⟨_, rfl⟩
    have HR := Lib.hid hR
    clear hR
    have hbb : (R != R) = false := by simp
    have hbe : (R == R) = true := by simp
    go_wp2_with fail
    refine (implEqUnder_any w1 w1.heap.size (some ⟨g, 0, none⟩) m cap l Aa na ca la Ab nb cb lb T pv Tc pc (Nat.lt_of_lt_of_le h0 (Nat.le_trans hB HB1.out.size)) (Nat.lt_of_lt_of_le h0c (Nat.le_trans hB HB1.out.size)) (Nat.le_refl _) (.inl ⟨_, _, rfl⟩) (OwnC.reads Rl1.out) (by omega) (OwnT.reads Ra1.out) (by omega) (OwnT.reads Rb1.out) (by omega) (hE.below (HB1.out.mono hB) h0) (hEc.below (HB1.out.mono hB) h0c)).mono ?_
    rintro e w2 ⟨rfl, hb⟩
    have HB2 := Lib.hid (HB1.out.trans (hb.mono HB1.out.size))
    have Rl2 := Lib.hid (own_below' Rl1.out hb)
    have Ra2 := Lib.hid (own_below' Ra1.out hb)
    have Rb2 := Lib.hid (own_below' Rb1.out hb)
    clear hb Rl1 Ra1 Rb1 HB1
    rw [HR.out]
    go_wp2_with fail
    refine (specEqUnder_any w2 w2.heap.size g 0 m cap l Aa na ca la Ab nb cb lb (Nat.le_refl _) (OwnC.reads Rl2.out) (by omega) (OwnT.reads Ra2.out) (by omega) (OwnT.reads Rb2.out) (by omega)).mono ?_
    rintro e w3 ⟨rfl, hb⟩
    have HB3 := Lib.hid (HB2.out.trans (hb.mono HB2.out.size))
    have Rl3 := Lib.hid (own_below' Rl2.out hb)
    have Ra3 := Lib.hid (own_below' Ra2.out hb)
    have Rb3 := Lib.hid (own_below' Rb2.out hb)
    clear hb Rl2 Ra2 Rb2 HB2
    rw [HR.out]
    cases hc : consOkR l with
    | false =>
      have HC := Lib.hid hc
      clear hc
      go_wp2_with fail
      refine (specConsOk_any w3 w3.heap.size (some ⟨g, 0, none⟩) m cap l (Nat.le_refl _) (OwnC.reads Rl3.out) (by omega)).mono ?_
      rintro e w4 ⟨rfl, hb⟩
      have HB4 := Lib.hid (HB3.out.trans (hb.mono HB3.out.size))
      have Rl4 := Lib.hid (own_below' Rl3.out hb)
      have Ra4 := Lib.hid (own_below' Ra3.out hb)
      have Rb4 := Lib.hid (own_below' Rb3.out hb)
      clear hb Rl3 Ra3 Rb3 HB3
      rw [HC.out]
      go_wp2_with fail
      refine (implEqUnder_any w4 w4.heap.size (some ⟨g, 0, none⟩) m cap l Aa na ca la Ab nb cb lb T pv Tc pc (Nat.lt_of_lt_of_le h0 (Nat.le_trans hB HB4.out.size)) (Nat.lt_of_lt_of_le h0c (Nat.le_trans hB HB4.out.size)) (Nat.le_refl _) (.inl ⟨_, _, rfl⟩) (OwnC.reads Rl4.out) (by omega) (OwnT.reads Ra4.out) (by omega) (OwnT.reads Rb4.out) (by omega) (hE.below (HB4.out.mono hB) h0) (hEc.below (HB4.out.mono hB) h0c)).mono ?_
      rintro e w5 ⟨rfl, hb⟩
      have HB5 := Lib.hid (HB4.out.trans (hb.mono HB4.out.size))
      have Rl5 := Lib.hid (own_below' Rl4.out hb)
      have Ra5 := Lib.hid (own_below' Ra4.out hb)
      have Rb5 := Lib.hid (own_below' Rb4.out hb)
      clear hb Rl4 Ra4 Rb4 HB4
      rw [HR.out]
      go_wp2_with fail
      refine (specEqUnder_any w5 w5.heap.size g 0 m cap l Aa na ca la Ab nb cb lb (Nat.le_refl _) (OwnC.reads Rl5.out) (by omega) (OwnT.reads Ra5.out) (by omega) (OwnT.reads Rb5.out) (by omega)).mono ?_
      rintro e w6 ⟨rfl, hb⟩
      have HB6 := Lib.hid (HB5.out.trans (hb.mono HB5.out.size))
      have Rl6 := Lib.hid (own_below' Rl5.out hb)
      have Ra6 := Lib.hid (own_below' Ra5.out hb)
      have Rb6 := Lib.hid (own_below' Rb5.out hb)
      clear hb Rl5 Ra5 Rb5 HB5
      rw [HR.out]
      go_wp2
      go_ret
      exact ⟨rfl, HB6.out⟩
    | true =>
      have HC := Lib.hid hc
      have hm24 : m ≤ 24 := by have h := (consOkR_ok hc).2; rw [HLL.out] at h; exact h
      clear hc
      go_wp2_with fail
      refine (specConsOk_any w3 w3.heap.size (some ⟨g, 0, none⟩) m cap l (Nat.le_refl _) (OwnC.reads Rl3.out) (by omega)).mono ?_
      rintro e w4 ⟨rfl, hb⟩
      have HB4 := Lib.hid (HB3.out.trans (hb.mono HB3.out.size))
      have Rl4 := Lib.hid (own_below' Rl3.out hb)
      have Ra4 := Lib.hid (own_below' Ra3.out hb)
      have Rb4 := Lib.hid (own_below' Rb3.out hb)
      clear hb Rl3 Ra3 Rb3 HB3
      rw [HC.out]
      by_cases h24 : m = 24
      · have d24 : ((m : Int) == 24) = true := by simp; omega
        clear h24
        go_wp2_with fail
        refine (implEqUnder_any w4 w4.heap.size (some ⟨g, 0, none⟩) m cap l Aa na ca la Ab nb cb lb T pv Tc pc (Nat.lt_of_lt_of_le h0 (Nat.le_trans hB HB4.out.size)) (Nat.lt_of_lt_of_le h0c (Nat.le_trans hB HB4.out.size)) (Nat.le_refl _) (.inl ⟨_, _, rfl⟩) (OwnC.reads Rl4.out) (by omega) (OwnT.reads Ra4.out) (by omega) (OwnT.reads Rb4.out) (by omega) (hE.below (HB4.out.mono hB) h0) (hEc.below (HB4.out.mono hB) h0c)).mono ?_
        rintro e w5 ⟨rfl, hb⟩
        have HB5 := Lib.hid (HB4.out.trans (hb.mono HB4.out.size))
        have Rl5 := Lib.hid (own_below' Rl4.out hb)
        have Ra5 := Lib.hid (own_below' Ra4.out hb)
        have Rb5 := Lib.hid (own_below' Rb4.out hb)
        clear hb Rl4 Ra4 Rb4 HB4
        rw [HR.out]
        go_wp2_with fail
        refine (specEqUnder_any w5 w5.heap.size g 0 m cap l Aa na ca la Ab nb cb lb (Nat.le_refl _) (OwnC.reads Rl5.out) (by omega) (OwnT.reads Ra5.out) (by omega) (OwnT.reads Rb5.out) (by omega)).mono ?_
        rintro e w6 ⟨rfl, hb⟩
        have HB6 := Lib.hid (HB5.out.trans (hb.mono HB5.out.size))
        have Rl6 := Lib.hid (own_below' Rl5.out hb)
        have Ra6 := Lib.hid (own_below' Ra5.out hb)
        have Rb6 := Lib.hid (own_below' Rb5.out hb)
        clear hb Rl5 Ra5 Rb5 HB5
        rw [HR.out]
        go_wp2
        go_ret
        exact ⟨rfl, HB6.out⟩
      · have d24 : ((m : Int) == 24) = false := by simp; omega
        have hm23 : m < 24 := by omega
        clear h24
        cases oka : Lv.levelOk la with
        | false =>
          have OA := Lib.hid oka
          clear oka
          go_wp2_with fail
          refine (specOk_any w4 w4.heap.size Aa na ca la (Nat.le_refl _) (OwnT.reads Ra4.out) (by omega)).mono ?_
          rintro e w5 ⟨rfl, hb⟩
          have HB5 := Lib.hid (HB4.out.trans (hb.mono HB4.out.size))
          have Rl5 := Lib.hid (own_below' Rl4.out hb)
          have Ra5 := Lib.hid (own_below' Ra4.out hb)
          have Rb5 := Lib.hid (own_below' Rb4.out hb)
          clear hb Rl4 Ra4 Rb4 HB4
          rw [OA.out]
          go_wp2_with fail
          refine (implEqUnder_any w5 w5.heap.size (some ⟨g, 0, none⟩) m cap l Aa na ca la Ab nb cb lb T pv Tc pc (Nat.lt_of_lt_of_le h0 (Nat.le_trans hB HB5.out.size)) (Nat.lt_of_lt_of_le h0c (Nat.le_trans hB HB5.out.size)) (Nat.le_refl _) (.inl ⟨_, _, rfl⟩) (OwnC.reads Rl5.out) (by omega) (OwnT.reads Ra5.out) (by omega) (OwnT.reads Rb5.out) (by omega) (hE.below (HB5.out.mono hB) h0) (hEc.below (HB5.out.mono hB) h0c)).mono ?_
          rintro e w6 ⟨rfl, hb⟩
          have HB6 := Lib.hid (HB5.out.trans (hb.mono HB5.out.size))
          have Rl6 := Lib.hid (own_below' Rl5.out hb)
          have Ra6 := Lib.hid (own_below' Ra5.out hb)
          have Rb6 := Lib.hid (own_below' Rb5.out hb)
          clear hb Rl5 Ra5 Rb5 HB5
          rw [HR.out]
          go_wp2_with fail
          refine (specEqUnder_any w6 w6.heap.size g 0 m cap l Aa na ca la Ab nb cb lb (Nat.le_refl _) (OwnC.reads Rl6.out) (by omega) (OwnT.reads Ra6.out) (by omega) (OwnT.reads Rb6.out) (by omega)).mono ?_
          rintro e w7 ⟨rfl, hb⟩
          have HB7 := Lib.hid (HB6.out.trans (hb.mono HB6.out.size))
          have Rl7 := Lib.hid (own_below' Rl6.out hb)
          have Ra7 := Lib.hid (own_below' Ra6.out hb)
          have Rb7 := Lib.hid (own_below' Rb6.out hb)
          clear hb Rl6 Ra6 Rb6 HB6
          rw [HR.out]
          go_wp2
          go_ret
          exact ⟨rfl, HB7.out⟩
        | true =>
          have OA := Lib.hid oka
          clear oka
          go_wp2_with fail
          refine (specOk_any w4 w4.heap.size Aa na ca la (Nat.le_refl _) (OwnT.reads Ra4.out) (by omega)).mono ?_
          rintro e w5 ⟨rfl, hb⟩
          have HB5 := Lib.hid (HB4.out.trans (hb.mono HB4.out.size))
          have Rl5 := Lib.hid (own_below' Rl4.out hb)
          have Ra5 := Lib.hid (own_below' Ra4.out hb)
          have Rb5 := Lib.hid (own_below' Rb4.out hb)
          clear hb Rl4 Ra4 Rb4 HB4
          rw [OA.out]
          cases okb : Lv.levelOk lb with
          | false =>
            have OB := Lib.hid okb
            clear okb
            go_wp2_with fail
            refine (specOk_any w5 w5.heap.size Ab nb cb lb (Nat.le_refl _) (OwnT.reads Rb5.out) (by omega)).mono ?_
            rintro e w6 ⟨rfl, hb⟩
            have HB6 := Lib.hid (HB5.out.trans (hb.mono HB5.out.size))
            have Rl6 := Lib.hid (own_below' Rl5.out hb)
            have Ra6 := Lib.hid (own_below' Ra5.out hb)
            have Rb6 := Lib.hid (own_below' Rb5.out hb)
            clear hb Rl5 Ra5 Rb5 HB5
            rw [OB.out]
            go_wp2_with fail
            refine (implEqUnder_any w6 w6.heap.size (some ⟨g, 0, none⟩) m cap l Aa na ca la Ab nb cb lb T pv Tc pc (Nat.lt_of_lt_of_le h0 (Nat.le_trans hB HB6.out.size)) (Nat.lt_of_lt_of_le h0c (Nat.le_trans hB HB6.out.size)) (Nat.le_refl _) (.inl ⟨_, _, rfl⟩) (OwnC.reads Rl6.out) (by omega) (OwnT.reads Ra6.out) (by omega) (OwnT.reads Rb6.out) (by omega) (hE.below (HB6.out.mono hB) h0) (hEc.below (HB6.out.mono hB) h0c)).mono ?_
            rintro e w7 ⟨rfl, hb⟩
            have HB7 := Lib.hid (HB6.out.trans (hb.mono HB6.out.size))
            have Rl7 := Lib.hid (own_below' Rl6.out hb)
            have Ra7 := Lib.hid (own_below' Ra6.out hb)
            have Rb7 := Lib.hid (own_below' Rb6.out hb)
            clear hb Rl6 Ra6 Rb6 HB6
            rw [HR.out]
            go_wp2_with fail
            refine (specEqUnder_any w7 w7.heap.size g 0 m cap l Aa na ca la Ab nb cb lb (Nat.le_refl _) (OwnC.reads Rl7.out) (by omega) (OwnT.reads Ra7.out) (by omega) (OwnT.reads Rb7.out) (by omega)).mono ?_
            rintro e w8 ⟨rfl, hb⟩
            have HB8 := Lib.hid (HB7.out.trans (hb.mono HB7.out.size))
            have Rl8 := Lib.hid (own_below' Rl7.out hb)
            have Ra8 := Lib.hid (own_below' Ra7.out hb)
            have Rb8 := Lib.hid (own_below' Rb7.out hb)
            clear hb Rl7 Ra7 Rb7 HB7
            rw [HR.out]
            go_wp2
            go_ret
            exact ⟨rfl, HB8.out⟩
          | true =>
            have OB := Lib.hid okb
            clear okb
            go_wp2_with fail
            refine (specOk_any w5 w5.heap.size Ab nb cb lb (Nat.le_refl _) (OwnT.reads Rb5.out) (by omega)).mono ?_
            rintro e w6 ⟨rfl, hb⟩
            have HB6 := Lib.hid (HB5.out.trans (hb.mono HB5.out.size))
            have Rl6 := Lib.hid (own_below' Rl5.out hb)
            have Ra6 := Lib.hid (own_below' Ra5.out hb)
            have Rb6 := Lib.hid (own_below' Rb5.out hb)
            clear hb Rl5 Ra5 Rb5 HB5
            rw [OB.out]
            go_wp2_with fail
            refine (lawPick_any w6 B A n c 3 5 (hb.below (HB6.out.mono hB)) hn (by omega) (by omega)).mono ?_
            rintro e w' ⟨u, rfl, hp, hw⟩
            obtain rfl : w6 = w' := hw
            have hu5 : u < 5 := by omega
            clear hp
            go_wp2_with fail
            refine (lawPick_any w6 B A n c 5 5 (hb.below (HB6.out.mono hB)) hn (by omega) (by omega)).mono ?_
            rintro e w' ⟨v, rfl, hp, hw⟩
            obtain rfl : w6 = w' := hw
            have hv5 : v < 5 := by omega
            clear hp
            obtain ⟨W0, hW0⟩ : ∃ W, w6.alloc (.cells #[] 53) = W := ⟨_, rfl⟩
            have HD0 : Hid (LvlD W0 w6.heap.size w6.heap.size 0 0 (onesL u v 0)) := by
              have ho0 : W0.ownsRow w6.heap.size 53 1 (.slice (some ⟨w6.heap.size, 0, none⟩) 0 0) 0 [] := by rw [← hW0]; exact World.ownsRow_made w6 #[] 0 (Nat.le_refl _) (by simp [maxLen]) (by simp)
              exact ⟨rfl, [], ho0, fun i hi => absurd hi (by omega)⟩
            have HBW : Hid (Below w6.heap.size w6 W0) := by show Below _ _ _; rw [← hW0]; exact (Below.refl _ _).alloc (Nat.le_refl _) _
            go_wp2
            clear hW0
            go_loopw [9, 8] (fun i x wr => ∃ (k gk ck : Nat), k ≤ 5 ∧ i = .int .i64 k ∧ x = .slice (some ⟨gk, 0, none⟩) k ck ∧ Hid (LvlD wr w6.heap.size gk k ck (onesL u v k)) ∧ Hid (Below w6.heap.size w6 wr)) (fun i _ _ => 5 - (intOf i).toNat)
            case atStart => exact ⟨0, _, 0, by omega, rfl, rfl, HD0.out, HBW.out⟩
            case round =>
              clear HD0 HBW
              obtain ⟨k, gk, ck, hk, rfl, rfl, HD, HBR⟩ := hrel
              have hsr := HBR.out.size
              by_cases hlt : k < 5
              · have hki : (k : Int) < 5 := by omega
                obtain ⟨hl, vals, hv2, hv3⟩ := HD.out
                by_cases hku : k = u
                · have dku : ((k : Int) == (u : Int)) = true := by simp; omega
                  obtain ⟨X2, hX2⟩ : ∃ X, (wr.alloc (.cells #[.int .i64 4, .int .i64 (v : Int)] 51)).alloc (.cells #[.slice (some ⟨wr.heap.size, 0, none⟩) 1 1] 53) = X := ⟨_, rfl⟩
                  have hx2 : Below wr.heap.size wr X2 := by rw [← hX2]; exact ((Below.refl _ _).alloc (Nat.le_refl _) _).alloc (by simp) _
                  have hob : OwnT X2 w6.heap.size (some ⟨wr.heap.size, 0, none⟩) 1 1 (oneL u v k) := by
                    have h : Blk X2 wr.heap.size 51 #[.int .i64 4, .int .i64 (v : Int)] := by rw [← hX2]; exact (Blk.made wr _ _).alloc _
                    exact ⟨rfl, .inr ⟨wr.heap.size, 1, _, rfl, hsr, h, Nat.le_refl _, by decide, rfl, by unfold oneL; rw [if_pos hku]; rfl⟩⟩
                  have hcl : X2.cell? ⟨wr.heap.size + 1, 0, none⟩ = some (.slice (some ⟨wr.heap.size, 0, none⟩) 1 1) := by
                    have h : Blk X2 (wr.heap.size + 1) 53 #[.slice (some ⟨wr.heap.size, 0, none⟩) 1 1] := by rw [← hX2]; exact Blk.made' (by simp)
                    exact h.cell 0
                  have hv2' := own_below hv2 hx2 (fun k hk => (hv2.lt k hk).2)
                  have hv3' : ∀ i, i < k → ∃ gi ci, vals[i]? = some (.slice (some ⟨gi, 0, none⟩) ((onesL u v k).getD i []).length ci) ∧ OwnT X2 w6.heap.size (some ⟨gi, 0, none⟩) ((onesL u v k).getD i []).length ci ((onesL u v k).getD i []) ∧ ((onesL u v k).getD i []).length ≤ 25 := fun i hi => by
                    obtain ⟨gi, ci, q1, q2, q3⟩ := hv3 i hi
                    exact ⟨gi, ci, q1, own_below' q2 hx2, q3⟩
                  have hs2 := hx2.size
                  have HX2 := Lib.hid (HBR.out.trans (hx2.mono hsr))
                  go_wp2_with (at_builtin; refine wpList_append_own _ rfl (.tmp 76) (.tmp 81) 49 rfl w6.heap.size 53 i1 (.agg #[.slice none 0 0]) 1 24 Tryz.underlying49 hj hy0 hy1 hy2 rfl (by decide) (.slice (some ⟨gk, 0, none⟩) k ck) k vals rfl hv2' ⟨wr.heap.size + 1, 0, none⟩ 1 1 [.slice (some ⟨wr.heap.size, 0, none⟩) 1 1] rfl rfl (fun j u hu => by match j with | 0 => (injection hu with hu; subst hu; exact hcl) | _ + 1 => cases hu) (fun u hu => by simp at hu; subst hu; rfl) (by unfold maxLen; omega) (by omega) (by omega) ?_; intro v' w3 hown' hgrow hnil)
                  obtain ⟨g2, cap2, rfl⟩ : ∃ g' cap', v' = .slice (some ⟨g', 0, none⟩) (k + 1) cap' := by
                    rcases hown'.2 with ⟨h0, _⟩ | ⟨g', cap', _, h0, _⟩
                    · have := (hnil.1 h0).1
                      cases this
                    · exact ⟨g', cap', h0⟩
                  have HD3 : Hid (LvlD w3 w6.heap.size g2 (k + 1) cap2 (onesL u v (k + 1))) := by
                    show LvlD _ _ _ _ _ _
                    rw [onesL_more]
                    exact lvlD_push hl hown' hv2' hv3' hob (show (1 : Nat) ≤ 25 by decide) hgrow
                  have HB3 : Hid (Below w6.heap.size w6 w3) := HX2.out.grown hgrow (by omega) (fun x h => (hv2'.lt x h).1)
                  clear hown' hgrow hnil hv2' hv3' hob hcl
                  go_wp2
                  go_roundw
                  case rel => exact ⟨k + 1, g2, cap2, by omega, by go_num, rfl, HD3.out, HB3.out⟩
                  case measure => simp [intOf]; omega
                · have dku : ((k : Int) == (u : Int)) = false := by simp; omega
                  obtain ⟨X2, hX2⟩ : ∃ X, (wr.alloc (.cells #[.int .i64 4, .int .i64 (k : Int)] 51)).alloc (.cells #[.slice (some ⟨wr.heap.size, 0, none⟩) 1 1] 53) = X := ⟨_, rfl⟩
                  have hx2 : Below wr.heap.size wr X2 := by rw [← hX2]; exact ((Below.refl _ _).alloc (Nat.le_refl _) _).alloc (by simp) _
                  have hob : OwnT X2 w6.heap.size (some ⟨wr.heap.size, 0, none⟩) 1 1 (oneL u v k) := by
                    have h : Blk X2 wr.heap.size 51 #[.int .i64 4, .int .i64 (k : Int)] := by rw [← hX2]; exact (Blk.made wr _ _).alloc _
                    exact ⟨rfl, .inr ⟨wr.heap.size, 1, _, rfl, hsr, h, Nat.le_refl _, by decide, rfl, by unfold oneL; rw [if_neg hku]; rfl⟩⟩
                  have hcl : X2.cell? ⟨wr.heap.size + 1, 0, none⟩ = some (.slice (some ⟨wr.heap.size, 0, none⟩) 1 1) := by
                    have h : Blk X2 (wr.heap.size + 1) 53 #[.slice (some ⟨wr.heap.size, 0, none⟩) 1 1] := by rw [← hX2]; exact Blk.made' (by simp)
                    exact h.cell 0
                  have hv2' := own_below hv2 hx2 (fun k hk => (hv2.lt k hk).2)
                  have hv3' : ∀ i, i < k → ∃ gi ci, vals[i]? = some (.slice (some ⟨gi, 0, none⟩) ((onesL u v k).getD i []).length ci) ∧ OwnT X2 w6.heap.size (some ⟨gi, 0, none⟩) ((onesL u v k).getD i []).length ci ((onesL u v k).getD i []) ∧ ((onesL u v k).getD i []).length ≤ 25 := fun i hi => by
                    obtain ⟨gi, ci, q1, q2, q3⟩ := hv3 i hi
                    exact ⟨gi, ci, q1, own_below' q2 hx2, q3⟩
                  have hs2 := hx2.size
                  have HX2 := Lib.hid (HBR.out.trans (hx2.mono hsr))
                  go_wp2_with (at_builtin; refine wpList_append_own _ rfl (.tmp 76) (.tmp 81) 49 rfl w6.heap.size 53 i1 (.agg #[.slice none 0 0]) 1 24 Tryz.underlying49 hj hy0 hy1 hy2 rfl (by decide) (.slice (some ⟨gk, 0, none⟩) k ck) k vals rfl hv2' ⟨wr.heap.size + 1, 0, none⟩ 1 1 [.slice (some ⟨wr.heap.size, 0, none⟩) 1 1] rfl rfl (fun j u hu => by match j with | 0 => (injection hu with hu; subst hu; exact hcl) | _ + 1 => cases hu) (fun u hu => by simp at hu; subst hu; rfl) (by unfold maxLen; omega) (by omega) (by omega) ?_; intro v' w3 hown' hgrow hnil)
                  obtain ⟨g2, cap2, rfl⟩ : ∃ g' cap', v' = .slice (some ⟨g', 0, none⟩) (k + 1) cap' := by
                    rcases hown'.2 with ⟨h0, _⟩ | ⟨g', cap', _, h0, _⟩
                    · have := (hnil.1 h0).1
                      cases this
                    · exact ⟨g', cap', h0⟩
                  have HD3 : Hid (LvlD w3 w6.heap.size g2 (k + 1) cap2 (onesL u v (k + 1))) := by
                    show LvlD _ _ _ _ _ _
                    rw [onesL_more]
                    exact lvlD_push hl hown' hv2' hv3' hob (show (1 : Nat) ≤ 25 by decide) hgrow
                  have HB3 : Hid (Below w6.heap.size w6 w3) := HX2.out.grown hgrow (by omega) (fun x h => (hv2'.lt x h).1)
                  clear hown' hgrow hnil hv2' hv3' hob hcl
                  go_wp2
                  go_roundw
                  case rel => exact ⟨k + 1, g2, cap2, by omega, by go_num, rfl, HD3.out, HB3.out⟩
                  case measure => simp [intOf]; omega
              · have hkn : ¬ (k : Int) < 5 := by omega
                obtain ⟨wx, hwx⟩ : ∃ X, X = wr := ⟨_, rfl⟩
                subst hwx
                have hk5 : k = 5 := by omega
                have HD5 : Hid (LvlD wx w6.heap.size gk k ck (onesL u v 5)) := by have h := HD.out; rw [hk5] at h ⊢; exact h
                have hbr := HBR.out
                clear HD HBR hk5
                have HB7 := Lib.hid (HB6.out.trans (hbr.mono HB6.out.size))
                have Rl7 := Lib.hid (own_below' Rl6.out hbr)
                have Ra7 := Lib.hid (own_below' Ra6.out hbr)
                have Rb7 := Lib.hid (own_below' Rb6.out hbr)
                clear hbr Rl6 Ra6 Rb6 HB6
                have HSA := Lib.hid (substR_one hu5 hv5 OA.out)
                have HSB := Lib.hid (substR_one hu5 hv5 OB.out)
                have HLE := Lib.hid (one_le (l := l) (a := la) (b := lb) hu5 hv5)
                have hcz := consOk_snoc HC.out (by rw [HLL.out]; exact hm23) (cOk_same hu5 hv5)
                have HEQ := Lib.hid (one_eq hu5 hv5 hcz OA.out)
                clear hcz
                have hlx : (la.map (renT u v)).length ≤ 24 := by rw [List.length_map]; exact (level_len OA.out rfl).2
                have hly : (lb.map (renT u v)).length ≤ 24 := by rw [List.length_map]; exact (level_len OB.out rfl).2
                obtain ⟨qx, hqx⟩ : ∃ q, la.map (renT u v) = q := ⟨_, rfl⟩
                obtain ⟨qy, hqy⟩ : ∃ q, lb.map (renT u v) = q := ⟨_, rfl⟩
                rw [hqx] at HSA HLE HEQ hlx
                rw [hqy] at HSB HLE hly
                obtain ⟨nx, hnx⟩ : ∃ q, qx.length = q := ⟨_, rfl⟩
                obtain ⟨ny, hny⟩ : ∃ q, qy.length = q := ⟨_, rfl⟩
                rw [hnx] at hlx
                rw [hny] at hly
                have Nx := Lib.hid hnx
                have Ny := Lib.hid hny
                clear hqx hqy hnx hny
                have HD6p := HD5
                go_wp2_with fail
                refine (implSubst_any wx wx.heap.size Aa na ca la (some ⟨gk, 0, none⟩) k ck (onesL u v 5) T pv (Nat.lt_of_lt_of_le h0 (Nat.le_trans hB HB7.out.size)) (Nat.le_refl _) (OwnT.reads Ra7.out) (by omega) HD5.out.reads (HD5.out.bulk (by omega)) (hE.below (HB7.out.mono hB) h0)).mono ?_
                rintro e w8 ⟨A8, c8, rfl, ho, hb'⟩
                have HB8 := Lib.hid (HB7.out.trans (hb'.mono HB7.out.size))
                have Rl8 := Lib.hid (own_below' Rl7.out hb')
                have Ra8 := Lib.hid (own_below' Ra7.out hb')
                have Rb8 := Lib.hid (own_below' Rb7.out hb')
                rw [HSA.out] at ho ⊢
                simp only [Option.getD_some, Option.isSome_some] at ho ⊢
                rw [Nx.out] at ho ⊢
                have Rx8 := Lib.hid (own_base (base' := w.heap.size) ho HB7.out.size)
                have HD6 := Lib.hid (HD5.out.below hb')
                clear hb' Rl7 Ra7 Rb7 HB7
                clear ho
                go_wp2_with fail
                refine (implSubst_any w8 w8.heap.size Ab nb cb lb (some ⟨gk, 0, none⟩) k ck (onesL u v 5) T pv (Nat.lt_of_lt_of_le h0 (Nat.le_trans hB HB8.out.size)) (Nat.le_refl _) (OwnT.reads Rb8.out) (by omega) HD6.out.reads (HD6.out.bulk (by omega)) (hE.below (HB8.out.mono hB) h0)).mono ?_
                rintro e w9 ⟨A9, c9, rfl, ho, hb'⟩
                have HB9 := Lib.hid (HB8.out.trans (hb'.mono HB8.out.size))
                have Rl9 := Lib.hid (own_below' Rl8.out hb')
                have Ra9 := Lib.hid (own_below' Ra8.out hb')
                have Rb9 := Lib.hid (own_below' Rb8.out hb')
                have Rx9 := Lib.hid (own_below' Rx8.out hb')
                rw [HSB.out] at ho ⊢
                simp only [Option.getD_some, Option.isSome_some] at ho ⊢
                rw [Ny.out] at ho ⊢
                have Ry9 := Lib.hid (own_base (base' := w.heap.size) ho HB8.out.size)
                clear hb' Rl8 Ra8 Rb8 Rx8 HB8
                clear ho
                obtain ⟨lz, hlz⟩ : ∃ lz, l ++ [((u : Int), (2 : Int), (v : Int))] = lz := ⟨_, rfl⟩
                rw [hlz] at HLE HEQ
                have HLZ := Lib.hid hlz
                clear hlz
                have hcl : (conCells l).length = m * 3 := by rw [conCells_len, HLL.out]
                have hrl := OwnC.reads Rl9.out
                have hbX0 : Below w9.heap.size w9 w9 := Below.refl _ _
                have hoA0 : ∀ X : World, OwnC (X.alloc (.cells #[] 41)) X.heap.size (some ⟨X.heap.size, 0, none⟩) 0 0 [] := fun X => World.ownsRow_made X #[] 0 (Nat.le_refl _) (by simp [maxLen]) (by simp)
                go_wp2_with (at_builtin; first
                  | (refine wpList_append_own _ rfl (.tmp 95) (.tmp 96) 24 rfl w9.heap.size 41 i0 (.agg #[.int .i64 0, .int .i64 0, .int .i64 0]) 3 24 Tryz.underlying24 hi hz0 hz1 hz2 rfl (by decide) (.slice (some ⟨w9.heap.size, 0, none⟩) 0 0) 0 (conCells []) rfl (hoA0 w9) ⟨g, 0, none⟩ m cap (conCells l) rfl hcl (con_news (hrl.below (hbX0.alloc hbX0.size _))) (conCells_one l) (by unfold maxLen; omega) (by omega) (by simp) ?_; intro v' y0 hown' hgrow hnil; obtain ⟨p0, r0, rfl⟩ := con_take hown' hnil; have hbY0 : Below w9.heap.size w9 y0 := ((Below.refl _ _).alloc (Nat.le_refl _) _).grown hgrow (by simp) (fun k h => by have h' : w9.heap.size = k := (by simpa [Value.ownBlock] using h); omega); have hoY0 : OwnC y0 w9.heap.size (some ⟨p0, 0, none⟩) m r0 l := con_zero hown'; clear hown' hgrow hnil)
                  | (refine wpList_append_own _ rfl (.tmp 97) (.tmp 101) 24 rfl w9.heap.size 41 i0 (.agg #[.int .i64 0, .int .i64 0, .int .i64 0]) 3 24 Tryz.underlying24 hi hz0 hz1 hz2 rfl (by decide) (.slice (some ⟨p0, 0, none⟩) m r0) m (conCells l) rfl (hoY0.alloc _) ⟨y0.heap.size, 0, none⟩ 1 1 (conCells [((u : Int), 2, (v : Int))]) rfl rfl (con_new y0 (u : Int) 2 (v : Int)) (conCells_one _) (by unfold maxLen; omega) (by omega) (by have := hbY0.size; simp; omega) ?_; intro v' w10 hown' hgrow hnil; obtain ⟨q0, s0, rfl⟩ := con_more hown'; have hbZ0 : Below w9.heap.size w9 w10 := (hbY0.alloc hbY0.size _).grown hgrow (by have := hbY0.size; simp; omega) (fun x h => (hoY0.lt x h).1); have hoZ0 : OwnC w10 w9.heap.size (some ⟨q0, 0, none⟩) (m + 1) s0 (l ++ [((u : Int), 2, (v : Int))]) := con_snoc hown'; have hbX1 : Below w9.heap.size w9 w10 := hbX0.trans (hbZ0.mono hbX0.size); clear hown' hgrow hnil))
                have HB10 := Lib.hid (HB9.out.trans (hbX1.mono HB9.out.size))
                have Rl10 := Lib.hid (own_below' Rl9.out hbX1)
                have Ra10 := Lib.hid (own_below' Ra9.out hbX1)
                have Rb10 := Lib.hid (own_below' Rb9.out hbX1)
                have Rx10 := Lib.hid (own_below' Rx9.out hbX1)
                have Ry10 := Lib.hid (own_below' Ry9.out hbX1)
                have hbL0 : Below w10.heap.size w10 w10 := Below.refl _ _
                have Rz10 : Hid (OwnC w10 w.heap.size (some ⟨q0, 0, none⟩) (m + 1) s0 lz) := by
                  show OwnC _ _ _ _ _ _
                  rw [← HLZ.out]
                  exact own_base (own_below' hoZ0 hbL0) (Nat.le_trans HB9.out.size hbX0.size)
                clear hcl hrl hoA0 HB9 Rl9 Ra9 Rb9 Rx9 Ry9 hbY0 hoY0 hbZ0 hoZ0 hbL0 hbX0 hbX1
                go_wp2_with fail
                refine (implEqUnder_any w10 w10.heap.size (some ⟨q0, 0, none⟩) (m + 1) s0 lz Aa na ca la A8 nx c8 qx T pv Tc pc (Nat.lt_of_lt_of_le h0 (Nat.le_trans hB HB10.out.size)) (Nat.lt_of_lt_of_le h0c (Nat.le_trans hB HB10.out.size)) (Nat.le_refl _) (.inl ⟨_, _, rfl⟩) (OwnC.reads Rz10.out) (by omega) (OwnT.reads Ra10.out) (by omega) (OwnT.reads Rx10.out) (by omega) (hE.below (HB10.out.mono hB) h0) (hEc.below (HB10.out.mono hB) h0c)).mono ?_
                rintro e w11 ⟨rfl, hb⟩
                have HB11 := Lib.hid (HB10.out.trans (hb.mono HB10.out.size))
                have Rl11 := Lib.hid (own_below' Rl10.out hb)
                have Ra11 := Lib.hid (own_below' Ra10.out hb)
                have Rb11 := Lib.hid (own_below' Rb10.out hb)
                have Rx11 := Lib.hid (own_below' Rx10.out hb)
                have Ry11 := Lib.hid (own_below' Ry10.out hb)
                have Rz11 := Lib.hid (own_below' Rz10.out hb)
                clear hb Rl10 Ra10 Rb10 Rx10 Ry10 Rz10 HB10
                rw [HEQ.out]
                obtain ⟨M, hM⟩ : ∃ M, leUnR lz la lb = M := ⟨_, rfl⟩
                rw [hM] at HLE
                have HM := Lib.hid hM
                clear hM
                have hbm : (M == M) = true := by simp
                go_wp2_with fail
                refine (implLeUnder_any w11 w11.heap.size (some ⟨q0, 0, none⟩) (m + 1) s0 lz Aa na ca la Ab nb cb lb T pv Tc pc (Nat.lt_of_lt_of_le h0 (Nat.le_trans hB HB11.out.size)) (Nat.lt_of_lt_of_le h0c (Nat.le_trans hB HB11.out.size)) (Nat.le_refl _) (.inl ⟨_, _, rfl⟩) (OwnC.reads Rz11.out) (by omega) (OwnT.reads Ra11.out) (by omega) (OwnT.reads Rb11.out) (by omega) (hE.below (HB11.out.mono hB) h0) (hEc.below (HB11.out.mono hB) h0c)).mono ?_
                rintro e w12 ⟨rfl, hb⟩
                have HB12 := Lib.hid (HB11.out.trans (hb.mono HB11.out.size))
                have Rl12 := Lib.hid (own_below' Rl11.out hb)
                have Ra12 := Lib.hid (own_below' Ra11.out hb)
                have Rb12 := Lib.hid (own_below' Rb11.out hb)
                have Rx12 := Lib.hid (own_below' Rx11.out hb)
                have Ry12 := Lib.hid (own_below' Ry11.out hb)
                have Rz12 := Lib.hid (own_below' Rz11.out hb)
                clear hb Rl11 Ra11 Rb11 Rx11 Ry11 Rz11 HB11
                rw [HM.out]
                go_wp2_with fail
                refine (implLeUnder_any w12 w12.heap.size (some ⟨q0, 0, none⟩) (m + 1) s0 lz A8 nx c8 qx A9 ny c9 qy T pv Tc pc (Nat.lt_of_lt_of_le h0 (Nat.le_trans hB HB12.out.size)) (Nat.lt_of_lt_of_le h0c (Nat.le_trans hB HB12.out.size)) (Nat.le_refl _) (.inl ⟨_, _, rfl⟩) (OwnC.reads Rz12.out) (by omega) (OwnT.reads Rx12.out) (by omega) (OwnT.reads Ry12.out) (by omega) (hE.below (HB12.out.mono hB) h0) (hEc.below (HB12.out.mono hB) h0c)).mono ?_
                rintro e w13 ⟨rfl, hb⟩
                have HB13 := Lib.hid (HB12.out.trans (hb.mono HB12.out.size))
                have Rl13 := Lib.hid (own_below' Rl12.out hb)
                have Ra13 := Lib.hid (own_below' Ra12.out hb)
                have Rb13 := Lib.hid (own_below' Rb12.out hb)
                have Rx13 := Lib.hid (own_below' Rx12.out hb)
                have Ry13 := Lib.hid (own_below' Ry12.out hb)
                have Rz13 := Lib.hid (own_below' Rz12.out hb)
                clear hb Rl12 Ra12 Rb12 Rx12 Ry12 Rz12 HB12
                rw [HLE.out]
                go_wp2
                go_ret
                exact ⟨rfl, HB13.out⟩
end Go.Proofs.YtgebjnoicgmdoaaGreatDoor
