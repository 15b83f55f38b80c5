/- The law FnSubstUnder: the walk. -/
import Derived.Test.YtgebjnoicgmdoaaDoorRegInvIn
import Derived.Test.YtgebjnoicgmdoaaDoorHold2
import Derived.Test.YtgebjnoicgmdoaaDoorSide

namespace Go.Proofs.YtgebjnoicgmdoaaDoor
open Go.RowKit
open Cs (Cn)

set_option maxRecDepth 100000 in
set_option maxHeartbeats 64000000 in
theorem fnSubstUnder_any (w : World) (B : Nat) (A : Option Addr) (n c : Nat) (T : TypeId) (pv : Value) (Tc : TypeId) (pc : Value) (h0 : 0 < B) (h0c : 1 < B) (hB : B ≤ w.heap.size)
    (hb : BytR w B A n) (_hnc : n ≤ c) (hE : ErrAt w T pv) (hEc : ErrCAt w Tc pc) :
    Calls Tryd.prog 3 #[.slice A n c] w fun e w' => e = .returned (.bool true) ∧ Below w.heap.size w w' := by
  obtain ⟨i0, hi, hz0, hz1, hz2⟩ := info_parts info_int
  by_cases hbig : 1048576 < (n : Int)
  · go_enter Tryd.func3, Tryd.ntmps3
    go_wp2_with fail
    refine (big_any w A n c).mono ?_
    rintro e w' ⟨rfl, rfl⟩
    rw [decide_eq_true (by omega)]
    go_wp2
    go_ret
    exact ⟨rfl, Below.refl _ _⟩
  · have hn : n ≤ 1048576 := by omega
    go_enter Tryd.func3, Tryd.ntmps3
    go_wp2_with fail
    refine (big_any w A n c).mono ?_
    rintro e w' ⟨rfl, rfl⟩
    rw [decide_eq_false (by omega)]
    have HB0 : Hid (Below w.heap.size w w) := Below.refl _ _
    go_wp2_with fail
    refine (drawConsSubst_any w B A n c hB hb hn).mono ?_
    rintro e w1 ⟨g, cap, n0, l, g2, cap2, m, ls, rfl, hn0, hm6, hol, hod, hb1⟩
    have HB1 := Lib.hid hb1
    have Rl1 := Lib.hid hol
    have HD1 := Lib.hid hod
    have HLL : Hid (l.length = n0) := (OwnC.reads hol).1
    have HLS : Hid (ls.length = m) := hod.1
    clear hol hod hb1
    cases hR : csubR l ls with
    | none =>
      have HR := Lib.hid hR
      clear hR
      go_wp2_with fail
      refine ((implCSub_any w1 w1.heap.size (some ⟨g, 0, none⟩) n0 cap l (some ⟨g2, 0, none⟩) m cap2 ls T pv (Nat.lt_of_lt_of_le h0 (Nat.le_trans hB HB1.out.size)) (Nat.le_refl _) (OwnC.reads Rl1.out) (by omega) HD1.out.reads (by omega) (HD1.out.bulk (by omega)) (hE.below (HB1.out.mono hB) h0)).mono fun e w' h => csbW_of (ps := []) (m := 0) (ok := false) (HR.out ▸ h) rfl rfl rfl).mono ?_
      rintro e w2 ⟨xp, xc, xb, xr, rfl, hpp, hb'⟩
      have HB2 := Lib.hid (HB1.out.trans (hb'.mono HB1.out.size))
      have Rl2 := Lib.hid (own_below' Rl1.out hb')
      have HD2 := Lib.hid (HD1.out.below hb')
      clear hb' Rl1 HB1 HD1
      clear hpp
      go_wp2_with fail
      refine ((specCSub_any w2 w2.heap.size (some ⟨g, 0, none⟩) n0 cap l (some ⟨g2, 0, none⟩) m cap2 ls (Nat.le_refl _) (OwnC.reads Rl2.out) (by omega) HD2.out.reads (by omega) (HD2.out.bulk (by omega))).mono fun e w' h => csbW_of (ps := []) (m := 0) (ok := false) (HR.out ▸ h) rfl rfl rfl).mono ?_
      rintro e w3 ⟨yp, yc, yb, yr, rfl, hpp, hb'⟩
      have HB3 := Lib.hid (HB2.out.trans (hb'.mono HB2.out.size))
      have Rl3 := Lib.hid (own_below' Rl2.out hb')
      have HD3 := Lib.hid (HD2.out.below hb')
      clear hb' Rl2 HB2 HD2
      clear hpp
      go_wp2
      go_ret
      exact ⟨rfl, HB3.out⟩
    | some ps =>
      have HR := Lib.hid hR
      obtain ⟨mp, hmp⟩ : ∃ q, ps.length = q := ⟨_, rfl⟩
      have HM := Lib.hid hmp
      have HLN : Hid (mp ≤ 48 ∧ ∀ i, i < 2 * mp → (toks ps i).length ≤ 24) := by have h := csub_len l ls; rw [hR] at h; simp only [Option.getD_some] at h; rw [hmp] at h; exact h
      have HOK : Hid (∀ k, k < mp → Lv.levelOk (ps.getD k pr0).1 = true ∧ Lv.levelOk (ps.getD k pr0).2.2 = true) := fun k hk => csub_ok hR (by rw [hmp]; exact hk)
      have hm48 := HLN.out.1
      have hbb : ((mp : Int) != (mp : Int)) = false := by simp
      have hbe : ((mp : Int) == (mp : Int)) = true := by simp
      clear hR hmp
      go_wp2_with fail
      refine ((implCSub_any w1 w1.heap.size (some ⟨g, 0, none⟩) n0 cap l (some ⟨g2, 0, none⟩) m cap2 ls T pv (Nat.lt_of_lt_of_le h0 (Nat.le_trans hB HB1.out.size)) (Nat.le_refl _) (OwnC.reads Rl1.out) (by omega) HD1.out.reads (by omega) (HD1.out.bulk (by omega)) (hE.below (HB1.out.mono hB) h0)).mono fun e w' h => csbW_of (ps := ps) (m := mp) (ok := true) (HR.out ▸ h) rfl HM.out rfl).mono ?_
      rintro e w2 ⟨xp, xc, xb, xr, rfl, hpp, hb'⟩
      have HB2 := Lib.hid (HB1.out.trans (hb'.mono HB1.out.size))
      have Rl2 := Lib.hid (own_below' Rl1.out hb')
      have HD2 := Lib.hid (HD1.out.below hb')
      have HP2 := Lib.hid hpp
      clear hb' Rl1 HB1 HD1
      clear hpp
      go_wp2_with fail
      refine ((specCSub_any w2 w2.heap.size (some ⟨g, 0, none⟩) n0 cap l (some ⟨g2, 0, none⟩) m cap2 ls (Nat.le_refl _) (OwnC.reads Rl2.out) (by omega) HD2.out.reads (by omega) (HD2.out.bulk (by omega))).mono fun e w' h => csbW_of (ps := ps) (m := mp) (ok := true) (HR.out ▸ h) rfl HM.out rfl).mono ?_
      rintro e w3 ⟨yp, yc, yb, yr, rfl, hpp, hb'⟩
      have HB3 := Lib.hid (HB2.out.trans (hb'.mono HB2.out.size))
      have Rl3 := Lib.hid (own_below' Rl2.out hb')
      have HD3 := Lib.hid (HD2.out.below hb')
      have HP3 := Lib.hid (HP2.out.below hb')
      clear hb' Rl2 HB2 HD2 HP2
      clear hpp
      go_wp2_with fail
      refine (envs_any w3 B A n c 3 4 (Nat.le_trans hB HB3.out.size) (hb.below (HB3.out.mono hB)) hn (by omega) (by omega)).mono ?_
      rintro e w4 ⟨gx, capx, envx, rfl, h5x, hex, ho, hb'⟩
      have HB4 := Lib.hid (HB3.out.trans (hb'.mono HB3.out.size))
      have Rl4 := Lib.hid (own_below' Rl3.out hb')
      have HD4 := Lib.hid (HD3.out.below hb')
      have HP4 := Lib.hid (HP3.out.below hb')
      have Rx4 := Lib.hid (own_base (base' := w.heap.size) ho HB3.out.size)
      have HEx := Lib.hid (env_small h5x (by omega) hex)
      have H5x := Lib.hid h5x
      have HE4 : Hid (∀ z ∈ envx, 0 ≤ z ∧ z ≤ (4 : Int)) := hex
      clear hb' Rl3 HB3 HD3 HP3
      clear ho h5x hex
      have hsK := HB4.out.size
      have hmk : ∀ wx, (Instr.makeSlice 31 (.int .i64 5) (.int .i64 5)).run Tryd.prog wx = .ok (.slice (some ⟨wx.heap.size, 0, none⟩) 5 5) (wx.alloc (.cells (madeCells #[Value.int .i64 0] 5) 3)) := by
        intro wx
        have hr := run_make (P := Tryd.prog) wx 31 3 i0 _ Tryd.underlying31 hi hz0 .i64 .i64 5 5 (by omega) (by omega) (by rw [hz2]; omega) (by omega)
        simp only [hz1] at hr
        exact hr
      obtain ⟨W0, hW0⟩ : ∃ W, w4.alloc (.cells (madeCells #[Value.int .i64 0] 5) 3) = W := ⟨_, rfl⟩
      have HO0 : Hid (OwnI W0 w4.heap.size (some ⟨w4.heap.size, 0, none⟩) 5 5 (inE envx ls 0)) := by
        show OwnI _ _ _ _ _ _
        have hbk : Blk W0 w4.heap.size 3 (madeCells #[Value.int .i64 0] 5) := by rw [← hW0]; exact Blk.made _ _ _
        exact own_whole hbk (Nat.le_refl _) (by omega) (by rw [inE_zero]; kernel_rfl)
      have HBW : Hid (Below w4.heap.size w4 W0) := by show Below _ _ _; rw [← hW0]; exact (Below.refl _ _).alloc (Nat.le_refl _) _
      go_wp2
      clear hmk hW0
      go_loopw [11] (fun i wr => ∃ k : Nat, k ≤ 5 ∧ i = .int .i64 k ∧ Hid (OwnI wr w4.heap.size (some ⟨w4.heap.size, 0, none⟩) 5 5 (inE envx ls k)) ∧ Hid (Below w4.heap.size w4 wr)) (fun i _ => 5 - (intOf i).toNat)
      case atStart => exact ⟨0, by omega, rfl, HO0.out, HBW.out⟩
      case round =>
        clear HO0 HBW
        obtain ⟨k, hk, rfl, HO, HBR⟩ := hrel
        obtain ⟨wx, hwx⟩ : ∃ X, X = wr := ⟨_, rfl⟩
        subst hwx
        have hsr := HBR.out.size
        have hbr := HBR.out
        have HB5 := Lib.hid (HB4.out.trans (hbr.mono HB4.out.size))
        have Rl5 := Lib.hid (own_below' Rl4.out hbr)
        have Rx5 := Lib.hid (own_below' Rx4.out hbr)
        have HD5 := Lib.hid (HD4.out.below hbr)
        have HP5 := Lib.hid (HP4.out.below hbr)
        clear hbr Rl4 Rx4 HB4 HD4 HP4
        by_cases hlt : k < 5
        · have hki : (k : Int) < 5 := by omega
          by_cases hlm : k < m
          · have hmi : (k : Int) < (m : Int) := by omega
            obtain ⟨hl0, vals, hv2, hv3⟩ := HD5.out
            obtain ⟨gi, ci, q1, q2, q3⟩ := hv3 k hlm
            obtain ⟨c1, _⟩ := own_spot hv2 q1
            obtain ⟨lk, hlk⟩ : ∃ q, ls.getD k [] = q := ⟨_, rfl⟩
            rw [hlk] at c1 q2 q3
            obtain ⟨L, hL⟩ : ∃ L, lk.length = L := ⟨_, rfl⟩
            rw [hL] at c1 q2 q3
            have RT := OwnT.reads q2
            have HLK := Lib.hid hlk
            clear hv2 hv3 q1 q2 hlk hL hl0
            go_wp2_with fail
            refine (levelEval_any wx wx.heap.size (some ⟨gi, 0, none⟩) _ L ci 5 capx envx lk T pv (Nat.lt_of_lt_of_le h0 (Nat.le_trans hB HB5.out.size)) (Nat.le_refl _) RT (by omega) (OwnI.reads Rx5.out) (by omega) (hE.below (HB5.out.mono hB) h0)).mono ?_
            rintro e w6 ⟨rfl, hb'⟩
            rw [eval_any HEx.out.1]
            have HO2 := own_below' HO.out hb'
            have hb2 := HBR.out.trans (hb'.mono hsr)
            obtain ⟨s1, s2⟩ := own_spot HO2 (i := k) (u := .int .i64 0) (by rw [List.getElem?_map, inE_at envx ls hlt (Nat.le_refl k)]; rfl)
            have HST := Lib.hid (inE_set envx ls hlt)
            rw [HLK.out] at HST
            obtain ⟨z, hz⟩ : ∃ z, Dc.ev envx lk = z := ⟨_, rfl⟩
            rw [hz] at HST ⊢
            generalize Lv.levelOk lk = zb
            have HO3 : Hid (OwnI (w6.setCell ⟨w4.heap.size, k, none⟩ (.int .i64 z)) w4.heap.size (some ⟨w4.heap.size, 0, none⟩) 5 5 (inE envx ls (k + 1))) := by
              have := own_set HO2 k (.int .i64 z)
              rw [← List.map_set, HST.out] at this
              exact this
            have HB3 : Hid (Below w4.heap.size w4 (w6.setCell ⟨w4.heap.size, k, none⟩ (.int .i64 z))) := hb2.setCell (p := ⟨w4.heap.size, k, none⟩) (Nat.le_refl _) _
            clear hz HO2 hb2 hb' RT c1
            go_wp2
            go_roundw
            case rel => exact ⟨k + 1, by omega, by go_num, HO3.out, HB3.out⟩
            case measure => simp [intOf]; omega
          · have hmi : ¬ (k : Int) < (m : Int) := by omega
            have HI : Hid (OwnI wx w4.heap.size (some ⟨w4.heap.size, 0, none⟩) 5 5 (inE envx ls 5)) := by
              show OwnI _ _ _ _ _ _
              rw [← inE_end (k := k) (by rw [HLS.out]; omega)]
              exact HO.out
            have Ri5 := Lib.hid (own_base (base' := w.heap.size) HI.out hsK)
            clear HI HO
            go_wp2
            go_loopw [13, 12] (fun i a wr => ∃ q : Nat, q ≤ mp ∧ i = .int .i64 q ∧ a = .bool ((ps.take q).all (prB envx)) ∧ Hid (Below wx.heap.size wx wr)) (fun i _ _ => mp - (intOf i).toNat)
            case atStart => exact ⟨0, Nat.zero_le _, rfl, rfl, Below.refl _ _⟩
            case round =>
              obtain ⟨q, hq, rfl, rfl, hbr⟩ := hrel
              have HBQ := hbr
              have hbr2 := hbr.out
              clear hbr
              have HB6 := Lib.hid (HB5.out.trans (hbr2.mono HB5.out.size))
              have Rl6 := Lib.hid (own_below' Rl5.out hbr2)
              have Rx6 := Lib.hid (own_below' Rx5.out hbr2)
              have Ri6 := Lib.hid (own_below' Ri5.out hbr2)
              have HD6 := Lib.hid (HD5.out.below hbr2)
              have HP6 := Lib.hid (HP5.out.below hbr2)
              clear hbr2 Rl5 Rx5 Ri5 HB5 HD5 HP5
              obtain ⟨α, hα⟩ : ∃ α, (ps.take q).all (prB envx) = α := ⟨_, rfl⟩
              rw [hα]
              have HAL := Lib.hid hα
              clear hα
              by_cases hqm : q < mp
              · have hqi : (q : Int) < (mp : Int) := by omega
                obtain ⟨gp, hgp⟩ := HP6.out.form (by omega)
                subst hgp
                have ra := OwnT.reads (HP6.out.row (2 * q) (by omega))
                have rb' := OwnT.reads (HP6.out.row (2 * q + 1) (by omega))
                have hla := HLN.out.2 (2 * q) (by omega)
                have hlb := HLN.out.2 (2 * q + 1) (by omega)
                have hok := HOK.out q hqm
                simp only [toks_a, toks_b] at ra rb' hla hlb
                have hnx0 : (ps.take (q + 1)).all (prB envx) = ((ps.take q).all (prB envx) && prB envx (ps.getD q pr0)) := by
                  rw [List.take_succ_eq_append_getElem (by rw [HM.out]; exact hqm), List.all_append, List.getD_eq_getElem?_getD, List.getElem?_eq_getElem (by rw [HM.out]; exact hqm)]
                  simp
                obtain ⟨t, ht⟩ : ∃ t, ps.getD q pr0 = t := ⟨_, rfl⟩
                rw [ht] at ra rb' hla hlb hok hnx0
                rw [HAL.out] at hnx0
                obtain ⟨x0, s0, y0⟩ := t
                have HTT := Lib.hid ht
                simp only at ra rb' hla hlb hok
                obtain ⟨nx, hnx⟩ : ∃ q, x0.length = q := ⟨_, rfl⟩
                obtain ⟨ny, hny⟩ : ∃ q, y0.length = q := ⟨_, rfl⟩
                rw [hnx] at ra hla
                rw [hny] at rb' hlb
                have HNX := Lib.hid hnx
                have HNY := Lib.hid hny
                have HRA := Lib.hid ra
                have HRB := Lib.hid rb'
                have EX := Lib.hid (evalU_ok HEx.out.1 hok.1)
                have EY := Lib.hid (evalU_ok HEx.out.1 hok.2)
                have HN0 := Lib.hid hnx0
                clear ht hnx hny ra rb' hok hnx0
                have hp6 := HP6.out
                obtain ⟨a0, a1, a2, _⟩ := hp6.spots hqm
                simp only [toks_a, toks_b] at a0 a1 a2
                rw [HTT.out] at a0 a1 a2
                simp only [HNX.out, HNY.out] at a0 a1 a2
                clear hp6
                go_wp2_with fail
                refine (levelEval_any wr wr.heap.size _ _ nx _ 5 capx envx x0 T pv (Nat.lt_of_lt_of_le h0 (Nat.le_trans hB HB6.out.size)) (Nat.le_refl _) HRA.out (by omega) (OwnI.reads Rx6.out) (by omega) (hE.below (HB6.out.mono hB) h0)).mono ?_
                rintro e w7 ⟨rfl, hb'⟩
                have HB7 := Lib.hid (HB6.out.trans (hb'.mono HB6.out.size))
                have Rl7 := Lib.hid (own_below' Rl6.out hb')
                have Rx7 := Lib.hid (own_below' Rx6.out hb')
                have Ri7 := Lib.hid (own_below' Ri6.out hb')
                have HD7 := Lib.hid (HD6.out.below hb')
                have HP7 := Lib.hid (HP6.out.below hb')
                have HRB2 := Lib.hid (HRB.out.below hb')
                have HBQ2 := Lib.hid (HBQ.out.trans (hb'.mono HBQ.out.size))
                have hsw := hb'.size
                rw [EX.out]
                clear a0 a1 a2
                clear hb' Rl6 Rx6 Ri6 HB6 HD6 HP6
                have hp7 := HP7.out
                obtain ⟨a0, a1, a2, _⟩ := hp7.spots hqm
                simp only [toks_a, toks_b] at a0 a1 a2
                rw [HTT.out] at a0 a1 a2
                simp only [HNX.out, HNY.out] at a0 a1 a2
                clear hp7
                go_wp2_with fail
                refine (levelEval_any w7 w7.heap.size _ _ ny _ 5 capx envx y0 T pv (Nat.lt_of_lt_of_le h0 (Nat.le_trans hB HB7.out.size)) (Nat.le_refl _) (HRB2.out.more hsw) (by omega) (OwnI.reads Rx7.out) (by omega) (hE.below (HB7.out.mono hB) h0)).mono ?_
                rintro e w8 ⟨rfl, hb'⟩
                have HB8 := Lib.hid (HB7.out.trans (hb'.mono HB7.out.size))
                have Rl8 := Lib.hid (own_below' Rl7.out hb')
                have Rx8 := Lib.hid (own_below' Rx7.out hb')
                have Ri8 := Lib.hid (own_below' Ri7.out hb')
                have HD8 := Lib.hid (HD7.out.below hb')
                have HP8 := Lib.hid (HP7.out.below hb')
                have HBQ3 := Lib.hid (HBQ2.out.trans (hb'.mono HBQ2.out.size))
                rw [EY.out]
                clear a0 a1 a2
                clear hb' Rl7 Rx7 Ri7 HB7 HD7 HP7
                have hp8 := HP8.out
                obtain ⟨a0, a1, a2, _⟩ := hp8.spots hqm
                simp only [toks_a, toks_b] at a0 a1 a2
                rw [HTT.out] at a0 a1 a2
                simp only [HNX.out, HNY.out] at a0 a1 a2
                clear hp8
                have hpr : prB envx (x0, s0, y0) = (decide (Dc.ev envx x0 < Dc.ev envx y0) || (!s0 && (Dc.ev envx x0 == Dc.ev envx y0))) := rfl
                have hN0 := HN0.out
                rw [hpr] at hN0
                generalize Dc.ev envx x0 = X at hN0 ⊢
                generalize Dc.ev envx y0 = Y at hN0 ⊢
                clear hpr
                cases α with
                | false =>
                  have HN1 : Hid ((ps.take (q + 1)).all (prB envx) = false) := by show _ = _; rw [hN0]; rfl
                  clear hN0
                  go_wp2
                  go_roundw
                  case rel => exact ⟨q + 1, by omega, by go_num, by rw [HN1.out], HBQ3.out⟩
                  case measure => simp [intOf]; omega
                | true =>
                  by_cases hxy : X < Y
                  · have dxy : decide (X < Y) = true := decide_eq_true hxy
                    have HN1 : Hid ((ps.take (q + 1)).all (prB envx) = true) := by show _ = _; rw [hN0]; rw [dxy]; rfl
                    clear hN0
                    go_wp2
                    go_roundw
                    case rel => exact ⟨q + 1, by omega, by go_num, by rw [HN1.out], HBQ3.out⟩
                    case measure => simp [intOf]; omega
                  · have dxy : decide (X < Y) = false := decide_eq_false hxy
                    cases s0 with
                    | true =>
                      have HN1 : Hid ((ps.take (q + 1)).all (prB envx) = false) := by show _ = _; rw [hN0]; rw [dxy]; rfl
                      clear hN0
                      go_wp2
                      go_roundw
                      case rel => exact ⟨q + 1, by omega, by go_num, by rw [HN1.out], HBQ3.out⟩
                      case measure => simp [intOf]; omega
                    | false =>
                      by_cases hxe : X = Y
                      · have dxe : (X == Y) = true := by simpa using hxe
                        have HN1 : Hid ((ps.take (q + 1)).all (prB envx) = true) := by show _ = _; rw [hN0]; rw [dxy, dxe]; rfl
                        clear hN0
                        go_wp2
                        go_roundw
                        case rel => exact ⟨q + 1, by omega, by go_num, by rw [HN1.out], HBQ3.out⟩
                        case measure => simp [intOf]; omega
                      · have dxe : (X == Y) = false := by simpa using hxe
                        have HN1 : Hid ((ps.take (q + 1)).all (prB envx) = false) := by show _ = _; rw [hN0]; rw [dxy, dxe]; rfl
                        clear hN0
                        go_wp2
                        go_roundw
                        case rel => exact ⟨q + 1, by omega, by go_num, by rw [HN1.out], HBQ3.out⟩
                        case measure => simp [intOf]; omega
              · have hqn : ¬ (q : Int) < (mp : Int) := by omega
                have HAA : Hid (ps.all (prB envx) = α) := by show _ = _; rw [← HAL.out, List.take_of_length_le (by rw [HM.out]; omega)]
                have HCH := Lib.hid ((csub_hold H5x.out HE4.out HR.out).symm.trans HAA.out)
                have hba : (α == α) = true := by simp
                go_wp2_with fail
                refine (implConsHold_any wr wr.heap.size (some ⟨g, 0, none⟩) n0 cap l (some ⟨w4.heap.size, 0, none⟩) 5 5 (inE envx ls 5) (Nat.le_refl _) (OwnC.reads Rl6.out) (by omega) (OwnI.reads Ri6.out) (by omega)).mono ?_
                rintro e w7 ⟨rfl, hb⟩
                have HB7 := Lib.hid (HB6.out.trans (hb.mono HB6.out.size))
                have Rl7 := Lib.hid (own_below' Rl6.out hb)
                have Rx7 := Lib.hid (own_below' Rx6.out hb)
                have Ri7 := Lib.hid (own_below' Ri6.out hb)
                have HD7 := Lib.hid (HD6.out.below hb)
                have HP7 := Lib.hid (HP6.out.below hb)
                clear hb Rl6 Rx6 Ri6 HB6 HD6 HP6
                rw [HCH.out]
                obtain ⟨P, hP⟩ : ∃ P, pairsR [] ps = P := ⟨_, rfl⟩
                have HPP := Lib.hid hP
                clear hP
                go_wp2_with fail
                refine (implPairsUnder_any w7 w7.heap.size none 0 0 [] _ _ _ mp _ ps _ _ T pv Tc pc (Nat.lt_of_lt_of_le h0 (Nat.le_trans hB HB7.out.size)) (Nat.lt_of_lt_of_le h0c (Nat.le_trans hB HB7.out.size)) (Nat.le_refl _) (.inr ⟨rfl, rfl, rfl⟩) ⟨rfl, fun h => absurd h (by omega)⟩ (by omega) HP7.out HM.out (by omega) (fun i hi => Nat.le_trans (HLN.out.2 i hi) (by omega)) (hE.below (HB7.out.mono hB) h0) (hEc.below (HB7.out.mono hB) h0c)).mono ?_
                rintro e w8 ⟨rfl, hb⟩
                have HB8 := Lib.hid (HB7.out.trans (hb.mono HB7.out.size))
                have Rl8 := Lib.hid (own_below' Rl7.out hb)
                have Rx8 := Lib.hid (own_below' Rx7.out hb)
                have Ri8 := Lib.hid (own_below' Ri7.out hb)
                have HD8 := Lib.hid (HD7.out.below hb)
                have HP8 := Lib.hid (HP7.out.below hb)
                clear hb Rl7 Rx7 Ri7 HB7 HD7 HP7
                rw [HPP.out]
                cases P with
                | false =>
                  go_wp2
                  go_ret
                  exact ⟨rfl, HB8.out⟩
                | true =>
                  have hat : α = true := HAA.out.symm.trans (pairs_nil H5x.out HEx.out.2 HPP.out)
                  subst hat
                  go_wp2
                  go_ret
                  exact ⟨rfl, HB8.out⟩
        · have hki : ¬ (k : Int) < 5 := by omega
          have HI : Hid (OwnI wx w4.heap.size (some ⟨w4.heap.size, 0, none⟩) 5 5 (inE envx ls 5)) := by
            show OwnI _ _ _ _ _ _
            rw [← show inE envx ls k = inE envx ls 5 by rw [show k = 5 by omega]]
            exact HO.out
          have Ri5 := Lib.hid (own_base (base' := w.heap.size) HI.out hsK)
          clear HI HO
          go_wp2
          go_loopw [13, 12] (fun i a wr => ∃ q : Nat, q ≤ mp ∧ i = .int .i64 q ∧ a = .bool ((ps.take q).all (prB envx)) ∧ Hid (Below wx.heap.size wx wr)) (fun i _ _ => mp - (intOf i).toNat)
          case atStart => exact ⟨0, Nat.zero_le _, rfl, rfl, Below.refl _ _⟩
          case round =>
            obtain ⟨q, hq, rfl, rfl, hbr⟩ := hrel
            have HBQ := hbr
            have hbr2 := hbr.out
            clear hbr
            have HB6 := Lib.hid (HB5.out.trans (hbr2.mono HB5.out.size))
            have Rl6 := Lib.hid (own_below' Rl5.out hbr2)
            have Rx6 := Lib.hid (own_below' Rx5.out hbr2)
            have Ri6 := Lib.hid (own_below' Ri5.out hbr2)
            have HD6 := Lib.hid (HD5.out.below hbr2)
            have HP6 := Lib.hid (HP5.out.below hbr2)
            clear hbr2 Rl5 Rx5 Ri5 HB5 HD5 HP5
            obtain ⟨α, hα⟩ : ∃ α, (ps.take q).all (prB envx) = α := ⟨_, rfl⟩
            rw [hα]
            have HAL := Lib.hid hα
            clear hα
            by_cases hqm : q < mp
            · have hqi : (q : Int) < (mp : Int) := by omega
              obtain ⟨gp, hgp⟩ := HP6.out.form (by omega)
              subst hgp
              have ra := OwnT.reads (HP6.out.row (2 * q) (by omega))
              have rb' := OwnT.reads (HP6.out.row (2 * q + 1) (by omega))
              have hla := HLN.out.2 (2 * q) (by omega)
              have hlb := HLN.out.2 (2 * q + 1) (by omega)
              have hok := HOK.out q hqm
              simp only [toks_a, toks_b] at ra rb' hla hlb
              have hnx0 : (ps.take (q + 1)).all (prB envx) = ((ps.take q).all (prB envx) && prB envx (ps.getD q pr0)) := by
                rw [List.take_succ_eq_append_getElem (by rw [HM.out]; exact hqm), List.all_append, List.getD_eq_getElem?_getD, List.getElem?_eq_getElem (by rw [HM.out]; exact hqm)]
                simp
              obtain ⟨t, ht⟩ : ∃ t, ps.getD q pr0 = t := ⟨_, rfl⟩
              rw [ht] at ra rb' hla hlb hok hnx0
              rw [HAL.out] at hnx0
              obtain ⟨x0, s0, y0⟩ := t
              have HTT := Lib.hid ht
              simp only at ra rb' hla hlb hok
              obtain ⟨nx, hnx⟩ : ∃ q, x0.length = q := ⟨_, rfl⟩
              obtain ⟨ny, hny⟩ : ∃ q, y0.length = q := ⟨_, rfl⟩
              rw [hnx] at ra hla
              rw [hny] at rb' hlb
              have HNX := Lib.hid hnx
              have HNY := Lib.hid hny
              have HRA := Lib.hid ra
              have HRB := Lib.hid rb'
              have EX := Lib.hid (evalU_ok HEx.out.1 hok.1)
              have EY := Lib.hid (evalU_ok HEx.out.1 hok.2)
              have HN0 := Lib.hid hnx0
              clear ht hnx hny ra rb' hok hnx0
              have hp6 := HP6.out
              obtain ⟨a0, a1, a2, _⟩ := hp6.spots hqm
              simp only [toks_a, toks_b] at a0 a1 a2
              rw [HTT.out] at a0 a1 a2
              simp only [HNX.out, HNY.out] at a0 a1 a2
              clear hp6
              go_wp2_with fail
              refine (levelEval_any wr wr.heap.size _ _ nx _ 5 capx envx x0 T pv (Nat.lt_of_lt_of_le h0 (Nat.le_trans hB HB6.out.size)) (Nat.le_refl _) HRA.out (by omega) (OwnI.reads Rx6.out) (by omega) (hE.below (HB6.out.mono hB) h0)).mono ?_
              rintro e w7 ⟨rfl, hb'⟩
              have HB7 := Lib.hid (HB6.out.trans (hb'.mono HB6.out.size))
              have Rl7 := Lib.hid (own_below' Rl6.out hb')
              have Rx7 := Lib.hid (own_below' Rx6.out hb')
              have Ri7 := Lib.hid (own_below' Ri6.out hb')
              have HD7 := Lib.hid (HD6.out.below hb')
              have HP7 := Lib.hid (HP6.out.below hb')
              have HRB2 := Lib.hid (HRB.out.below hb')
              have HBQ2 := Lib.hid (HBQ.out.trans (hb'.mono HBQ.out.size))
              have hsw := hb'.size
              rw [EX.out]
              clear a0 a1 a2
              clear hb' Rl6 Rx6 Ri6 HB6 HD6 HP6
              have hp7 := HP7.out
              obtain ⟨a0, a1, a2, _⟩ := hp7.spots hqm
              simp only [toks_a, toks_b] at a0 a1 a2
              rw [HTT.out] at a0 a1 a2
              simp only [HNX.out, HNY.out] at a0 a1 a2
              clear hp7
              go_wp2_with fail
              refine (levelEval_any w7 w7.heap.size _ _ ny _ 5 capx envx y0 T pv (Nat.lt_of_lt_of_le h0 (Nat.le_trans hB HB7.out.size)) (Nat.le_refl _) (HRB2.out.more hsw) (by omega) (OwnI.reads Rx7.out) (by omega) (hE.below (HB7.out.mono hB) h0)).mono ?_
              rintro e w8 ⟨rfl, hb'⟩
              have HB8 := Lib.hid (HB7.out.trans (hb'.mono HB7.out.size))
              have Rl8 := Lib.hid (own_below' Rl7.out hb')
              have Rx8 := Lib.hid (own_below' Rx7.out hb')
              have Ri8 := Lib.hid (own_below' Ri7.out hb')
              have HD8 := Lib.hid (HD7.out.below hb')
              have HP8 := Lib.hid (HP7.out.below hb')
              have HBQ3 := Lib.hid (HBQ2.out.trans (hb'.mono HBQ2.out.size))
              rw [EY.out]
              clear a0 a1 a2
              clear hb' Rl7 Rx7 Ri7 HB7 HD7 HP7
              have hp8 := HP8.out
              obtain ⟨a0, a1, a2, _⟩ := hp8.spots hqm
              simp only [toks_a, toks_b] at a0 a1 a2
              rw [HTT.out] at a0 a1 a2
              simp only [HNX.out, HNY.out] at a0 a1 a2
              clear hp8
              have hpr : prB envx (x0, s0, y0) = (decide (Dc.ev envx x0 < Dc.ev envx y0) || (!s0 && (Dc.ev envx x0 == Dc.ev envx y0))) := rfl
              have hN0 := HN0.out
              rw [hpr] at hN0
              generalize Dc.ev envx x0 = X at hN0 ⊢
              generalize Dc.ev envx y0 = Y at hN0 ⊢
              clear hpr
              cases α with
              | false =>
                have HN1 : Hid ((ps.take (q + 1)).all (prB envx) = false) := by show _ = _; rw [hN0]; rfl
                clear hN0
                go_wp2
                go_roundw
                case rel => exact ⟨q + 1, by omega, by go_num, by rw [HN1.out], HBQ3.out⟩
                case measure => simp [intOf]; omega
              | true =>
                by_cases hxy : X < Y
                · have dxy : decide (X < Y) = true := decide_eq_true hxy
                  have HN1 : Hid ((ps.take (q + 1)).all (prB envx) = true) := by show _ = _; rw [hN0]; rw [dxy]; rfl
                  clear hN0
                  go_wp2
                  go_roundw
                  case rel => exact ⟨q + 1, by omega, by go_num, by rw [HN1.out], HBQ3.out⟩
                  case measure => simp [intOf]; omega
                · have dxy : decide (X < Y) = false := decide_eq_false hxy
                  cases s0 with
                  | true =>
                    have HN1 : Hid ((ps.take (q + 1)).all (prB envx) = false) := by show _ = _; rw [hN0]; rw [dxy]; rfl
                    clear hN0
                    go_wp2
                    go_roundw
                    case rel => exact ⟨q + 1, by omega, by go_num, by rw [HN1.out], HBQ3.out⟩
                    case measure => simp [intOf]; omega
                  | false =>
                    by_cases hxe : X = Y
                    · have dxe : (X == Y) = true := by simpa using hxe
                      have HN1 : Hid ((ps.take (q + 1)).all (prB envx) = true) := by show _ = _; rw [hN0]; rw [dxy, dxe]; rfl
                      clear hN0
                      go_wp2
                      go_roundw
                      case rel => exact ⟨q + 1, by omega, by go_num, by rw [HN1.out], HBQ3.out⟩
                      case measure => simp [intOf]; omega
                    · have dxe : (X == Y) = false := by simpa using hxe
                      have HN1 : Hid ((ps.take (q + 1)).all (prB envx) = false) := by show _ = _; rw [hN0]; rw [dxy, dxe]; rfl
                      clear hN0
                      go_wp2
                      go_roundw
                      case rel => exact ⟨q + 1, by omega, by go_num, by rw [HN1.out], HBQ3.out⟩
                      case measure => simp [intOf]; omega
            · have hqn : ¬ (q : Int) < (mp : Int) := by omega
              have HAA : Hid (ps.all (prB envx) = α) := by show _ = _; rw [← HAL.out, List.take_of_length_le (by rw [HM.out]; omega)]
              have HCH := Lib.hid ((csub_hold H5x.out HE4.out HR.out).symm.trans HAA.out)
              have hba : (α == α) = true := by simp
              go_wp2_with fail
              refine (implConsHold_any wr wr.heap.size (some ⟨g, 0, none⟩) n0 cap l (some ⟨w4.heap.size, 0, none⟩) 5 5 (inE envx ls 5) (Nat.le_refl _) (OwnC.reads Rl6.out) (by omega) (OwnI.reads Ri6.out) (by omega)).mono ?_
              rintro e w7 ⟨rfl, hb⟩
              have HB7 := Lib.hid (HB6.out.trans (hb.mono HB6.out.size))
              have Rl7 := Lib.hid (own_below' Rl6.out hb)
              have Rx7 := Lib.hid (own_below' Rx6.out hb)
              have Ri7 := Lib.hid (own_below' Ri6.out hb)
              have HD7 := Lib.hid (HD6.out.below hb)
              have HP7 := Lib.hid (HP6.out.below hb)
              clear hb Rl6 Rx6 Ri6 HB6 HD6 HP6
              rw [HCH.out]
              obtain ⟨P, hP⟩ : ∃ P, pairsR [] ps = P := ⟨_, rfl⟩
              have HPP := Lib.hid hP
              clear hP
              go_wp2_with fail
              refine (implPairsUnder_any w7 w7.heap.size none 0 0 [] _ _ _ mp _ ps _ _ T pv Tc pc (Nat.lt_of_lt_of_le h0 (Nat.le_trans hB HB7.out.size)) (Nat.lt_of_lt_of_le h0c (Nat.le_trans hB HB7.out.size)) (Nat.le_refl _) (.inr ⟨rfl, rfl, rfl⟩) ⟨rfl, fun h => absurd h (by omega)⟩ (by omega) HP7.out HM.out (by omega) (fun i hi => Nat.le_trans (HLN.out.2 i hi) (by omega)) (hE.below (HB7.out.mono hB) h0) (hEc.below (HB7.out.mono hB) h0c)).mono ?_
              rintro e w8 ⟨rfl, hb⟩
              have HB8 := Lib.hid (HB7.out.trans (hb.mono HB7.out.size))
              have Rl8 := Lib.hid (own_below' Rl7.out hb)
              have Rx8 := Lib.hid (own_below' Rx7.out hb)
              have Ri8 := Lib.hid (own_below' Ri7.out hb)
              have HD8 := Lib.hid (HD7.out.below hb)
              have HP8 := Lib.hid (HP7.out.below hb)
              clear hb Rl7 Rx7 Ri7 HB7 HD7 HP7
              rw [HPP.out]
              cases P with
              | false =>
                go_wp2
                go_ret
                exact ⟨rfl, HB8.out⟩
              | true =>
                have hat : α = true := HAA.out.symm.trans (pairs_nil H5x.out HEx.out.2 HPP.out)
                subst hat
                go_wp2
                go_ret
                exact ⟨rfl, HB8.out⟩
end Go.Proofs.YtgebjnoicgmdoaaDoor
