/- The law FnImply: the walk. -/
import Derived.Test.YtmbcjddahncocaaDoorDrawImp
import Derived.Test.YtmbcjddahncocaaDoorImpSem
import Derived.Test.YtmbcjddahncocaaDoorConApp

namespace Go.Proofs.YtmbcjddahncocaaDoor
open Go.RowKit
open Cs (Cn)

set_option maxRecDepth 100000 in
set_option maxHeartbeats 64000000 in
theorem fnImply_any (w : World) (B : Nat) (A : Option Addr) (n c : Nat) (T : TypeId) (pv : Value) (Tc : TypeId) (pc : Value) (h0 : 0 < B) (h0c : 1 < B) (hB : B ≤ w.heap.size)
    (hb : BytR w B A n) (_hnc : n ≤ c) (hE : ErrAt w T pv) (hEc : ErrCAt w Tc pc) :
    Calls Tryd.prog 4 #[.slice A n c] w fun e w' => e = .returned (.bool true) ∧ Below w.heap.size w w' := by
  obtain ⟨i0, hi, hz0, hz1, hz2⟩ := info_parts info_tok
  by_cases hbig : 1048576 < (n : Int)
  · go_enter Tryd.func4, Tryd.ntmps4
    go_wp2_with fail
    refine (big_any w A n c).mono ?_
    rintro e w' ⟨rfl, rfl⟩
    rw [decide_eq_true (by omega)]
    go_wp2
    go_ret
    exact ⟨rfl, Below.refl _ _⟩
  · have hn : n ≤ 1048576 := by omega
    go_enter Tryd.func4, Tryd.ntmps4
    go_wp2_with fail
    refine (big_any w A n c).mono ?_
    rintro e w' ⟨rfl, rfl⟩
    rw [decide_eq_false (by omega)]
    have HB0 : Hid (Below w.heap.size w w) := Below.refl _ _
    go_wp2_with fail
    refine (drawImp_any w B A n c hB hb hn).mono ?_
    rintro e w1 ⟨⟨g, cap, m, l, U, R, V, rfl, hm, hol⟩, hb1⟩
    have HB1 := Lib.hid hb1
    have Rl1 := Lib.hid hol
    clear hol hb1
    obtain ⟨w2, hw2⟩ : ∃ W, w1.alloc (.cells #[.int .i64 U, .int .i64 R, .int .i64 V] 39) = W := ⟨_, rfl⟩
    have hbw : Below w1.heap.size w1 w2 := by rw [← hw2]; exact (Below.refl _ _).alloc (Nat.le_refl _) _
    have KC2 : Hid (Blk w2 w1.heap.size 39 #[.int .i64 U, .int .i64 R, .int .i64 V]) := by show Blk _ _ _ _; rw [← hw2]; exact Blk.made _ _ _
    have HB2 := Lib.hid (HB1.out.trans (hbw.mono HB1.out.size))
    have Rl2 := Lib.hid (own_below' Rl1.out hbw)
    clear hbw Rl1 HB1
    obtain ⟨Y, hY⟩ : ∃ Y, impR l (U, R, V) = Y := ⟨_, rfl⟩
    have HY := Lib.hid hY
    clear hY
    have hbb : (Y != Y) = false := by simp
    have hbe : (Y == Y) = true := by simp
    have z0 : w2.cell? ⟨w1.heap.size, 0, none⟩ = some (.int .i64 U) := KC2.out.cell 0
    have z1 : w2.cell? ⟨w1.heap.size, 1, none⟩ = some (.int .i64 R) := KC2.out.cell 1
    have z2 : w2.cell? ⟨w1.heap.size, 2, none⟩ = some (.int .i64 V) := KC2.out.cell 2
    go_wp2_with fail
    refine (implConsImply_any w2 w2.heap.size (some ⟨g, 0, none⟩) m cap l U R V (Nat.le_refl _) (OwnC.reads Rl2.out) (by omega)).mono ?_
    rintro e w3 ⟨rfl, hb'⟩
    clear z0 z1 z2 hw2
    have HB3 := Lib.hid (HB2.out.trans (hb'.mono HB2.out.size))
    have Rl3 := Lib.hid (own_below' Rl2.out hb')
    have KC3 := Lib.hid (Blk.below KC2.out hb' KC2.out.lt)
    clear hb' Rl2 HB2 KC2
    rw [HY.out]
    have z0 : w3.cell? ⟨w1.heap.size, 0, none⟩ = some (.int .i64 U) := KC3.out.cell 0
    have z1 : w3.cell? ⟨w1.heap.size, 1, none⟩ = some (.int .i64 R) := KC3.out.cell 1
    have z2 : w3.cell? ⟨w1.heap.size, 2, none⟩ = some (.int .i64 V) := KC3.out.cell 2
    go_wp2_with fail
    refine (specConsImply_any w3 w3.heap.size (some ⟨g, 0, none⟩) m cap l U R V (Nat.le_refl _) (OwnC.reads Rl3.out) (by omega)).mono ?_
    rintro e w4 ⟨rfl, hb⟩
    clear z0 z1 z2
    have HB4 := Lib.hid (HB3.out.trans (hb.mono HB3.out.size))
    have Rl4 := Lib.hid (own_below' Rl3.out hb)
    have KC4 := Lib.hid (Blk.below KC3.out hb KC3.out.lt)
    clear hb Rl3 HB3 KC3
    rw [HY.out]
    cases hsat : satR l with
    | false =>
      have HS := Lib.hid hsat
      clear hsat
      have z0 : w4.cell? ⟨w1.heap.size, 0, none⟩ = some (.int .i64 U) := KC4.out.cell 0
      have z1 : w4.cell? ⟨w1.heap.size, 1, none⟩ = some (.int .i64 R) := KC4.out.cell 1
      have z2 : w4.cell? ⟨w1.heap.size, 2, none⟩ = some (.int .i64 V) := KC4.out.cell 2
      go_wp2_with fail
      refine (specConsSat_any w4 w4.heap.size (some ⟨g, 0, none⟩) m cap l (Nat.le_refl _) (OwnC.reads Rl4.out) (by omega)).mono ?_
      rintro e w5 ⟨rfl, hb⟩
      clear z0 z1 z2
      have HB5 := Lib.hid (HB4.out.trans (hb.mono HB4.out.size))
      have Rl5 := Lib.hid (own_below' Rl4.out hb)
      have KC5 := Lib.hid (Blk.below KC4.out hb KC4.out.lt)
      clear hb Rl4 HB4 KC4
      rw [HS.out]
      have z0 : w5.cell? ⟨w1.heap.size, 0, none⟩ = some (.int .i64 U) := KC5.out.cell 0
      have z1 : w5.cell? ⟨w1.heap.size, 1, none⟩ = some (.int .i64 R) := KC5.out.cell 1
      have z2 : w5.cell? ⟨w1.heap.size, 2, none⟩ = some (.int .i64 V) := KC5.out.cell 2
      go_wp2_with fail
      refine (specConsImply_any w5 w5.heap.size (some ⟨g, 0, none⟩) m cap l U R V (Nat.le_refl _) (OwnC.reads Rl5.out) (by omega)).mono ?_
      rintro e w6 ⟨rfl, hb⟩
      clear z0 z1 z2
      have HB6 := Lib.hid (HB5.out.trans (hb.mono HB5.out.size))
      have Rl6 := Lib.hid (own_below' Rl5.out hb)
      have KC6 := Lib.hid (Blk.below KC5.out hb KC5.out.lt)
      clear hb Rl5 HB5 KC5
      rw [HY.out]
      have z0 : w6.cell? ⟨w1.heap.size, 0, none⟩ = some (.int .i64 U) := KC6.out.cell 0
      have z1 : w6.cell? ⟨w1.heap.size, 1, none⟩ = some (.int .i64 R) := KC6.out.cell 1
      have z2 : w6.cell? ⟨w1.heap.size, 2, none⟩ = some (.int .i64 V) := KC6.out.cell 2
      go_wp2
      go_ret
      exact ⟨rfl, HB6.out⟩
    | true =>
      have HS := Lib.hid hsat
      clear hsat
      have z0 : w4.cell? ⟨w1.heap.size, 0, none⟩ = some (.int .i64 U) := KC4.out.cell 0
      have z1 : w4.cell? ⟨w1.heap.size, 1, none⟩ = some (.int .i64 R) := KC4.out.cell 1
      have z2 : w4.cell? ⟨w1.heap.size, 2, none⟩ = some (.int .i64 V) := KC4.out.cell 2
      go_wp2_with fail
      refine (specConsSat_any w4 w4.heap.size (some ⟨g, 0, none⟩) m cap l (Nat.le_refl _) (OwnC.reads Rl4.out) (by omega)).mono ?_
      rintro e w5 ⟨rfl, hb⟩
      clear z0 z1 z2
      have HB5 := Lib.hid (HB4.out.trans (hb.mono HB4.out.size))
      have Rl5 := Lib.hid (own_below' Rl4.out hb)
      have KC5 := Lib.hid (Blk.below KC4.out hb KC4.out.lt)
      clear hb Rl4 HB4 KC4
      rw [HS.out]
      cases hcok : Cs.cOk (U, R, V) with
      | false =>
        have HK := Lib.hid hcok
        clear hcok
        have z0 : w5.cell? ⟨w1.heap.size, 0, none⟩ = some (.int .i64 U) := KC5.out.cell 0
        have z1 : w5.cell? ⟨w1.heap.size, 1, none⟩ = some (.int .i64 R) := KC5.out.cell 1
        have z2 : w5.cell? ⟨w1.heap.size, 2, none⟩ = some (.int .i64 V) := KC5.out.cell 2
        go_wp2_with fail
        refine (specConOk_any w5 U R V).mono ?_
        rintro e w6 ⟨rfl, hb⟩
        clear z0 z1 z2
        have HB6 := Lib.hid (HB5.out.trans (hb.mono HB5.out.size))
        have Rl6 := Lib.hid (own_below' Rl5.out hb)
        have KC6 := Lib.hid (Blk.below KC5.out hb KC5.out.lt)
        clear hb Rl5 HB5 KC5
        rw [HK.out]
        have z0 : w6.cell? ⟨w1.heap.size, 0, none⟩ = some (.int .i64 U) := KC6.out.cell 0
        have z1 : w6.cell? ⟨w1.heap.size, 1, none⟩ = some (.int .i64 R) := KC6.out.cell 1
        have z2 : w6.cell? ⟨w1.heap.size, 2, none⟩ = some (.int .i64 V) := KC6.out.cell 2
        go_wp2_with fail
        refine (specConsImply_any w6 w6.heap.size (some ⟨g, 0, none⟩) m cap l U R V (Nat.le_refl _) (OwnC.reads Rl6.out) (by omega)).mono ?_
        rintro e w7 ⟨rfl, hb⟩
        clear z0 z1 z2
        have HB7 := Lib.hid (HB6.out.trans (hb.mono HB6.out.size))
        have Rl7 := Lib.hid (own_below' Rl6.out hb)
        have KC7 := Lib.hid (Blk.below KC6.out hb KC6.out.lt)
        clear hb Rl6 HB6 KC6
        rw [HY.out]
        have z0 : w7.cell? ⟨w1.heap.size, 0, none⟩ = some (.int .i64 U) := KC7.out.cell 0
        have z1 : w7.cell? ⟨w1.heap.size, 1, none⟩ = some (.int .i64 R) := KC7.out.cell 1
        have z2 : w7.cell? ⟨w1.heap.size, 2, none⟩ = some (.int .i64 V) := KC7.out.cell 2
        go_wp2
        go_ret
        exact ⟨rfl, HB7.out⟩
      | true =>
        have HK := Lib.hid hcok
        clear hcok
        have z0 : w5.cell? ⟨w1.heap.size, 0, none⟩ = some (.int .i64 U) := KC5.out.cell 0
        have z1 : w5.cell? ⟨w1.heap.size, 1, none⟩ = some (.int .i64 R) := KC5.out.cell 1
        have z2 : w5.cell? ⟨w1.heap.size, 2, none⟩ = some (.int .i64 V) := KC5.out.cell 2
        go_wp2_with fail
        refine (specConOk_any w5 U R V).mono ?_
        rintro e w6 ⟨rfl, hb⟩
        clear z0 z1 z2
        have HB6 := Lib.hid (HB5.out.trans (hb.mono HB5.out.size))
        have Rl6 := Lib.hid (own_below' Rl5.out hb)
        have KC6 := Lib.hid (Blk.below KC5.out hb KC5.out.lt)
        clear hb Rl5 HB5 KC5
        rw [HK.out]
        have z0 : w6.cell? ⟨w1.heap.size, 0, none⟩ = some (.int .i64 U) := KC6.out.cell 0
        have z1 : w6.cell? ⟨w1.heap.size, 1, none⟩ = some (.int .i64 R) := KC6.out.cell 1
        have z2 : w6.cell? ⟨w1.heap.size, 2, none⟩ = some (.int .i64 V) := KC6.out.cell 2
        have z0 : w6.cell? ⟨w1.heap.size, 0, none⟩ = some (.int .i64 U) := KC6.out.cell 0
        have z1 : w6.cell? ⟨w1.heap.size, 1, none⟩ = some (.int .i64 R) := KC6.out.cell 1
        have z2 : w6.cell? ⟨w1.heap.size, 2, none⟩ = some (.int .i64 V) := KC6.out.cell 2
        go_wp2_with fail
        refine (envs_any w6 B A n c 3 4 (Nat.le_trans hB HB6.out.size) (hb.below (HB6.out.mono hB)) hn (by omega) (by omega)).mono ?_
        rintro e w7 ⟨gx, capx, envx, rfl, h5x, hex, ho, hb'⟩
        clear z0 z1 z2
        have HB7 := Lib.hid (HB6.out.trans (hb'.mono HB6.out.size))
        have Rl7 := Lib.hid (own_below' Rl6.out hb')
        have KC7 := Lib.hid (Blk.below KC6.out hb' KC6.out.lt)
        have Rx7 := Lib.hid (own_base (base' := w.heap.size) ho HB6.out.size)
        have HEx := Lib.hid (env_small h5x (by omega) hex)
        have H5x := Lib.hid h5x
        clear hb' Rl6 HB6 KC6
        clear ho h5x hex
        cases Y with
        | false =>
          have hR3 : R = 0 ∨ R = 1 ∨ R = 2 := by have h := ((Cs.cOk_iff _).1 HK.out).2.2; simp only at h; omega
          rcases hR3 with rfl | rfl | rfl
          · skip
            by_cases hU : 0 ≤ U
            · have dU : decide (0 ≤ U) = true := by simpa using hU
              have HLU := Lib.hid (sideL_pos hU)
              clear hU
              by_cases hV : 0 ≤ V
              · have dV : decide (0 ≤ V) = true := by simpa using hV
                have HLV := Lib.hid (sideL_pos hV)
                clear hV
                obtain ⟨X2, hX2⟩ : ∃ X, (w7.alloc (.cells #[.int .i64 0, .int .i64 0] 48)).alloc (.cells #[.int .i64 0, .int .i64 0] 48) = X := ⟨_, rfl⟩
                have hx2 : Below w7.heap.size w7 X2 := by rw [← hX2]; exact ((Below.refl _ _).alloc (Nat.le_refl _) _).alloc (by simp) _
                have b0 : Blk X2 w7.heap.size 48 #[.int .i64 0, .int .i64 0] := by rw [← hX2]; exact (Blk.made _ _ _).alloc _
                have b1 : Blk X2 (w7.heap.size + 1) 48 #[.int .i64 0, .int .i64 0] := by rw [← hX2]; exact Blk.made' (by simp)
                have HK2 := Lib.hid (Blk.below KC7.out hx2 KC7.out.lt)
                have X2z0 : X2.cell? ⟨w1.heap.size, 0, none⟩ = some (.int .i64 U) := HK2.out.cell 0
                have X2z1 : X2.cell? ⟨w1.heap.size, 1, none⟩ = some (.int .i64 0) := HK2.out.cell 1
                have X2z2 : X2.cell? ⟨w1.heap.size, 2, none⟩ = some (.int .i64 V) := HK2.out.cell 2
                obtain ⟨X3, hX3⟩ : ∃ X, X2.alloc (.cells #[.int .i64 4, .int .i64 U] 48) = X := ⟨_, rfl⟩
                have sX3 : Below X2.heap.size X2 X3 := by rw [← hX3]; exact (Below.refl _ _).alloc (Nat.le_refl _) _
                have b0X3 := (b0).below sX3 (b0).lt
                have b1X3 := (b1).below sX3 (b1).lt
                have nX3 : Blk X3 X2.heap.size 48 #[.int .i64 4, .int .i64 U] := by rw [← hX3]; exact Blk.made _ _ _
                have X3k := hx2.trans (sX3.mono hx2.size)
                have KX3 := Lib.hid (Blk.below HK2.out sX3 HK2.out.lt)
                have X3z0 : X3.cell? ⟨w1.heap.size, 0, none⟩ = some (.int .i64 U) := KX3.out.cell 0
                have X3z1 : X3.cell? ⟨w1.heap.size, 1, none⟩ = some (.int .i64 0) := KX3.out.cell 1
                have X3z2 : X3.cell? ⟨w1.heap.size, 2, none⟩ = some (.int .i64 V) := KX3.out.cell 2
                obtain ⟨X4, hX4⟩ : ∃ X, X3.alloc (.cells #[.int .i64 4, .int .i64 V] 48) = X := ⟨_, rfl⟩
                have sX4 : Below X3.heap.size X3 X4 := by rw [← hX4]; exact (Below.refl _ _).alloc (Nat.le_refl _) _
                have nX3X4 := (nX3).below sX4 (nX3).lt
                have b1X3X4 := (b1X3).below sX4 (b1X3).lt
                have nX4 : Blk X4 X3.heap.size 48 #[.int .i64 4, .int .i64 V] := by rw [← hX4]; exact Blk.made _ _ _
                have X4k := X3k.trans (sX4.mono X3k.size)
                have KX4 := Lib.hid (Blk.below KX3.out sX4 KX3.out.lt)
                have X4z0 : X4.cell? ⟨w1.heap.size, 0, none⟩ = some (.int .i64 U) := KX4.out.cell 0
                have X4z1 : X4.cell? ⟨w1.heap.size, 1, none⟩ = some (.int .i64 0) := KX4.out.cell 1
                have X4z2 : X4.cell? ⟨w1.heap.size, 2, none⟩ = some (.int .i64 V) := KX4.out.cell 2
                have HL := Lib.hid (HB7.out.trans (X4k.mono HB7.out.size))
                have hou : OwnT X4 w7.heap.size (some ⟨X2.heap.size, 0, none⟩) 1 1 (sideL U) := by rw [HLU.out]; exact own_litJ nX3X4 (by have q1 := hx2.size; have q2 := sX3.size; omega)
                have hov : OwnT X4 w7.heap.size (some ⟨X3.heap.size, 0, none⟩) 1 1 (sideL V) := by rw [HLV.out]; exact own_litJ nX4 (by have q1 := hx2.size; have q2 := sX3.size; omega)
                have HLE := Lib.hid ((imp_le HS.out HK.out).trans HY.out)
                go_wp2_with fail
                refine (implLeUnder_any X4 X4.heap.size (some ⟨g, 0, none⟩) m cap l (some ⟨X2.heap.size, 0, none⟩) 1 1 (sideL U) (some ⟨X3.heap.size, 0, none⟩) 1 1 (sideL V) T pv Tc pc (Nat.lt_of_lt_of_le h0 (Nat.le_trans hB HL.out.size)) (Nat.lt_of_lt_of_le h0c (Nat.le_trans hB HL.out.size)) (Nat.le_refl _) (.inl ⟨_, _, rfl⟩) (OwnC.reads (own_below' Rl7.out X4k)) (by omega) (OwnT.reads hou) (by omega) (OwnT.reads hov) (by omega) (hE.below (HL.out.mono hB) h0) (hEc.below (HL.out.mono hB) h0c)).mono ?_
                rintro e wz ⟨rfl, hbz⟩
                have HZ := Lib.hid (HL.out.trans (hbz.mono HL.out.size))
                have KZ := Lib.hid (Blk.below KX4.out hbz KX4.out.lt)
                have z1 : wz.cell? ⟨w1.heap.size, 1, none⟩ = some (.int .i64 0) := KZ.out.cell 1
                rw [HLE.out]
                clear hbz
                go_wp2
                go_ret
                exact ⟨rfl, HZ.out⟩
              · have dV : decide (0 ≤ V) = false := by simpa using hV
                have HLV := Lib.hid (sideL_neg hV)
                clear hV
                obtain ⟨X2, hX2⟩ : ∃ X, (w7.alloc (.cells #[.int .i64 0, .int .i64 0] 48)).alloc (.cells #[.int .i64 0, .int .i64 0] 48) = X := ⟨_, rfl⟩
                have hx2 : Below w7.heap.size w7 X2 := by rw [← hX2]; exact ((Below.refl _ _).alloc (Nat.le_refl _) _).alloc (by simp) _
                have b0 : Blk X2 w7.heap.size 48 #[.int .i64 0, .int .i64 0] := by rw [← hX2]; exact (Blk.made _ _ _).alloc _
                have b1 : Blk X2 (w7.heap.size + 1) 48 #[.int .i64 0, .int .i64 0] := by rw [← hX2]; exact Blk.made' (by simp)
                have HK2 := Lib.hid (Blk.below KC7.out hx2 KC7.out.lt)
                have X2z0 : X2.cell? ⟨w1.heap.size, 0, none⟩ = some (.int .i64 U) := HK2.out.cell 0
                have X2z1 : X2.cell? ⟨w1.heap.size, 1, none⟩ = some (.int .i64 0) := HK2.out.cell 1
                have X2z2 : X2.cell? ⟨w1.heap.size, 2, none⟩ = some (.int .i64 V) := HK2.out.cell 2
                obtain ⟨X3, hX3⟩ : ∃ X, X2.alloc (.cells #[.int .i64 4, .int .i64 U] 48) = X := ⟨_, rfl⟩
                have sX3 : Below X2.heap.size X2 X3 := by rw [← hX3]; exact (Below.refl _ _).alloc (Nat.le_refl _) _
                have b0X3 := (b0).below sX3 (b0).lt
                have b1X3 := (b1).below sX3 (b1).lt
                have nX3 : Blk X3 X2.heap.size 48 #[.int .i64 4, .int .i64 U] := by rw [← hX3]; exact Blk.made _ _ _
                have X3k := hx2.trans (sX3.mono hx2.size)
                have KX3 := Lib.hid (Blk.below HK2.out sX3 HK2.out.lt)
                have X3z0 : X3.cell? ⟨w1.heap.size, 0, none⟩ = some (.int .i64 U) := KX3.out.cell 0
                have X3z1 : X3.cell? ⟨w1.heap.size, 1, none⟩ = some (.int .i64 0) := KX3.out.cell 1
                have X3z2 : X3.cell? ⟨w1.heap.size, 2, none⟩ = some (.int .i64 V) := KX3.out.cell 2
                have HL := Lib.hid (HB7.out.trans (X3k.mono HB7.out.size))
                have hou : OwnT X3 w7.heap.size (some ⟨X2.heap.size, 0, none⟩) 1 1 (sideL U) := by rw [HLU.out]; exact own_litJ nX3 (by have q1 := hx2.size; have q2 := sX3.size; omega)
                have hov : OwnT X3 w7.heap.size (some ⟨w7.heap.size + 1, 0, none⟩) 1 1 (sideL V) := by rw [HLV.out]; exact own_litJ b1X3 (by have q1 := hx2.size; have q2 := sX3.size; omega)
                have HLE := Lib.hid ((imp_le HS.out HK.out).trans HY.out)
                go_wp2_with fail
                refine (implLeUnder_any X3 X3.heap.size (some ⟨g, 0, none⟩) m cap l (some ⟨X2.heap.size, 0, none⟩) 1 1 (sideL U) (some ⟨w7.heap.size + 1, 0, none⟩) 1 1 (sideL V) T pv Tc pc (Nat.lt_of_lt_of_le h0 (Nat.le_trans hB HL.out.size)) (Nat.lt_of_lt_of_le h0c (Nat.le_trans hB HL.out.size)) (Nat.le_refl _) (.inl ⟨_, _, rfl⟩) (OwnC.reads (own_below' Rl7.out X3k)) (by omega) (OwnT.reads hou) (by omega) (OwnT.reads hov) (by omega) (hE.below (HL.out.mono hB) h0) (hEc.below (HL.out.mono hB) h0c)).mono ?_
                rintro e wz ⟨rfl, hbz⟩
                have HZ := Lib.hid (HL.out.trans (hbz.mono HL.out.size))
                have KZ := Lib.hid (Blk.below KX3.out hbz KX3.out.lt)
                have z1 : wz.cell? ⟨w1.heap.size, 1, none⟩ = some (.int .i64 0) := KZ.out.cell 1
                rw [HLE.out]
                clear hbz
                go_wp2
                go_ret
                exact ⟨rfl, HZ.out⟩
            · have dU : decide (0 ≤ U) = false := by simpa using hU
              have HLU := Lib.hid (sideL_neg hU)
              clear hU
              by_cases hV : 0 ≤ V
              · have dV : decide (0 ≤ V) = true := by simpa using hV
                have HLV := Lib.hid (sideL_pos hV)
                clear hV
                obtain ⟨X2, hX2⟩ : ∃ X, (w7.alloc (.cells #[.int .i64 0, .int .i64 0] 48)).alloc (.cells #[.int .i64 0, .int .i64 0] 48) = X := ⟨_, rfl⟩
                have hx2 : Below w7.heap.size w7 X2 := by rw [← hX2]; exact ((Below.refl _ _).alloc (Nat.le_refl _) _).alloc (by simp) _
                have b0 : Blk X2 w7.heap.size 48 #[.int .i64 0, .int .i64 0] := by rw [← hX2]; exact (Blk.made _ _ _).alloc _
                have b1 : Blk X2 (w7.heap.size + 1) 48 #[.int .i64 0, .int .i64 0] := by rw [← hX2]; exact Blk.made' (by simp)
                have HK2 := Lib.hid (Blk.below KC7.out hx2 KC7.out.lt)
                have X2z0 : X2.cell? ⟨w1.heap.size, 0, none⟩ = some (.int .i64 U) := HK2.out.cell 0
                have X2z1 : X2.cell? ⟨w1.heap.size, 1, none⟩ = some (.int .i64 0) := HK2.out.cell 1
                have X2z2 : X2.cell? ⟨w1.heap.size, 2, none⟩ = some (.int .i64 V) := HK2.out.cell 2
                obtain ⟨X4, hX4⟩ : ∃ X, X2.alloc (.cells #[.int .i64 4, .int .i64 V] 48) = X := ⟨_, rfl⟩
                have sX4 : Below X2.heap.size X2 X4 := by rw [← hX4]; exact (Below.refl _ _).alloc (Nat.le_refl _) _
                have b0X4 := (b0).below sX4 (b0).lt
                have b1X4 := (b1).below sX4 (b1).lt
                have nX4 : Blk X4 X2.heap.size 48 #[.int .i64 4, .int .i64 V] := by rw [← hX4]; exact Blk.made _ _ _
                have X4k := hx2.trans (sX4.mono hx2.size)
                have KX4 := Lib.hid (Blk.below HK2.out sX4 HK2.out.lt)
                have X4z0 : X4.cell? ⟨w1.heap.size, 0, none⟩ = some (.int .i64 U) := KX4.out.cell 0
                have X4z1 : X4.cell? ⟨w1.heap.size, 1, none⟩ = some (.int .i64 0) := KX4.out.cell 1
                have X4z2 : X4.cell? ⟨w1.heap.size, 2, none⟩ = some (.int .i64 V) := KX4.out.cell 2
                have HL := Lib.hid (HB7.out.trans (X4k.mono HB7.out.size))
                have hou : OwnT X4 w7.heap.size (some ⟨w7.heap.size, 0, none⟩) 1 1 (sideL U) := by rw [HLU.out]; exact own_litJ b0X4 (by have q1 := hx2.size; omega)
                have hov : OwnT X4 w7.heap.size (some ⟨X2.heap.size, 0, none⟩) 1 1 (sideL V) := by rw [HLV.out]; exact own_litJ nX4 (by have q1 := hx2.size; omega)
                have HLE := Lib.hid ((imp_le HS.out HK.out).trans HY.out)
                go_wp2_with fail
                refine (implLeUnder_any X4 X4.heap.size (some ⟨g, 0, none⟩) m cap l (some ⟨w7.heap.size, 0, none⟩) 1 1 (sideL U) (some ⟨X2.heap.size, 0, none⟩) 1 1 (sideL V) T pv Tc pc (Nat.lt_of_lt_of_le h0 (Nat.le_trans hB HL.out.size)) (Nat.lt_of_lt_of_le h0c (Nat.le_trans hB HL.out.size)) (Nat.le_refl _) (.inl ⟨_, _, rfl⟩) (OwnC.reads (own_below' Rl7.out X4k)) (by omega) (OwnT.reads hou) (by omega) (OwnT.reads hov) (by omega) (hE.below (HL.out.mono hB) h0) (hEc.below (HL.out.mono hB) h0c)).mono ?_
                rintro e wz ⟨rfl, hbz⟩
                have HZ := Lib.hid (HL.out.trans (hbz.mono HL.out.size))
                have KZ := Lib.hid (Blk.below KX4.out hbz KX4.out.lt)
                have z1 : wz.cell? ⟨w1.heap.size, 1, none⟩ = some (.int .i64 0) := KZ.out.cell 1
                rw [HLE.out]
                clear hbz
                go_wp2
                go_ret
                exact ⟨rfl, HZ.out⟩
              · have dV : decide (0 ≤ V) = false := by simpa using hV
                have HLV := Lib.hid (sideL_neg hV)
                clear hV
                obtain ⟨X2, hX2⟩ : ∃ X, (w7.alloc (.cells #[.int .i64 0, .int .i64 0] 48)).alloc (.cells #[.int .i64 0, .int .i64 0] 48) = X := ⟨_, rfl⟩
                have hx2 : Below w7.heap.size w7 X2 := by rw [← hX2]; exact ((Below.refl _ _).alloc (Nat.le_refl _) _).alloc (by simp) _
                have b0 : Blk X2 w7.heap.size 48 #[.int .i64 0, .int .i64 0] := by rw [← hX2]; exact (Blk.made _ _ _).alloc _
                have b1 : Blk X2 (w7.heap.size + 1) 48 #[.int .i64 0, .int .i64 0] := by rw [← hX2]; exact Blk.made' (by simp)
                have HK2 := Lib.hid (Blk.below KC7.out hx2 KC7.out.lt)
                have X2z0 : X2.cell? ⟨w1.heap.size, 0, none⟩ = some (.int .i64 U) := HK2.out.cell 0
                have X2z1 : X2.cell? ⟨w1.heap.size, 1, none⟩ = some (.int .i64 0) := HK2.out.cell 1
                have X2z2 : X2.cell? ⟨w1.heap.size, 2, none⟩ = some (.int .i64 V) := HK2.out.cell 2
                have HL := Lib.hid (HB7.out.trans (hx2.mono HB7.out.size))
                have hou : OwnT X2 w7.heap.size (some ⟨w7.heap.size, 0, none⟩) 1 1 (sideL U) := by rw [HLU.out]; exact own_litJ b0 (by have q1 := hx2.size; omega)
                have hov : OwnT X2 w7.heap.size (some ⟨w7.heap.size + 1, 0, none⟩) 1 1 (sideL V) := by rw [HLV.out]; exact own_litJ b1 (by have q1 := hx2.size; omega)
                have HLE := Lib.hid ((imp_le HS.out HK.out).trans HY.out)
                go_wp2_with fail
                refine (implLeUnder_any X2 X2.heap.size (some ⟨g, 0, none⟩) m cap l (some ⟨w7.heap.size, 0, none⟩) 1 1 (sideL U) (some ⟨w7.heap.size + 1, 0, none⟩) 1 1 (sideL V) T pv Tc pc (Nat.lt_of_lt_of_le h0 (Nat.le_trans hB HL.out.size)) (Nat.lt_of_lt_of_le h0c (Nat.le_trans hB HL.out.size)) (Nat.le_refl _) (.inl ⟨_, _, rfl⟩) (OwnC.reads (own_below' Rl7.out hx2)) (by omega) (OwnT.reads hou) (by omega) (OwnT.reads hov) (by omega) (hE.below (HL.out.mono hB) h0) (hEc.below (HL.out.mono hB) h0c)).mono ?_
                rintro e wz ⟨rfl, hbz⟩
                have HZ := Lib.hid (HL.out.trans (hbz.mono HL.out.size))
                have KZ := Lib.hid (Blk.below HK2.out hbz HK2.out.lt)
                have z1 : wz.cell? ⟨w1.heap.size, 1, none⟩ = some (.int .i64 0) := KZ.out.cell 1
                rw [HLE.out]
                clear hbz
                go_wp2
                go_ret
                exact ⟨rfl, HZ.out⟩
          · skip
            by_cases hU : 0 ≤ U
            · have dU : decide (0 ≤ U) = true := by simpa using hU
              have HLU := Lib.hid (sideL_pos hU)
              clear hU
              by_cases hV : 0 ≤ V
              · have dV : decide (0 ≤ V) = true := by simpa using hV
                have HLV := Lib.hid (sideL_pos hV)
                clear hV
                obtain ⟨X2, hX2⟩ : ∃ X, (w7.alloc (.cells #[.int .i64 0, .int .i64 0] 48)).alloc (.cells #[.int .i64 0, .int .i64 0] 48) = X := ⟨_, rfl⟩
                have hx2 : Below w7.heap.size w7 X2 := by rw [← hX2]; exact ((Below.refl _ _).alloc (Nat.le_refl _) _).alloc (by simp) _
                have b0 : Blk X2 w7.heap.size 48 #[.int .i64 0, .int .i64 0] := by rw [← hX2]; exact (Blk.made _ _ _).alloc _
                have b1 : Blk X2 (w7.heap.size + 1) 48 #[.int .i64 0, .int .i64 0] := by rw [← hX2]; exact Blk.made' (by simp)
                have HK2 := Lib.hid (Blk.below KC7.out hx2 KC7.out.lt)
                have X2z0 : X2.cell? ⟨w1.heap.size, 0, none⟩ = some (.int .i64 U) := HK2.out.cell 0
                have X2z1 : X2.cell? ⟨w1.heap.size, 1, none⟩ = some (.int .i64 1) := HK2.out.cell 1
                have X2z2 : X2.cell? ⟨w1.heap.size, 2, none⟩ = some (.int .i64 V) := HK2.out.cell 2
                obtain ⟨X3, hX3⟩ : ∃ X, X2.alloc (.cells #[.int .i64 4, .int .i64 U] 48) = X := ⟨_, rfl⟩
                have sX3 : Below X2.heap.size X2 X3 := by rw [← hX3]; exact (Below.refl _ _).alloc (Nat.le_refl _) _
                have b0X3 := (b0).below sX3 (b0).lt
                have b1X3 := (b1).below sX3 (b1).lt
                have nX3 : Blk X3 X2.heap.size 48 #[.int .i64 4, .int .i64 U] := by rw [← hX3]; exact Blk.made _ _ _
                have X3k := hx2.trans (sX3.mono hx2.size)
                have KX3 := Lib.hid (Blk.below HK2.out sX3 HK2.out.lt)
                have X3z0 : X3.cell? ⟨w1.heap.size, 0, none⟩ = some (.int .i64 U) := KX3.out.cell 0
                have X3z1 : X3.cell? ⟨w1.heap.size, 1, none⟩ = some (.int .i64 1) := KX3.out.cell 1
                have X3z2 : X3.cell? ⟨w1.heap.size, 2, none⟩ = some (.int .i64 V) := KX3.out.cell 2
                obtain ⟨X4, hX4⟩ : ∃ X, X3.alloc (.cells #[.int .i64 4, .int .i64 V] 48) = X := ⟨_, rfl⟩
                have sX4 : Below X3.heap.size X3 X4 := by rw [← hX4]; exact (Below.refl _ _).alloc (Nat.le_refl _) _
                have nX3X4 := (nX3).below sX4 (nX3).lt
                have b1X3X4 := (b1X3).below sX4 (b1X3).lt
                have nX4 : Blk X4 X3.heap.size 48 #[.int .i64 4, .int .i64 V] := by rw [← hX4]; exact Blk.made _ _ _
                have X4k := X3k.trans (sX4.mono X3k.size)
                have KX4 := Lib.hid (Blk.below KX3.out sX4 KX3.out.lt)
                have X4z0 : X4.cell? ⟨w1.heap.size, 0, none⟩ = some (.int .i64 U) := KX4.out.cell 0
                have X4z1 : X4.cell? ⟨w1.heap.size, 1, none⟩ = some (.int .i64 1) := KX4.out.cell 1
                have X4z2 : X4.cell? ⟨w1.heap.size, 2, none⟩ = some (.int .i64 V) := KX4.out.cell 2
                have HL := Lib.hid (HB7.out.trans (X4k.mono HB7.out.size))
                have hou : OwnT X4 w7.heap.size (some ⟨X2.heap.size, 0, none⟩) 1 1 (sideL U) := by rw [HLU.out]; exact own_litJ nX3X4 (by have q1 := hx2.size; have q2 := sX3.size; omega)
                have hov : OwnT X4 w7.heap.size (some ⟨X3.heap.size, 0, none⟩) 1 1 (sideL V) := by rw [HLV.out]; exact own_litJ nX4 (by have q1 := hx2.size; have q2 := sX3.size; omega)
                have HLE := Lib.hid ((imp_lt HS.out HK.out).trans HY.out)
                have hne : ∀ {r : Nat}, (Value.slice (some ⟨X2.heap.size, 0, none⟩) 1 1).ownBlock = some r → r = X2.heap.size := fun h => by have h' : X2.heap.size = _ := (by simpa [Value.ownBlock] using h); omega
                have hpq : X3.heap.size ≠ X2.heap.size := by have q1 := (nX3X4).lt; have q2 := (nX4).lt; have q3 := b0.lt; have q4 := b1.lt; have q5 := nX3.lt; omega
                go_wp2_with (at_builtin; refine wpList_append_own _ rfl (.tmp 75) (.tmp 77) 24 rfl w7.heap.size 48 i0 (.agg #[.int .i64 0, .int .i64 0]) 2 16 Tryd.underlying24 hi hz0 hz1 hz2 rfl (by decide) (.slice (some ⟨X2.heap.size, 0, none⟩) 1 1) 1 (tokCells (sideL U)) rfl (hou.alloc _) ⟨X4.heap.size, 0, none⟩ 1 1 (tokCells [(1, 0)]) rfl rfl (Blk.tokA2 _ _ _) (tokCells_one _) (by unfold maxLen; omega) (by omega) (by have := X4k.size; simp; omega) ?_; intro v' X9 hown' hgrow hnil; obtain ⟨g9, c9, rfl⟩ := tok_two hown'; have hx9 : Below w7.heap.size w7 X9 := (X4k.alloc X4k.size _).grown hgrow (by have := X4k.size; simp; omega) (fun x h => (hou.lt x h).1); have hov9 : OwnT X9 w7.heap.size (some ⟨X3.heap.size, 0, none⟩) 1 1 (sideL V) := (by rw [HLV.out]; exact own_litJ ((Blk.alloc nX4 _).grown hgrow (fun he => hpq (hne he.symm))) (by have q1 := hx2.size; have q2 := sX3.size; omega)); have hou9 : OwnT X9 w7.heap.size (some ⟨g9, 0, none⟩) 2 c9 (sideL U ++ [(1, 0)]) := (by show X9.ownsRow _ _ _ _ _ _; rw [tokCells_append]; exact hown'); clear hown' hgrow hnil)
                have HL9 := Lib.hid (HB7.out.trans (hx9.mono HB7.out.size))
                have K9 := Lib.hid (Blk.below KC7.out hx9 KC7.out.lt)
                refine (implLeUnder_any X9 X9.heap.size (some ⟨g, 0, none⟩) m cap l (some ⟨g9, 0, none⟩) 2 c9 (sideL U ++ [(1, 0)]) (some ⟨X3.heap.size, 0, none⟩) 1 1 (sideL V) T pv Tc pc (Nat.lt_of_lt_of_le h0 (Nat.le_trans hB HL9.out.size)) (Nat.lt_of_lt_of_le h0c (Nat.le_trans hB HL9.out.size)) (Nat.le_refl _) (.inl ⟨_, _, rfl⟩) (OwnC.reads (own_below' Rl7.out hx9)) (by omega) (OwnT.reads hou9) (by omega) (OwnT.reads hov9) (by omega) (hE.below (HL9.out.mono hB) h0) (hEc.below (HL9.out.mono hB) h0c)).mono ?_
                rintro e wz ⟨rfl, hbz⟩
                have HZ := Lib.hid (HL9.out.trans (hbz.mono HL9.out.size))
                have KZ := Lib.hid (Blk.below K9.out hbz K9.out.lt)
                have z1 : wz.cell? ⟨w1.heap.size, 1, none⟩ = some (.int .i64 1) := KZ.out.cell 1
                rw [HLE.out]
                clear hbz
                go_wp2
                go_ret
                exact ⟨rfl, HZ.out⟩
              · have dV : decide (0 ≤ V) = false := by simpa using hV
                have HLV := Lib.hid (sideL_neg hV)
                clear hV
                obtain ⟨X2, hX2⟩ : ∃ X, (w7.alloc (.cells #[.int .i64 0, .int .i64 0] 48)).alloc (.cells #[.int .i64 0, .int .i64 0] 48) = X := ⟨_, rfl⟩
                have hx2 : Below w7.heap.size w7 X2 := by rw [← hX2]; exact ((Below.refl _ _).alloc (Nat.le_refl _) _).alloc (by simp) _
                have b0 : Blk X2 w7.heap.size 48 #[.int .i64 0, .int .i64 0] := by rw [← hX2]; exact (Blk.made _ _ _).alloc _
                have b1 : Blk X2 (w7.heap.size + 1) 48 #[.int .i64 0, .int .i64 0] := by rw [← hX2]; exact Blk.made' (by simp)
                have HK2 := Lib.hid (Blk.below KC7.out hx2 KC7.out.lt)
                have X2z0 : X2.cell? ⟨w1.heap.size, 0, none⟩ = some (.int .i64 U) := HK2.out.cell 0
                have X2z1 : X2.cell? ⟨w1.heap.size, 1, none⟩ = some (.int .i64 1) := HK2.out.cell 1
                have X2z2 : X2.cell? ⟨w1.heap.size, 2, none⟩ = some (.int .i64 V) := HK2.out.cell 2
                obtain ⟨X3, hX3⟩ : ∃ X, X2.alloc (.cells #[.int .i64 4, .int .i64 U] 48) = X := ⟨_, rfl⟩
                have sX3 : Below X2.heap.size X2 X3 := by rw [← hX3]; exact (Below.refl _ _).alloc (Nat.le_refl _) _
                have b0X3 := (b0).below sX3 (b0).lt
                have b1X3 := (b1).below sX3 (b1).lt
                have nX3 : Blk X3 X2.heap.size 48 #[.int .i64 4, .int .i64 U] := by rw [← hX3]; exact Blk.made _ _ _
                have X3k := hx2.trans (sX3.mono hx2.size)
                have KX3 := Lib.hid (Blk.below HK2.out sX3 HK2.out.lt)
                have X3z0 : X3.cell? ⟨w1.heap.size, 0, none⟩ = some (.int .i64 U) := KX3.out.cell 0
                have X3z1 : X3.cell? ⟨w1.heap.size, 1, none⟩ = some (.int .i64 1) := KX3.out.cell 1
                have X3z2 : X3.cell? ⟨w1.heap.size, 2, none⟩ = some (.int .i64 V) := KX3.out.cell 2
                have HL := Lib.hid (HB7.out.trans (X3k.mono HB7.out.size))
                have hou : OwnT X3 w7.heap.size (some ⟨X2.heap.size, 0, none⟩) 1 1 (sideL U) := by rw [HLU.out]; exact own_litJ nX3 (by have q1 := hx2.size; have q2 := sX3.size; omega)
                have hov : OwnT X3 w7.heap.size (some ⟨w7.heap.size + 1, 0, none⟩) 1 1 (sideL V) := by rw [HLV.out]; exact own_litJ b1X3 (by have q1 := hx2.size; have q2 := sX3.size; omega)
                have HLE := Lib.hid ((imp_lt HS.out HK.out).trans HY.out)
                have hne : ∀ {r : Nat}, (Value.slice (some ⟨X2.heap.size, 0, none⟩) 1 1).ownBlock = some r → r = X2.heap.size := fun h => by have h' : X2.heap.size = _ := (by simpa [Value.ownBlock] using h); omega
                have hpq : w7.heap.size + 1 ≠ X2.heap.size := by have q1 := (nX3).lt; have q2 := (b1X3).lt; have q3 := b0.lt; have q4 := b1.lt; omega
                go_wp2_with (at_builtin; refine wpList_append_own _ rfl (.tmp 75) (.tmp 77) 24 rfl w7.heap.size 48 i0 (.agg #[.int .i64 0, .int .i64 0]) 2 16 Tryd.underlying24 hi hz0 hz1 hz2 rfl (by decide) (.slice (some ⟨X2.heap.size, 0, none⟩) 1 1) 1 (tokCells (sideL U)) rfl (hou.alloc _) ⟨X3.heap.size, 0, none⟩ 1 1 (tokCells [(1, 0)]) rfl rfl (Blk.tokA2 _ _ _) (tokCells_one _) (by unfold maxLen; omega) (by omega) (by have := X3k.size; simp; omega) ?_; intro v' X9 hown' hgrow hnil; obtain ⟨g9, c9, rfl⟩ := tok_two hown'; have hx9 : Below w7.heap.size w7 X9 := (X3k.alloc X3k.size _).grown hgrow (by have := X3k.size; simp; omega) (fun x h => (hou.lt x h).1); have hov9 : OwnT X9 w7.heap.size (some ⟨w7.heap.size + 1, 0, none⟩) 1 1 (sideL V) := (by rw [HLV.out]; exact own_litJ ((Blk.alloc b1X3 _).grown hgrow (fun he => hpq (hne he.symm))) (by have q1 := hx2.size; have q2 := sX3.size; omega)); have hou9 : OwnT X9 w7.heap.size (some ⟨g9, 0, none⟩) 2 c9 (sideL U ++ [(1, 0)]) := (by show X9.ownsRow _ _ _ _ _ _; rw [tokCells_append]; exact hown'); clear hown' hgrow hnil)
                have HL9 := Lib.hid (HB7.out.trans (hx9.mono HB7.out.size))
                have K9 := Lib.hid (Blk.below KC7.out hx9 KC7.out.lt)
                refine (implLeUnder_any X9 X9.heap.size (some ⟨g, 0, none⟩) m cap l (some ⟨g9, 0, none⟩) 2 c9 (sideL U ++ [(1, 0)]) (some ⟨w7.heap.size + 1, 0, none⟩) 1 1 (sideL V) T pv Tc pc (Nat.lt_of_lt_of_le h0 (Nat.le_trans hB HL9.out.size)) (Nat.lt_of_lt_of_le h0c (Nat.le_trans hB HL9.out.size)) (Nat.le_refl _) (.inl ⟨_, _, rfl⟩) (OwnC.reads (own_below' Rl7.out hx9)) (by omega) (OwnT.reads hou9) (by omega) (OwnT.reads hov9) (by omega) (hE.below (HL9.out.mono hB) h0) (hEc.below (HL9.out.mono hB) h0c)).mono ?_
                rintro e wz ⟨rfl, hbz⟩
                have HZ := Lib.hid (HL9.out.trans (hbz.mono HL9.out.size))
                have KZ := Lib.hid (Blk.below K9.out hbz K9.out.lt)
                have z1 : wz.cell? ⟨w1.heap.size, 1, none⟩ = some (.int .i64 1) := KZ.out.cell 1
                rw [HLE.out]
                clear hbz
                go_wp2
                go_ret
                exact ⟨rfl, HZ.out⟩
            · have dU : decide (0 ≤ U) = false := by simpa using hU
              have HLU := Lib.hid (sideL_neg hU)
              clear hU
              by_cases hV : 0 ≤ V
              · have dV : decide (0 ≤ V) = true := by simpa using hV
                have HLV := Lib.hid (sideL_pos hV)
                clear hV
                obtain ⟨X2, hX2⟩ : ∃ X, (w7.alloc (.cells #[.int .i64 0, .int .i64 0] 48)).alloc (.cells #[.int .i64 0, .int .i64 0] 48) = X := ⟨_, rfl⟩
                have hx2 : Below w7.heap.size w7 X2 := by rw [← hX2]; exact ((Below.refl _ _).alloc (Nat.le_refl _) _).alloc (by simp) _
                have b0 : Blk X2 w7.heap.size 48 #[.int .i64 0, .int .i64 0] := by rw [← hX2]; exact (Blk.made _ _ _).alloc _
                have b1 : Blk X2 (w7.heap.size + 1) 48 #[.int .i64 0, .int .i64 0] := by rw [← hX2]; exact Blk.made' (by simp)
                have HK2 := Lib.hid (Blk.below KC7.out hx2 KC7.out.lt)
                have X2z0 : X2.cell? ⟨w1.heap.size, 0, none⟩ = some (.int .i64 U) := HK2.out.cell 0
                have X2z1 : X2.cell? ⟨w1.heap.size, 1, none⟩ = some (.int .i64 1) := HK2.out.cell 1
                have X2z2 : X2.cell? ⟨w1.heap.size, 2, none⟩ = some (.int .i64 V) := HK2.out.cell 2
                obtain ⟨X4, hX4⟩ : ∃ X, X2.alloc (.cells #[.int .i64 4, .int .i64 V] 48) = X := ⟨_, rfl⟩
                have sX4 : Below X2.heap.size X2 X4 := by rw [← hX4]; exact (Below.refl _ _).alloc (Nat.le_refl _) _
                have b0X4 := (b0).below sX4 (b0).lt
                have b1X4 := (b1).below sX4 (b1).lt
                have nX4 : Blk X4 X2.heap.size 48 #[.int .i64 4, .int .i64 V] := by rw [← hX4]; exact Blk.made _ _ _
                have X4k := hx2.trans (sX4.mono hx2.size)
                have KX4 := Lib.hid (Blk.below HK2.out sX4 HK2.out.lt)
                have X4z0 : X4.cell? ⟨w1.heap.size, 0, none⟩ = some (.int .i64 U) := KX4.out.cell 0
                have X4z1 : X4.cell? ⟨w1.heap.size, 1, none⟩ = some (.int .i64 1) := KX4.out.cell 1
                have X4z2 : X4.cell? ⟨w1.heap.size, 2, none⟩ = some (.int .i64 V) := KX4.out.cell 2
                have HL := Lib.hid (HB7.out.trans (X4k.mono HB7.out.size))
                have hou : OwnT X4 w7.heap.size (some ⟨w7.heap.size, 0, none⟩) 1 1 (sideL U) := by rw [HLU.out]; exact own_litJ b0X4 (by have q1 := hx2.size; omega)
                have hov : OwnT X4 w7.heap.size (some ⟨X2.heap.size, 0, none⟩) 1 1 (sideL V) := by rw [HLV.out]; exact own_litJ nX4 (by have q1 := hx2.size; omega)
                have HLE := Lib.hid ((imp_lt HS.out HK.out).trans HY.out)
                have hne : ∀ {r : Nat}, (Value.slice (some ⟨w7.heap.size, 0, none⟩) 1 1).ownBlock = some r → r = w7.heap.size := fun h => by have h' : w7.heap.size = _ := (by simpa [Value.ownBlock] using h); omega
                have hpq : X2.heap.size ≠ w7.heap.size := by have q1 := (b0X4).lt; have q2 := (nX4).lt; have q3 := b0.lt; have q4 := b1.lt; omega
                go_wp2_with (at_builtin; refine wpList_append_own _ rfl (.tmp 75) (.tmp 77) 24 rfl w7.heap.size 48 i0 (.agg #[.int .i64 0, .int .i64 0]) 2 16 Tryd.underlying24 hi hz0 hz1 hz2 rfl (by decide) (.slice (some ⟨w7.heap.size, 0, none⟩) 1 1) 1 (tokCells (sideL U)) rfl (hou.alloc _) ⟨X4.heap.size, 0, none⟩ 1 1 (tokCells [(1, 0)]) rfl rfl (Blk.tokA2 _ _ _) (tokCells_one _) (by unfold maxLen; omega) (by omega) (by have := X4k.size; simp; omega) ?_; intro v' X9 hown' hgrow hnil; obtain ⟨g9, c9, rfl⟩ := tok_two hown'; have hx9 : Below w7.heap.size w7 X9 := (X4k.alloc X4k.size _).grown hgrow (by have := X4k.size; simp; omega) (fun x h => (hou.lt x h).1); have hov9 : OwnT X9 w7.heap.size (some ⟨X2.heap.size, 0, none⟩) 1 1 (sideL V) := (by rw [HLV.out]; exact own_litJ ((Blk.alloc nX4 _).grown hgrow (fun he => hpq (hne he.symm))) (by have q1 := hx2.size; omega)); have hou9 : OwnT X9 w7.heap.size (some ⟨g9, 0, none⟩) 2 c9 (sideL U ++ [(1, 0)]) := (by show X9.ownsRow _ _ _ _ _ _; rw [tokCells_append]; exact hown'); clear hown' hgrow hnil)
                have HL9 := Lib.hid (HB7.out.trans (hx9.mono HB7.out.size))
                have K9 := Lib.hid (Blk.below KC7.out hx9 KC7.out.lt)
                refine (implLeUnder_any X9 X9.heap.size (some ⟨g, 0, none⟩) m cap l (some ⟨g9, 0, none⟩) 2 c9 (sideL U ++ [(1, 0)]) (some ⟨X2.heap.size, 0, none⟩) 1 1 (sideL V) T pv Tc pc (Nat.lt_of_lt_of_le h0 (Nat.le_trans hB HL9.out.size)) (Nat.lt_of_lt_of_le h0c (Nat.le_trans hB HL9.out.size)) (Nat.le_refl _) (.inl ⟨_, _, rfl⟩) (OwnC.reads (own_below' Rl7.out hx9)) (by omega) (OwnT.reads hou9) (by omega) (OwnT.reads hov9) (by omega) (hE.below (HL9.out.mono hB) h0) (hEc.below (HL9.out.mono hB) h0c)).mono ?_
                rintro e wz ⟨rfl, hbz⟩
                have HZ := Lib.hid (HL9.out.trans (hbz.mono HL9.out.size))
                have KZ := Lib.hid (Blk.below K9.out hbz K9.out.lt)
                have z1 : wz.cell? ⟨w1.heap.size, 1, none⟩ = some (.int .i64 1) := KZ.out.cell 1
                rw [HLE.out]
                clear hbz
                go_wp2
                go_ret
                exact ⟨rfl, HZ.out⟩
              · have dV : decide (0 ≤ V) = false := by simpa using hV
                have HLV := Lib.hid (sideL_neg hV)
                clear hV
                obtain ⟨X2, hX2⟩ : ∃ X, (w7.alloc (.cells #[.int .i64 0, .int .i64 0] 48)).alloc (.cells #[.int .i64 0, .int .i64 0] 48) = X := ⟨_, rfl⟩
                have hx2 : Below w7.heap.size w7 X2 := by rw [← hX2]; exact ((Below.refl _ _).alloc (Nat.le_refl _) _).alloc (by simp) _
                have b0 : Blk X2 w7.heap.size 48 #[.int .i64 0, .int .i64 0] := by rw [← hX2]; exact (Blk.made _ _ _).alloc _
                have b1 : Blk X2 (w7.heap.size + 1) 48 #[.int .i64 0, .int .i64 0] := by rw [← hX2]; exact Blk.made' (by simp)
                have HK2 := Lib.hid (Blk.below KC7.out hx2 KC7.out.lt)
                have X2z0 : X2.cell? ⟨w1.heap.size, 0, none⟩ = some (.int .i64 U) := HK2.out.cell 0
                have X2z1 : X2.cell? ⟨w1.heap.size, 1, none⟩ = some (.int .i64 1) := HK2.out.cell 1
                have X2z2 : X2.cell? ⟨w1.heap.size, 2, none⟩ = some (.int .i64 V) := HK2.out.cell 2
                have HL := Lib.hid (HB7.out.trans (hx2.mono HB7.out.size))
                have hou : OwnT X2 w7.heap.size (some ⟨w7.heap.size, 0, none⟩) 1 1 (sideL U) := by rw [HLU.out]; exact own_litJ b0 (by have q1 := hx2.size; omega)
                have hov : OwnT X2 w7.heap.size (some ⟨w7.heap.size + 1, 0, none⟩) 1 1 (sideL V) := by rw [HLV.out]; exact own_litJ b1 (by have q1 := hx2.size; omega)
                have HLE := Lib.hid ((imp_lt HS.out HK.out).trans HY.out)
                have hne : ∀ {r : Nat}, (Value.slice (some ⟨w7.heap.size, 0, none⟩) 1 1).ownBlock = some r → r = w7.heap.size := fun h => by have h' : w7.heap.size = _ := (by simpa [Value.ownBlock] using h); omega
                have hpq : w7.heap.size + 1 ≠ w7.heap.size := by have q1 := (b0).lt; have q2 := (b1).lt; have q3 := b0.lt; have q4 := b1.lt; omega
                go_wp2_with (at_builtin; refine wpList_append_own _ rfl (.tmp 75) (.tmp 77) 24 rfl w7.heap.size 48 i0 (.agg #[.int .i64 0, .int .i64 0]) 2 16 Tryd.underlying24 hi hz0 hz1 hz2 rfl (by decide) (.slice (some ⟨w7.heap.size, 0, none⟩) 1 1) 1 (tokCells (sideL U)) rfl (hou.alloc _) ⟨X2.heap.size, 0, none⟩ 1 1 (tokCells [(1, 0)]) rfl rfl (Blk.tokA2 _ _ _) (tokCells_one _) (by unfold maxLen; omega) (by omega) (by have := hx2.size; simp; omega) ?_; intro v' X9 hown' hgrow hnil; obtain ⟨g9, c9, rfl⟩ := tok_two hown'; have hx9 : Below w7.heap.size w7 X9 := (hx2.alloc hx2.size _).grown hgrow (by have := hx2.size; simp; omega) (fun x h => (hou.lt x h).1); have hov9 : OwnT X9 w7.heap.size (some ⟨w7.heap.size + 1, 0, none⟩) 1 1 (sideL V) := (by rw [HLV.out]; exact own_litJ ((Blk.alloc b1 _).grown hgrow (fun he => hpq (hne he.symm))) (by have q1 := hx2.size; omega)); have hou9 : OwnT X9 w7.heap.size (some ⟨g9, 0, none⟩) 2 c9 (sideL U ++ [(1, 0)]) := (by show X9.ownsRow _ _ _ _ _ _; rw [tokCells_append]; exact hown'); clear hown' hgrow hnil)
                have HL9 := Lib.hid (HB7.out.trans (hx9.mono HB7.out.size))
                have K9 := Lib.hid (Blk.below KC7.out hx9 KC7.out.lt)
                refine (implLeUnder_any X9 X9.heap.size (some ⟨g, 0, none⟩) m cap l (some ⟨g9, 0, none⟩) 2 c9 (sideL U ++ [(1, 0)]) (some ⟨w7.heap.size + 1, 0, none⟩) 1 1 (sideL V) T pv Tc pc (Nat.lt_of_lt_of_le h0 (Nat.le_trans hB HL9.out.size)) (Nat.lt_of_lt_of_le h0c (Nat.le_trans hB HL9.out.size)) (Nat.le_refl _) (.inl ⟨_, _, rfl⟩) (OwnC.reads (own_below' Rl7.out hx9)) (by omega) (OwnT.reads hou9) (by omega) (OwnT.reads hov9) (by omega) (hE.below (HL9.out.mono hB) h0) (hEc.below (HL9.out.mono hB) h0c)).mono ?_
                rintro e wz ⟨rfl, hbz⟩
                have HZ := Lib.hid (HL9.out.trans (hbz.mono HL9.out.size))
                have KZ := Lib.hid (Blk.below K9.out hbz K9.out.lt)
                have z1 : wz.cell? ⟨w1.heap.size, 1, none⟩ = some (.int .i64 1) := KZ.out.cell 1
                rw [HLE.out]
                clear hbz
                go_wp2
                go_ret
                exact ⟨rfl, HZ.out⟩
          · skip
            by_cases hU : 0 ≤ U
            · have dU : decide (0 ≤ U) = true := by simpa using hU
              have HLU := Lib.hid (sideL_pos hU)
              clear hU
              by_cases hV : 0 ≤ V
              · have dV : decide (0 ≤ V) = true := by simpa using hV
                have HLV := Lib.hid (sideL_pos hV)
                clear hV
                obtain ⟨X2, hX2⟩ : ∃ X, (w7.alloc (.cells #[.int .i64 0, .int .i64 0] 48)).alloc (.cells #[.int .i64 0, .int .i64 0] 48) = X := ⟨_, rfl⟩
                have hx2 : Below w7.heap.size w7 X2 := by rw [← hX2]; exact ((Below.refl _ _).alloc (Nat.le_refl _) _).alloc (by simp) _
                have b0 : Blk X2 w7.heap.size 48 #[.int .i64 0, .int .i64 0] := by rw [← hX2]; exact (Blk.made _ _ _).alloc _
                have b1 : Blk X2 (w7.heap.size + 1) 48 #[.int .i64 0, .int .i64 0] := by rw [← hX2]; exact Blk.made' (by simp)
                have HK2 := Lib.hid (Blk.below KC7.out hx2 KC7.out.lt)
                have X2z0 : X2.cell? ⟨w1.heap.size, 0, none⟩ = some (.int .i64 U) := HK2.out.cell 0
                have X2z1 : X2.cell? ⟨w1.heap.size, 1, none⟩ = some (.int .i64 2) := HK2.out.cell 1
                have X2z2 : X2.cell? ⟨w1.heap.size, 2, none⟩ = some (.int .i64 V) := HK2.out.cell 2
                obtain ⟨X3, hX3⟩ : ∃ X, X2.alloc (.cells #[.int .i64 4, .int .i64 U] 48) = X := ⟨_, rfl⟩
                have sX3 : Below X2.heap.size X2 X3 := by rw [← hX3]; exact (Below.refl _ _).alloc (Nat.le_refl _) _
                have b0X3 := (b0).below sX3 (b0).lt
                have b1X3 := (b1).below sX3 (b1).lt
                have nX3 : Blk X3 X2.heap.size 48 #[.int .i64 4, .int .i64 U] := by rw [← hX3]; exact Blk.made _ _ _
                have X3k := hx2.trans (sX3.mono hx2.size)
                have KX3 := Lib.hid (Blk.below HK2.out sX3 HK2.out.lt)
                have X3z0 : X3.cell? ⟨w1.heap.size, 0, none⟩ = some (.int .i64 U) := KX3.out.cell 0
                have X3z1 : X3.cell? ⟨w1.heap.size, 1, none⟩ = some (.int .i64 2) := KX3.out.cell 1
                have X3z2 : X3.cell? ⟨w1.heap.size, 2, none⟩ = some (.int .i64 V) := KX3.out.cell 2
                obtain ⟨X4, hX4⟩ : ∃ X, X3.alloc (.cells #[.int .i64 4, .int .i64 V] 48) = X := ⟨_, rfl⟩
                have sX4 : Below X3.heap.size X3 X4 := by rw [← hX4]; exact (Below.refl _ _).alloc (Nat.le_refl _) _
                have nX3X4 := (nX3).below sX4 (nX3).lt
                have b1X3X4 := (b1X3).below sX4 (b1X3).lt
                have nX4 : Blk X4 X3.heap.size 48 #[.int .i64 4, .int .i64 V] := by rw [← hX4]; exact Blk.made _ _ _
                have X4k := X3k.trans (sX4.mono X3k.size)
                have KX4 := Lib.hid (Blk.below KX3.out sX4 KX3.out.lt)
                have X4z0 : X4.cell? ⟨w1.heap.size, 0, none⟩ = some (.int .i64 U) := KX4.out.cell 0
                have X4z1 : X4.cell? ⟨w1.heap.size, 1, none⟩ = some (.int .i64 2) := KX4.out.cell 1
                have X4z2 : X4.cell? ⟨w1.heap.size, 2, none⟩ = some (.int .i64 V) := KX4.out.cell 2
                have HL := Lib.hid (HB7.out.trans (X4k.mono HB7.out.size))
                have hou : OwnT X4 w7.heap.size (some ⟨X2.heap.size, 0, none⟩) 1 1 (sideL U) := by rw [HLU.out]; exact own_litJ nX3X4 (by have q1 := hx2.size; have q2 := sX3.size; omega)
                have hov : OwnT X4 w7.heap.size (some ⟨X3.heap.size, 0, none⟩) 1 1 (sideL V) := by rw [HLV.out]; exact own_litJ nX4 (by have q1 := hx2.size; have q2 := sX3.size; omega)
                have HLE := Lib.hid ((imp_eq HS.out HK.out).trans HY.out)
                go_wp2_with fail
                refine (implLeUnder_any X4 X4.heap.size (some ⟨g, 0, none⟩) m cap l (some ⟨X2.heap.size, 0, none⟩) 1 1 (sideL U) (some ⟨X3.heap.size, 0, none⟩) 1 1 (sideL V) T pv Tc pc (Nat.lt_of_lt_of_le h0 (Nat.le_trans hB HL.out.size)) (Nat.lt_of_lt_of_le h0c (Nat.le_trans hB HL.out.size)) (Nat.le_refl _) (.inl ⟨_, _, rfl⟩) (OwnC.reads (own_below' Rl7.out X4k)) (by omega) (OwnT.reads hou) (by omega) (OwnT.reads hov) (by omega) (hE.below (HL.out.mono hB) h0) (hEc.below (HL.out.mono hB) h0c)).mono ?_
                rintro e wz ⟨rfl, hbz⟩
                have HZ := Lib.hid (HL.out.trans (hbz.mono HL.out.size))
                have KZ := Lib.hid (Blk.below KX4.out hbz KX4.out.lt)
                have z1 : wz.cell? ⟨w1.heap.size, 1, none⟩ = some (.int .i64 2) := KZ.out.cell 1
                generalize leUnR l (sideL U) (sideL V) = zz
                have rl2 := (OwnC.reads (own_below' Rl7.out X4k)).below hbz
                have ru2 := (OwnT.reads hou).below hbz
                have rv2 := (OwnT.reads hov).below hbz
                have hsz2 := hbz.size
                go_wp2_with fail
                refine (implEqUnder_any wz X4.heap.size (some ⟨g, 0, none⟩) m cap l (some ⟨X2.heap.size, 0, none⟩) 1 1 (sideL U) (some ⟨X3.heap.size, 0, none⟩) 1 1 (sideL V) T pv Tc pc (Nat.lt_of_lt_of_le h0 (Nat.le_trans hB HL.out.size)) (Nat.lt_of_lt_of_le h0c (Nat.le_trans hB HL.out.size)) hsz2 (.inl ⟨_, _, rfl⟩) rl2 (by omega) ru2 (by omega) rv2 (by omega) (hE.below (HZ.out.mono hB) h0) (hEc.below (HZ.out.mono hB) h0c)).mono ?_
                rintro e wq ⟨rfl, hbq⟩
                have HQ := Lib.hid (HZ.out.trans (hbq.mono HZ.out.size))
                rw [HLE.out]
                clear hbq hbz
                go_wp2
                go_ret
                exact ⟨rfl, HQ.out⟩
              · have dV : decide (0 ≤ V) = false := by simpa using hV
                have HLV := Lib.hid (sideL_neg hV)
                clear hV
                obtain ⟨X2, hX2⟩ : ∃ X, (w7.alloc (.cells #[.int .i64 0, .int .i64 0] 48)).alloc (.cells #[.int .i64 0, .int .i64 0] 48) = X := ⟨_, rfl⟩
                have hx2 : Below w7.heap.size w7 X2 := by rw [← hX2]; exact ((Below.refl _ _).alloc (Nat.le_refl _) _).alloc (by simp) _
                have b0 : Blk X2 w7.heap.size 48 #[.int .i64 0, .int .i64 0] := by rw [← hX2]; exact (Blk.made _ _ _).alloc _
                have b1 : Blk X2 (w7.heap.size + 1) 48 #[.int .i64 0, .int .i64 0] := by rw [← hX2]; exact Blk.made' (by simp)
                have HK2 := Lib.hid (Blk.below KC7.out hx2 KC7.out.lt)
                have X2z0 : X2.cell? ⟨w1.heap.size, 0, none⟩ = some (.int .i64 U) := HK2.out.cell 0
                have X2z1 : X2.cell? ⟨w1.heap.size, 1, none⟩ = some (.int .i64 2) := HK2.out.cell 1
                have X2z2 : X2.cell? ⟨w1.heap.size, 2, none⟩ = some (.int .i64 V) := HK2.out.cell 2
                obtain ⟨X3, hX3⟩ : ∃ X, X2.alloc (.cells #[.int .i64 4, .int .i64 U] 48) = X := ⟨_, rfl⟩
                have sX3 : Below X2.heap.size X2 X3 := by rw [← hX3]; exact (Below.refl _ _).alloc (Nat.le_refl _) _
                have b0X3 := (b0).below sX3 (b0).lt
                have b1X3 := (b1).below sX3 (b1).lt
                have nX3 : Blk X3 X2.heap.size 48 #[.int .i64 4, .int .i64 U] := by rw [← hX3]; exact Blk.made _ _ _
                have X3k := hx2.trans (sX3.mono hx2.size)
                have KX3 := Lib.hid (Blk.below HK2.out sX3 HK2.out.lt)
                have X3z0 : X3.cell? ⟨w1.heap.size, 0, none⟩ = some (.int .i64 U) := KX3.out.cell 0
                have X3z1 : X3.cell? ⟨w1.heap.size, 1, none⟩ = some (.int .i64 2) := KX3.out.cell 1
                have X3z2 : X3.cell? ⟨w1.heap.size, 2, none⟩ = some (.int .i64 V) := KX3.out.cell 2
                have HL := Lib.hid (HB7.out.trans (X3k.mono HB7.out.size))
                have hou : OwnT X3 w7.heap.size (some ⟨X2.heap.size, 0, none⟩) 1 1 (sideL U) := by rw [HLU.out]; exact own_litJ nX3 (by have q1 := hx2.size; have q2 := sX3.size; omega)
                have hov : OwnT X3 w7.heap.size (some ⟨w7.heap.size + 1, 0, none⟩) 1 1 (sideL V) := by rw [HLV.out]; exact own_litJ b1X3 (by have q1 := hx2.size; have q2 := sX3.size; omega)
                have HLE := Lib.hid ((imp_eq HS.out HK.out).trans HY.out)
                go_wp2_with fail
                refine (implLeUnder_any X3 X3.heap.size (some ⟨g, 0, none⟩) m cap l (some ⟨X2.heap.size, 0, none⟩) 1 1 (sideL U) (some ⟨w7.heap.size + 1, 0, none⟩) 1 1 (sideL V) T pv Tc pc (Nat.lt_of_lt_of_le h0 (Nat.le_trans hB HL.out.size)) (Nat.lt_of_lt_of_le h0c (Nat.le_trans hB HL.out.size)) (Nat.le_refl _) (.inl ⟨_, _, rfl⟩) (OwnC.reads (own_below' Rl7.out X3k)) (by omega) (OwnT.reads hou) (by omega) (OwnT.reads hov) (by omega) (hE.below (HL.out.mono hB) h0) (hEc.below (HL.out.mono hB) h0c)).mono ?_
                rintro e wz ⟨rfl, hbz⟩
                have HZ := Lib.hid (HL.out.trans (hbz.mono HL.out.size))
                have KZ := Lib.hid (Blk.below KX3.out hbz KX3.out.lt)
                have z1 : wz.cell? ⟨w1.heap.size, 1, none⟩ = some (.int .i64 2) := KZ.out.cell 1
                generalize leUnR l (sideL U) (sideL V) = zz
                have rl2 := (OwnC.reads (own_below' Rl7.out X3k)).below hbz
                have ru2 := (OwnT.reads hou).below hbz
                have rv2 := (OwnT.reads hov).below hbz
                have hsz2 := hbz.size
                go_wp2_with fail
                refine (implEqUnder_any wz X3.heap.size (some ⟨g, 0, none⟩) m cap l (some ⟨X2.heap.size, 0, none⟩) 1 1 (sideL U) (some ⟨w7.heap.size + 1, 0, none⟩) 1 1 (sideL V) T pv Tc pc (Nat.lt_of_lt_of_le h0 (Nat.le_trans hB HL.out.size)) (Nat.lt_of_lt_of_le h0c (Nat.le_trans hB HL.out.size)) hsz2 (.inl ⟨_, _, rfl⟩) rl2 (by omega) ru2 (by omega) rv2 (by omega) (hE.below (HZ.out.mono hB) h0) (hEc.below (HZ.out.mono hB) h0c)).mono ?_
                rintro e wq ⟨rfl, hbq⟩
                have HQ := Lib.hid (HZ.out.trans (hbq.mono HZ.out.size))
                rw [HLE.out]
                clear hbq hbz
                go_wp2
                go_ret
                exact ⟨rfl, HQ.out⟩
            · have dU : decide (0 ≤ U) = false := by simpa using hU
              have HLU := Lib.hid (sideL_neg hU)
              clear hU
              by_cases hV : 0 ≤ V
              · have dV : decide (0 ≤ V) = true := by simpa using hV
                have HLV := Lib.hid (sideL_pos hV)
                clear hV
                obtain ⟨X2, hX2⟩ : ∃ X, (w7.alloc (.cells #[.int .i64 0, .int .i64 0] 48)).alloc (.cells #[.int .i64 0, .int .i64 0] 48) = X := ⟨_, rfl⟩
                have hx2 : Below w7.heap.size w7 X2 := by rw [← hX2]; exact ((Below.refl _ _).alloc (Nat.le_refl _) _).alloc (by simp) _
                have b0 : Blk X2 w7.heap.size 48 #[.int .i64 0, .int .i64 0] := by rw [← hX2]; exact (Blk.made _ _ _).alloc _
                have b1 : Blk X2 (w7.heap.size + 1) 48 #[.int .i64 0, .int .i64 0] := by rw [← hX2]; exact Blk.made' (by simp)
                have HK2 := Lib.hid (Blk.below KC7.out hx2 KC7.out.lt)
                have X2z0 : X2.cell? ⟨w1.heap.size, 0, none⟩ = some (.int .i64 U) := HK2.out.cell 0
                have X2z1 : X2.cell? ⟨w1.heap.size, 1, none⟩ = some (.int .i64 2) := HK2.out.cell 1
                have X2z2 : X2.cell? ⟨w1.heap.size, 2, none⟩ = some (.int .i64 V) := HK2.out.cell 2
                obtain ⟨X4, hX4⟩ : ∃ X, X2.alloc (.cells #[.int .i64 4, .int .i64 V] 48) = X := ⟨_, rfl⟩
                have sX4 : Below X2.heap.size X2 X4 := by rw [← hX4]; exact (Below.refl _ _).alloc (Nat.le_refl _) _
                have b0X4 := (b0).below sX4 (b0).lt
                have b1X4 := (b1).below sX4 (b1).lt
                have nX4 : Blk X4 X2.heap.size 48 #[.int .i64 4, .int .i64 V] := by rw [← hX4]; exact Blk.made _ _ _
                have X4k := hx2.trans (sX4.mono hx2.size)
                have KX4 := Lib.hid (Blk.below HK2.out sX4 HK2.out.lt)
                have X4z0 : X4.cell? ⟨w1.heap.size, 0, none⟩ = some (.int .i64 U) := KX4.out.cell 0
                have X4z1 : X4.cell? ⟨w1.heap.size, 1, none⟩ = some (.int .i64 2) := KX4.out.cell 1
                have X4z2 : X4.cell? ⟨w1.heap.size, 2, none⟩ = some (.int .i64 V) := KX4.out.cell 2
                have HL := Lib.hid (HB7.out.trans (X4k.mono HB7.out.size))
                have hou : OwnT X4 w7.heap.size (some ⟨w7.heap.size, 0, none⟩) 1 1 (sideL U) := by rw [HLU.out]; exact own_litJ b0X4 (by have q1 := hx2.size; omega)
                have hov : OwnT X4 w7.heap.size (some ⟨X2.heap.size, 0, none⟩) 1 1 (sideL V) := by rw [HLV.out]; exact own_litJ nX4 (by have q1 := hx2.size; omega)
                have HLE := Lib.hid ((imp_eq HS.out HK.out).trans HY.out)
                go_wp2_with fail
                refine (implLeUnder_any X4 X4.heap.size (some ⟨g, 0, none⟩) m cap l (some ⟨w7.heap.size, 0, none⟩) 1 1 (sideL U) (some ⟨X2.heap.size, 0, none⟩) 1 1 (sideL V) T pv Tc pc (Nat.lt_of_lt_of_le h0 (Nat.le_trans hB HL.out.size)) (Nat.lt_of_lt_of_le h0c (Nat.le_trans hB HL.out.size)) (Nat.le_refl _) (.inl ⟨_, _, rfl⟩) (OwnC.reads (own_below' Rl7.out X4k)) (by omega) (OwnT.reads hou) (by omega) (OwnT.reads hov) (by omega) (hE.below (HL.out.mono hB) h0) (hEc.below (HL.out.mono hB) h0c)).mono ?_
                rintro e wz ⟨rfl, hbz⟩
                have HZ := Lib.hid (HL.out.trans (hbz.mono HL.out.size))
                have KZ := Lib.hid (Blk.below KX4.out hbz KX4.out.lt)
                have z1 : wz.cell? ⟨w1.heap.size, 1, none⟩ = some (.int .i64 2) := KZ.out.cell 1
                generalize leUnR l (sideL U) (sideL V) = zz
                have rl2 := (OwnC.reads (own_below' Rl7.out X4k)).below hbz
                have ru2 := (OwnT.reads hou).below hbz
                have rv2 := (OwnT.reads hov).below hbz
                have hsz2 := hbz.size
                go_wp2_with fail
                refine (implEqUnder_any wz X4.heap.size (some ⟨g, 0, none⟩) m cap l (some ⟨w7.heap.size, 0, none⟩) 1 1 (sideL U) (some ⟨X2.heap.size, 0, none⟩) 1 1 (sideL V) T pv Tc pc (Nat.lt_of_lt_of_le h0 (Nat.le_trans hB HL.out.size)) (Nat.lt_of_lt_of_le h0c (Nat.le_trans hB HL.out.size)) hsz2 (.inl ⟨_, _, rfl⟩) rl2 (by omega) ru2 (by omega) rv2 (by omega) (hE.below (HZ.out.mono hB) h0) (hEc.below (HZ.out.mono hB) h0c)).mono ?_
                rintro e wq ⟨rfl, hbq⟩
                have HQ := Lib.hid (HZ.out.trans (hbq.mono HZ.out.size))
                rw [HLE.out]
                clear hbq hbz
                go_wp2
                go_ret
                exact ⟨rfl, HQ.out⟩
              · have dV : decide (0 ≤ V) = false := by simpa using hV
                have HLV := Lib.hid (sideL_neg hV)
                clear hV
                obtain ⟨X2, hX2⟩ : ∃ X, (w7.alloc (.cells #[.int .i64 0, .int .i64 0] 48)).alloc (.cells #[.int .i64 0, .int .i64 0] 48) = X := ⟨_, rfl⟩
                have hx2 : Below w7.heap.size w7 X2 := by rw [← hX2]; exact ((Below.refl _ _).alloc (Nat.le_refl _) _).alloc (by simp) _
                have b0 : Blk X2 w7.heap.size 48 #[.int .i64 0, .int .i64 0] := by rw [← hX2]; exact (Blk.made _ _ _).alloc _
                have b1 : Blk X2 (w7.heap.size + 1) 48 #[.int .i64 0, .int .i64 0] := by rw [← hX2]; exact Blk.made' (by simp)
                have HK2 := Lib.hid (Blk.below KC7.out hx2 KC7.out.lt)
                have X2z0 : X2.cell? ⟨w1.heap.size, 0, none⟩ = some (.int .i64 U) := HK2.out.cell 0
                have X2z1 : X2.cell? ⟨w1.heap.size, 1, none⟩ = some (.int .i64 2) := HK2.out.cell 1
                have X2z2 : X2.cell? ⟨w1.heap.size, 2, none⟩ = some (.int .i64 V) := HK2.out.cell 2
                have HL := Lib.hid (HB7.out.trans (hx2.mono HB7.out.size))
                have hou : OwnT X2 w7.heap.size (some ⟨w7.heap.size, 0, none⟩) 1 1 (sideL U) := by rw [HLU.out]; exact own_litJ b0 (by have q1 := hx2.size; omega)
                have hov : OwnT X2 w7.heap.size (some ⟨w7.heap.size + 1, 0, none⟩) 1 1 (sideL V) := by rw [HLV.out]; exact own_litJ b1 (by have q1 := hx2.size; omega)
                have HLE := Lib.hid ((imp_eq HS.out HK.out).trans HY.out)
                go_wp2_with fail
                refine (implLeUnder_any X2 X2.heap.size (some ⟨g, 0, none⟩) m cap l (some ⟨w7.heap.size, 0, none⟩) 1 1 (sideL U) (some ⟨w7.heap.size + 1, 0, none⟩) 1 1 (sideL V) T pv Tc pc (Nat.lt_of_lt_of_le h0 (Nat.le_trans hB HL.out.size)) (Nat.lt_of_lt_of_le h0c (Nat.le_trans hB HL.out.size)) (Nat.le_refl _) (.inl ⟨_, _, rfl⟩) (OwnC.reads (own_below' Rl7.out hx2)) (by omega) (OwnT.reads hou) (by omega) (OwnT.reads hov) (by omega) (hE.below (HL.out.mono hB) h0) (hEc.below (HL.out.mono hB) h0c)).mono ?_
                rintro e wz ⟨rfl, hbz⟩
                have HZ := Lib.hid (HL.out.trans (hbz.mono HL.out.size))
                have KZ := Lib.hid (Blk.below HK2.out hbz HK2.out.lt)
                have z1 : wz.cell? ⟨w1.heap.size, 1, none⟩ = some (.int .i64 2) := KZ.out.cell 1
                generalize leUnR l (sideL U) (sideL V) = zz
                have rl2 := (OwnC.reads (own_below' Rl7.out hx2)).below hbz
                have ru2 := (OwnT.reads hou).below hbz
                have rv2 := (OwnT.reads hov).below hbz
                have hsz2 := hbz.size
                go_wp2_with fail
                refine (implEqUnder_any wz X2.heap.size (some ⟨g, 0, none⟩) m cap l (some ⟨w7.heap.size, 0, none⟩) 1 1 (sideL U) (some ⟨w7.heap.size + 1, 0, none⟩) 1 1 (sideL V) T pv Tc pc (Nat.lt_of_lt_of_le h0 (Nat.le_trans hB HL.out.size)) (Nat.lt_of_lt_of_le h0c (Nat.le_trans hB HL.out.size)) hsz2 (.inl ⟨_, _, rfl⟩) rl2 (by omega) ru2 (by omega) rv2 (by omega) (hE.below (HZ.out.mono hB) h0) (hEc.below (HZ.out.mono hB) h0c)).mono ?_
                rintro e wq ⟨rfl, hbq⟩
                have HQ := Lib.hid (HZ.out.trans (hbq.mono HZ.out.size))
                rw [HLE.out]
                clear hbq hbz
                go_wp2
                go_ret
                exact ⟨rfl, HQ.out⟩
        | true =>
          cases hh : consHoldR l envx with
          | false =>
            have HH := Lib.hid hh
            clear hh
            have z0 : w7.cell? ⟨w1.heap.size, 0, none⟩ = some (.int .i64 U) := KC7.out.cell 0
            have z1 : w7.cell? ⟨w1.heap.size, 1, none⟩ = some (.int .i64 R) := KC7.out.cell 1
            have z2 : w7.cell? ⟨w1.heap.size, 2, none⟩ = some (.int .i64 V) := KC7.out.cell 2
            go_wp2_with fail
            refine (implConsHold_any w7 w7.heap.size (some ⟨g, 0, none⟩) m cap l (some ⟨gx, 0, none⟩) 5 capx envx (Nat.le_refl _) (OwnC.reads Rl7.out) (by omega) (OwnI.reads Rx7.out) (by omega)).mono ?_
            rintro e w8 ⟨rfl, hb⟩
            clear z0 z1 z2
            have HB8 := Lib.hid (HB7.out.trans (hb.mono HB7.out.size))
            have Rl8 := Lib.hid (own_below' Rl7.out hb)
            have Rx8 := Lib.hid (own_below' Rx7.out hb)
            have KC8 := Lib.hid (Blk.below KC7.out hb KC7.out.lt)
            clear hb Rl7 Rx7 HB7 KC7
            rw [HH.out]
            have hR3 : R = 0 ∨ R = 1 ∨ R = 2 := by have h := ((Cs.cOk_iff _).1 HK.out).2.2; simp only at h; omega
            rcases hR3 with rfl | rfl | rfl
            · skip
              by_cases hU : 0 ≤ U
              · have dU : decide (0 ≤ U) = true := by simpa using hU
                have HLU := Lib.hid (sideL_pos hU)
                clear hU
                by_cases hV : 0 ≤ V
                · have dV : decide (0 ≤ V) = true := by simpa using hV
                  have HLV := Lib.hid (sideL_pos hV)
                  clear hV
                  obtain ⟨X2, hX2⟩ : ∃ X, (w8.alloc (.cells #[.int .i64 0, .int .i64 0] 48)).alloc (.cells #[.int .i64 0, .int .i64 0] 48) = X := ⟨_, rfl⟩
                  have hx2 : Below w8.heap.size w8 X2 := by rw [← hX2]; exact ((Below.refl _ _).alloc (Nat.le_refl _) _).alloc (by simp) _
                  have b0 : Blk X2 w8.heap.size 48 #[.int .i64 0, .int .i64 0] := by rw [← hX2]; exact (Blk.made _ _ _).alloc _
                  have b1 : Blk X2 (w8.heap.size + 1) 48 #[.int .i64 0, .int .i64 0] := by rw [← hX2]; exact Blk.made' (by simp)
                  have HK2 := Lib.hid (Blk.below KC8.out hx2 KC8.out.lt)
                  have X2z0 : X2.cell? ⟨w1.heap.size, 0, none⟩ = some (.int .i64 U) := HK2.out.cell 0
                  have X2z1 : X2.cell? ⟨w1.heap.size, 1, none⟩ = some (.int .i64 0) := HK2.out.cell 1
                  have X2z2 : X2.cell? ⟨w1.heap.size, 2, none⟩ = some (.int .i64 V) := HK2.out.cell 2
                  obtain ⟨X3, hX3⟩ : ∃ X, X2.alloc (.cells #[.int .i64 4, .int .i64 U] 48) = X := ⟨_, rfl⟩
                  have sX3 : Below X2.heap.size X2 X3 := by rw [← hX3]; exact (Below.refl _ _).alloc (Nat.le_refl _) _
                  have b0X3 := (b0).below sX3 (b0).lt
                  have b1X3 := (b1).below sX3 (b1).lt
                  have nX3 : Blk X3 X2.heap.size 48 #[.int .i64 4, .int .i64 U] := by rw [← hX3]; exact Blk.made _ _ _
                  have X3k := hx2.trans (sX3.mono hx2.size)
                  have KX3 := Lib.hid (Blk.below HK2.out sX3 HK2.out.lt)
                  have X3z0 : X3.cell? ⟨w1.heap.size, 0, none⟩ = some (.int .i64 U) := KX3.out.cell 0
                  have X3z1 : X3.cell? ⟨w1.heap.size, 1, none⟩ = some (.int .i64 0) := KX3.out.cell 1
                  have X3z2 : X3.cell? ⟨w1.heap.size, 2, none⟩ = some (.int .i64 V) := KX3.out.cell 2
                  obtain ⟨X4, hX4⟩ : ∃ X, X3.alloc (.cells #[.int .i64 4, .int .i64 V] 48) = X := ⟨_, rfl⟩
                  have sX4 : Below X3.heap.size X3 X4 := by rw [← hX4]; exact (Below.refl _ _).alloc (Nat.le_refl _) _
                  have nX3X4 := (nX3).below sX4 (nX3).lt
                  have b1X3X4 := (b1X3).below sX4 (b1X3).lt
                  have nX4 : Blk X4 X3.heap.size 48 #[.int .i64 4, .int .i64 V] := by rw [← hX4]; exact Blk.made _ _ _
                  have X4k := X3k.trans (sX4.mono X3k.size)
                  have KX4 := Lib.hid (Blk.below KX3.out sX4 KX3.out.lt)
                  have X4z0 : X4.cell? ⟨w1.heap.size, 0, none⟩ = some (.int .i64 U) := KX4.out.cell 0
                  have X4z1 : X4.cell? ⟨w1.heap.size, 1, none⟩ = some (.int .i64 0) := KX4.out.cell 1
                  have X4z2 : X4.cell? ⟨w1.heap.size, 2, none⟩ = some (.int .i64 V) := KX4.out.cell 2
                  have HL := Lib.hid (HB8.out.trans (X4k.mono HB8.out.size))
                  have hou : OwnT X4 w8.heap.size (some ⟨X2.heap.size, 0, none⟩) 1 1 (sideL U) := by rw [HLU.out]; exact own_litJ nX3X4 (by have q1 := hx2.size; have q2 := sX3.size; omega)
                  have hov : OwnT X4 w8.heap.size (some ⟨X3.heap.size, 0, none⟩) 1 1 (sideL V) := by rw [HLV.out]; exact own_litJ nX4 (by have q1 := hx2.size; have q2 := sX3.size; omega)
                  have HLE := Lib.hid ((imp_le HS.out HK.out).trans HY.out)
                  go_wp2_with fail
                  refine (implLeUnder_any X4 X4.heap.size (some ⟨g, 0, none⟩) m cap l (some ⟨X2.heap.size, 0, none⟩) 1 1 (sideL U) (some ⟨X3.heap.size, 0, none⟩) 1 1 (sideL V) T pv Tc pc (Nat.lt_of_lt_of_le h0 (Nat.le_trans hB HL.out.size)) (Nat.lt_of_lt_of_le h0c (Nat.le_trans hB HL.out.size)) (Nat.le_refl _) (.inl ⟨_, _, rfl⟩) (OwnC.reads (own_below' Rl8.out X4k)) (by omega) (OwnT.reads hou) (by omega) (OwnT.reads hov) (by omega) (hE.below (HL.out.mono hB) h0) (hEc.below (HL.out.mono hB) h0c)).mono ?_
                  rintro e wz ⟨rfl, hbz⟩
                  have HZ := Lib.hid (HL.out.trans (hbz.mono HL.out.size))
                  have KZ := Lib.hid (Blk.below KX4.out hbz KX4.out.lt)
                  have z1 : wz.cell? ⟨w1.heap.size, 1, none⟩ = some (.int .i64 0) := KZ.out.cell 1
                  rw [HLE.out]
                  clear hbz
                  go_wp2
                  go_ret
                  exact ⟨rfl, HZ.out⟩
                · have dV : decide (0 ≤ V) = false := by simpa using hV
                  have HLV := Lib.hid (sideL_neg hV)
                  clear hV
                  obtain ⟨X2, hX2⟩ : ∃ X, (w8.alloc (.cells #[.int .i64 0, .int .i64 0] 48)).alloc (.cells #[.int .i64 0, .int .i64 0] 48) = X := ⟨_, rfl⟩
                  have hx2 : Below w8.heap.size w8 X2 := by rw [← hX2]; exact ((Below.refl _ _).alloc (Nat.le_refl _) _).alloc (by simp) _
                  have b0 : Blk X2 w8.heap.size 48 #[.int .i64 0, .int .i64 0] := by rw [← hX2]; exact (Blk.made _ _ _).alloc _
                  have b1 : Blk X2 (w8.heap.size + 1) 48 #[.int .i64 0, .int .i64 0] := by rw [← hX2]; exact Blk.made' (by simp)
                  have HK2 := Lib.hid (Blk.below KC8.out hx2 KC8.out.lt)
                  have X2z0 : X2.cell? ⟨w1.heap.size, 0, none⟩ = some (.int .i64 U) := HK2.out.cell 0
                  have X2z1 : X2.cell? ⟨w1.heap.size, 1, none⟩ = some (.int .i64 0) := HK2.out.cell 1
                  have X2z2 : X2.cell? ⟨w1.heap.size, 2, none⟩ = some (.int .i64 V) := HK2.out.cell 2
                  obtain ⟨X3, hX3⟩ : ∃ X, X2.alloc (.cells #[.int .i64 4, .int .i64 U] 48) = X := ⟨_, rfl⟩
                  have sX3 : Below X2.heap.size X2 X3 := by rw [← hX3]; exact (Below.refl _ _).alloc (Nat.le_refl _) _
                  have b0X3 := (b0).below sX3 (b0).lt
                  have b1X3 := (b1).below sX3 (b1).lt
                  have nX3 : Blk X3 X2.heap.size 48 #[.int .i64 4, .int .i64 U] := by rw [← hX3]; exact Blk.made _ _ _
                  have X3k := hx2.trans (sX3.mono hx2.size)
                  have KX3 := Lib.hid (Blk.below HK2.out sX3 HK2.out.lt)
                  have X3z0 : X3.cell? ⟨w1.heap.size, 0, none⟩ = some (.int .i64 U) := KX3.out.cell 0
                  have X3z1 : X3.cell? ⟨w1.heap.size, 1, none⟩ = some (.int .i64 0) := KX3.out.cell 1
                  have X3z2 : X3.cell? ⟨w1.heap.size, 2, none⟩ = some (.int .i64 V) := KX3.out.cell 2
                  have HL := Lib.hid (HB8.out.trans (X3k.mono HB8.out.size))
                  have hou : OwnT X3 w8.heap.size (some ⟨X2.heap.size, 0, none⟩) 1 1 (sideL U) := by rw [HLU.out]; exact own_litJ nX3 (by have q1 := hx2.size; have q2 := sX3.size; omega)
                  have hov : OwnT X3 w8.heap.size (some ⟨w8.heap.size + 1, 0, none⟩) 1 1 (sideL V) := by rw [HLV.out]; exact own_litJ b1X3 (by have q1 := hx2.size; have q2 := sX3.size; omega)
                  have HLE := Lib.hid ((imp_le HS.out HK.out).trans HY.out)
                  go_wp2_with fail
                  refine (implLeUnder_any X3 X3.heap.size (some ⟨g, 0, none⟩) m cap l (some ⟨X2.heap.size, 0, none⟩) 1 1 (sideL U) (some ⟨w8.heap.size + 1, 0, none⟩) 1 1 (sideL V) T pv Tc pc (Nat.lt_of_lt_of_le h0 (Nat.le_trans hB HL.out.size)) (Nat.lt_of_lt_of_le h0c (Nat.le_trans hB HL.out.size)) (Nat.le_refl _) (.inl ⟨_, _, rfl⟩) (OwnC.reads (own_below' Rl8.out X3k)) (by omega) (OwnT.reads hou) (by omega) (OwnT.reads hov) (by omega) (hE.below (HL.out.mono hB) h0) (hEc.below (HL.out.mono hB) h0c)).mono ?_
                  rintro e wz ⟨rfl, hbz⟩
                  have HZ := Lib.hid (HL.out.trans (hbz.mono HL.out.size))
                  have KZ := Lib.hid (Blk.below KX3.out hbz KX3.out.lt)
                  have z1 : wz.cell? ⟨w1.heap.size, 1, none⟩ = some (.int .i64 0) := KZ.out.cell 1
                  rw [HLE.out]
                  clear hbz
                  go_wp2
                  go_ret
                  exact ⟨rfl, HZ.out⟩
              · have dU : decide (0 ≤ U) = false := by simpa using hU
                have HLU := Lib.hid (sideL_neg hU)
                clear hU
                by_cases hV : 0 ≤ V
                · have dV : decide (0 ≤ V) = true := by simpa using hV
                  have HLV := Lib.hid (sideL_pos hV)
                  clear hV
                  obtain ⟨X2, hX2⟩ : ∃ X, (w8.alloc (.cells #[.int .i64 0, .int .i64 0] 48)).alloc (.cells #[.int .i64 0, .int .i64 0] 48) = X := ⟨_, rfl⟩
                  have hx2 : Below w8.heap.size w8 X2 := by rw [← hX2]; exact ((Below.refl _ _).alloc (Nat.le_refl _) _).alloc (by simp) _
                  have b0 : Blk X2 w8.heap.size 48 #[.int .i64 0, .int .i64 0] := by rw [← hX2]; exact (Blk.made _ _ _).alloc _
                  have b1 : Blk X2 (w8.heap.size + 1) 48 #[.int .i64 0, .int .i64 0] := by rw [← hX2]; exact Blk.made' (by simp)
                  have HK2 := Lib.hid (Blk.below KC8.out hx2 KC8.out.lt)
                  have X2z0 : X2.cell? ⟨w1.heap.size, 0, none⟩ = some (.int .i64 U) := HK2.out.cell 0
                  have X2z1 : X2.cell? ⟨w1.heap.size, 1, none⟩ = some (.int .i64 0) := HK2.out.cell 1
                  have X2z2 : X2.cell? ⟨w1.heap.size, 2, none⟩ = some (.int .i64 V) := HK2.out.cell 2
                  obtain ⟨X4, hX4⟩ : ∃ X, X2.alloc (.cells #[.int .i64 4, .int .i64 V] 48) = X := ⟨_, rfl⟩
                  have sX4 : Below X2.heap.size X2 X4 := by rw [← hX4]; exact (Below.refl _ _).alloc (Nat.le_refl _) _
                  have b0X4 := (b0).below sX4 (b0).lt
                  have b1X4 := (b1).below sX4 (b1).lt
                  have nX4 : Blk X4 X2.heap.size 48 #[.int .i64 4, .int .i64 V] := by rw [← hX4]; exact Blk.made _ _ _
                  have X4k := hx2.trans (sX4.mono hx2.size)
                  have KX4 := Lib.hid (Blk.below HK2.out sX4 HK2.out.lt)
                  have X4z0 : X4.cell? ⟨w1.heap.size, 0, none⟩ = some (.int .i64 U) := KX4.out.cell 0
                  have X4z1 : X4.cell? ⟨w1.heap.size, 1, none⟩ = some (.int .i64 0) := KX4.out.cell 1
                  have X4z2 : X4.cell? ⟨w1.heap.size, 2, none⟩ = some (.int .i64 V) := KX4.out.cell 2
                  have HL := Lib.hid (HB8.out.trans (X4k.mono HB8.out.size))
                  have hou : OwnT X4 w8.heap.size (some ⟨w8.heap.size, 0, none⟩) 1 1 (sideL U) := by rw [HLU.out]; exact own_litJ b0X4 (by have q1 := hx2.size; omega)
                  have hov : OwnT X4 w8.heap.size (some ⟨X2.heap.size, 0, none⟩) 1 1 (sideL V) := by rw [HLV.out]; exact own_litJ nX4 (by have q1 := hx2.size; omega)
                  have HLE := Lib.hid ((imp_le HS.out HK.out).trans HY.out)
                  go_wp2_with fail
                  refine (implLeUnder_any X4 X4.heap.size (some ⟨g, 0, none⟩) m cap l (some ⟨w8.heap.size, 0, none⟩) 1 1 (sideL U) (some ⟨X2.heap.size, 0, none⟩) 1 1 (sideL V) T pv Tc pc (Nat.lt_of_lt_of_le h0 (Nat.le_trans hB HL.out.size)) (Nat.lt_of_lt_of_le h0c (Nat.le_trans hB HL.out.size)) (Nat.le_refl _) (.inl ⟨_, _, rfl⟩) (OwnC.reads (own_below' Rl8.out X4k)) (by omega) (OwnT.reads hou) (by omega) (OwnT.reads hov) (by omega) (hE.below (HL.out.mono hB) h0) (hEc.below (HL.out.mono hB) h0c)).mono ?_
                  rintro e wz ⟨rfl, hbz⟩
                  have HZ := Lib.hid (HL.out.trans (hbz.mono HL.out.size))
                  have KZ := Lib.hid (Blk.below KX4.out hbz KX4.out.lt)
                  have z1 : wz.cell? ⟨w1.heap.size, 1, none⟩ = some (.int .i64 0) := KZ.out.cell 1
                  rw [HLE.out]
                  clear hbz
                  go_wp2
                  go_ret
                  exact ⟨rfl, HZ.out⟩
                · have dV : decide (0 ≤ V) = false := by simpa using hV
                  have HLV := Lib.hid (sideL_neg hV)
                  clear hV
                  obtain ⟨X2, hX2⟩ : ∃ X, (w8.alloc (.cells #[.int .i64 0, .int .i64 0] 48)).alloc (.cells #[.int .i64 0, .int .i64 0] 48) = X := ⟨_, rfl⟩
                  have hx2 : Below w8.heap.size w8 X2 := by rw [← hX2]; exact ((Below.refl _ _).alloc (Nat.le_refl _) _).alloc (by simp) _
                  have b0 : Blk X2 w8.heap.size 48 #[.int .i64 0, .int .i64 0] := by rw [← hX2]; exact (Blk.made _ _ _).alloc _
                  have b1 : Blk X2 (w8.heap.size + 1) 48 #[.int .i64 0, .int .i64 0] := by rw [← hX2]; exact Blk.made' (by simp)
                  have HK2 := Lib.hid (Blk.below KC8.out hx2 KC8.out.lt)
                  have X2z0 : X2.cell? ⟨w1.heap.size, 0, none⟩ = some (.int .i64 U) := HK2.out.cell 0
                  have X2z1 : X2.cell? ⟨w1.heap.size, 1, none⟩ = some (.int .i64 0) := HK2.out.cell 1
                  have X2z2 : X2.cell? ⟨w1.heap.size, 2, none⟩ = some (.int .i64 V) := HK2.out.cell 2
                  have HL := Lib.hid (HB8.out.trans (hx2.mono HB8.out.size))
                  have hou : OwnT X2 w8.heap.size (some ⟨w8.heap.size, 0, none⟩) 1 1 (sideL U) := by rw [HLU.out]; exact own_litJ b0 (by have q1 := hx2.size; omega)
                  have hov : OwnT X2 w8.heap.size (some ⟨w8.heap.size + 1, 0, none⟩) 1 1 (sideL V) := by rw [HLV.out]; exact own_litJ b1 (by have q1 := hx2.size; omega)
                  have HLE := Lib.hid ((imp_le HS.out HK.out).trans HY.out)
                  go_wp2_with fail
                  refine (implLeUnder_any X2 X2.heap.size (some ⟨g, 0, none⟩) m cap l (some ⟨w8.heap.size, 0, none⟩) 1 1 (sideL U) (some ⟨w8.heap.size + 1, 0, none⟩) 1 1 (sideL V) T pv Tc pc (Nat.lt_of_lt_of_le h0 (Nat.le_trans hB HL.out.size)) (Nat.lt_of_lt_of_le h0c (Nat.le_trans hB HL.out.size)) (Nat.le_refl _) (.inl ⟨_, _, rfl⟩) (OwnC.reads (own_below' Rl8.out hx2)) (by omega) (OwnT.reads hou) (by omega) (OwnT.reads hov) (by omega) (hE.below (HL.out.mono hB) h0) (hEc.below (HL.out.mono hB) h0c)).mono ?_
                  rintro e wz ⟨rfl, hbz⟩
                  have HZ := Lib.hid (HL.out.trans (hbz.mono HL.out.size))
                  have KZ := Lib.hid (Blk.below HK2.out hbz HK2.out.lt)
                  have z1 : wz.cell? ⟨w1.heap.size, 1, none⟩ = some (.int .i64 0) := KZ.out.cell 1
                  rw [HLE.out]
                  clear hbz
                  go_wp2
                  go_ret
                  exact ⟨rfl, HZ.out⟩
            · skip
              by_cases hU : 0 ≤ U
              · have dU : decide (0 ≤ U) = true := by simpa using hU
                have HLU := Lib.hid (sideL_pos hU)
                clear hU
                by_cases hV : 0 ≤ V
                · have dV : decide (0 ≤ V) = true := by simpa using hV
                  have HLV := Lib.hid (sideL_pos hV)
                  clear hV
                  obtain ⟨X2, hX2⟩ : ∃ X, (w8.alloc (.cells #[.int .i64 0, .int .i64 0] 48)).alloc (.cells #[.int .i64 0, .int .i64 0] 48) = X := ⟨_, rfl⟩
                  have hx2 : Below w8.heap.size w8 X2 := by rw [← hX2]; exact ((Below.refl _ _).alloc (Nat.le_refl _) _).alloc (by simp) _
                  have b0 : Blk X2 w8.heap.size 48 #[.int .i64 0, .int .i64 0] := by rw [← hX2]; exact (Blk.made _ _ _).alloc _
                  have b1 : Blk X2 (w8.heap.size + 1) 48 #[.int .i64 0, .int .i64 0] := by rw [← hX2]; exact Blk.made' (by simp)
                  have HK2 := Lib.hid (Blk.below KC8.out hx2 KC8.out.lt)
                  have X2z0 : X2.cell? ⟨w1.heap.size, 0, none⟩ = some (.int .i64 U) := HK2.out.cell 0
                  have X2z1 : X2.cell? ⟨w1.heap.size, 1, none⟩ = some (.int .i64 1) := HK2.out.cell 1
                  have X2z2 : X2.cell? ⟨w1.heap.size, 2, none⟩ = some (.int .i64 V) := HK2.out.cell 2
                  obtain ⟨X3, hX3⟩ : ∃ X, X2.alloc (.cells #[.int .i64 4, .int .i64 U] 48) = X := ⟨_, rfl⟩
                  have sX3 : Below X2.heap.size X2 X3 := by rw [← hX3]; exact (Below.refl _ _).alloc (Nat.le_refl _) _
                  have b0X3 := (b0).below sX3 (b0).lt
                  have b1X3 := (b1).below sX3 (b1).lt
                  have nX3 : Blk X3 X2.heap.size 48 #[.int .i64 4, .int .i64 U] := by rw [← hX3]; exact Blk.made _ _ _
                  have X3k := hx2.trans (sX3.mono hx2.size)
                  have KX3 := Lib.hid (Blk.below HK2.out sX3 HK2.out.lt)
                  have X3z0 : X3.cell? ⟨w1.heap.size, 0, none⟩ = some (.int .i64 U) := KX3.out.cell 0
                  have X3z1 : X3.cell? ⟨w1.heap.size, 1, none⟩ = some (.int .i64 1) := KX3.out.cell 1
                  have X3z2 : X3.cell? ⟨w1.heap.size, 2, none⟩ = some (.int .i64 V) := KX3.out.cell 2
                  obtain ⟨X4, hX4⟩ : ∃ X, X3.alloc (.cells #[.int .i64 4, .int .i64 V] 48) = X := ⟨_, rfl⟩
                  have sX4 : Below X3.heap.size X3 X4 := by rw [← hX4]; exact (Below.refl _ _).alloc (Nat.le_refl _) _
                  have nX3X4 := (nX3).below sX4 (nX3).lt
                  have b1X3X4 := (b1X3).below sX4 (b1X3).lt
                  have nX4 : Blk X4 X3.heap.size 48 #[.int .i64 4, .int .i64 V] := by rw [← hX4]; exact Blk.made _ _ _
                  have X4k := X3k.trans (sX4.mono X3k.size)
                  have KX4 := Lib.hid (Blk.below KX3.out sX4 KX3.out.lt)
                  have X4z0 : X4.cell? ⟨w1.heap.size, 0, none⟩ = some (.int .i64 U) := KX4.out.cell 0
                  have X4z1 : X4.cell? ⟨w1.heap.size, 1, none⟩ = some (.int .i64 1) := KX4.out.cell 1
                  have X4z2 : X4.cell? ⟨w1.heap.size, 2, none⟩ = some (.int .i64 V) := KX4.out.cell 2
                  have HL := Lib.hid (HB8.out.trans (X4k.mono HB8.out.size))
                  have hou : OwnT X4 w8.heap.size (some ⟨X2.heap.size, 0, none⟩) 1 1 (sideL U) := by rw [HLU.out]; exact own_litJ nX3X4 (by have q1 := hx2.size; have q2 := sX3.size; omega)
                  have hov : OwnT X4 w8.heap.size (some ⟨X3.heap.size, 0, none⟩) 1 1 (sideL V) := by rw [HLV.out]; exact own_litJ nX4 (by have q1 := hx2.size; have q2 := sX3.size; omega)
                  have HLE := Lib.hid ((imp_lt HS.out HK.out).trans HY.out)
                  have hne : ∀ {r : Nat}, (Value.slice (some ⟨X2.heap.size, 0, none⟩) 1 1).ownBlock = some r → r = X2.heap.size := fun h => by have h' : X2.heap.size = _ := (by simpa [Value.ownBlock] using h); omega
                  have hpq : X3.heap.size ≠ X2.heap.size := by have q1 := (nX3X4).lt; have q2 := (nX4).lt; have q3 := b0.lt; have q4 := b1.lt; have q5 := nX3.lt; omega
                  go_wp2_with (at_builtin; refine wpList_append_own _ rfl (.tmp 75) (.tmp 77) 24 rfl w8.heap.size 48 i0 (.agg #[.int .i64 0, .int .i64 0]) 2 16 Tryd.underlying24 hi hz0 hz1 hz2 rfl (by decide) (.slice (some ⟨X2.heap.size, 0, none⟩) 1 1) 1 (tokCells (sideL U)) rfl (hou.alloc _) ⟨X4.heap.size, 0, none⟩ 1 1 (tokCells [(1, 0)]) rfl rfl (Blk.tokA2 _ _ _) (tokCells_one _) (by unfold maxLen; omega) (by omega) (by have := X4k.size; simp; omega) ?_; intro v' X9 hown' hgrow hnil; obtain ⟨g9, c9, rfl⟩ := tok_two hown'; have hx9 : Below w8.heap.size w8 X9 := (X4k.alloc X4k.size _).grown hgrow (by have := X4k.size; simp; omega) (fun x h => (hou.lt x h).1); have hov9 : OwnT X9 w8.heap.size (some ⟨X3.heap.size, 0, none⟩) 1 1 (sideL V) := (by rw [HLV.out]; exact own_litJ ((Blk.alloc nX4 _).grown hgrow (fun he => hpq (hne he.symm))) (by have q1 := hx2.size; have q2 := sX3.size; omega)); have hou9 : OwnT X9 w8.heap.size (some ⟨g9, 0, none⟩) 2 c9 (sideL U ++ [(1, 0)]) := (by show X9.ownsRow _ _ _ _ _ _; rw [tokCells_append]; exact hown'); clear hown' hgrow hnil)
                  have HL9 := Lib.hid (HB8.out.trans (hx9.mono HB8.out.size))
                  have K9 := Lib.hid (Blk.below KC8.out hx9 KC8.out.lt)
                  refine (implLeUnder_any X9 X9.heap.size (some ⟨g, 0, none⟩) m cap l (some ⟨g9, 0, none⟩) 2 c9 (sideL U ++ [(1, 0)]) (some ⟨X3.heap.size, 0, none⟩) 1 1 (sideL V) T pv Tc pc (Nat.lt_of_lt_of_le h0 (Nat.le_trans hB HL9.out.size)) (Nat.lt_of_lt_of_le h0c (Nat.le_trans hB HL9.out.size)) (Nat.le_refl _) (.inl ⟨_, _, rfl⟩) (OwnC.reads (own_below' Rl8.out hx9)) (by omega) (OwnT.reads hou9) (by omega) (OwnT.reads hov9) (by omega) (hE.below (HL9.out.mono hB) h0) (hEc.below (HL9.out.mono hB) h0c)).mono ?_
                  rintro e wz ⟨rfl, hbz⟩
                  have HZ := Lib.hid (HL9.out.trans (hbz.mono HL9.out.size))
                  have KZ := Lib.hid (Blk.below K9.out hbz K9.out.lt)
                  have z1 : wz.cell? ⟨w1.heap.size, 1, none⟩ = some (.int .i64 1) := KZ.out.cell 1
                  rw [HLE.out]
                  clear hbz
                  go_wp2
                  go_ret
                  exact ⟨rfl, HZ.out⟩
                · have dV : decide (0 ≤ V) = false := by simpa using hV
                  have HLV := Lib.hid (sideL_neg hV)
                  clear hV
                  obtain ⟨X2, hX2⟩ : ∃ X, (w8.alloc (.cells #[.int .i64 0, .int .i64 0] 48)).alloc (.cells #[.int .i64 0, .int .i64 0] 48) = X := ⟨_, rfl⟩
                  have hx2 : Below w8.heap.size w8 X2 := by rw [← hX2]; exact ((Below.refl _ _).alloc (Nat.le_refl _) _).alloc (by simp) _
                  have b0 : Blk X2 w8.heap.size 48 #[.int .i64 0, .int .i64 0] := by rw [← hX2]; exact (Blk.made _ _ _).alloc _
                  have b1 : Blk X2 (w8.heap.size + 1) 48 #[.int .i64 0, .int .i64 0] := by rw [← hX2]; exact Blk.made' (by simp)
                  have HK2 := Lib.hid (Blk.below KC8.out hx2 KC8.out.lt)
                  have X2z0 : X2.cell? ⟨w1.heap.size, 0, none⟩ = some (.int .i64 U) := HK2.out.cell 0
                  have X2z1 : X2.cell? ⟨w1.heap.size, 1, none⟩ = some (.int .i64 1) := HK2.out.cell 1
                  have X2z2 : X2.cell? ⟨w1.heap.size, 2, none⟩ = some (.int .i64 V) := HK2.out.cell 2
                  obtain ⟨X3, hX3⟩ : ∃ X, X2.alloc (.cells #[.int .i64 4, .int .i64 U] 48) = X := ⟨_, rfl⟩
                  have sX3 : Below X2.heap.size X2 X3 := by rw [← hX3]; exact (Below.refl _ _).alloc (Nat.le_refl _) _
                  have b0X3 := (b0).below sX3 (b0).lt
                  have b1X3 := (b1).below sX3 (b1).lt
                  have nX3 : Blk X3 X2.heap.size 48 #[.int .i64 4, .int .i64 U] := by rw [← hX3]; exact Blk.made _ _ _
                  have X3k := hx2.trans (sX3.mono hx2.size)
                  have KX3 := Lib.hid (Blk.below HK2.out sX3 HK2.out.lt)
                  have X3z0 : X3.cell? ⟨w1.heap.size, 0, none⟩ = some (.int .i64 U) := KX3.out.cell 0
                  have X3z1 : X3.cell? ⟨w1.heap.size, 1, none⟩ = some (.int .i64 1) := KX3.out.cell 1
                  have X3z2 : X3.cell? ⟨w1.heap.size, 2, none⟩ = some (.int .i64 V) := KX3.out.cell 2
                  have HL := Lib.hid (HB8.out.trans (X3k.mono HB8.out.size))
                  have hou : OwnT X3 w8.heap.size (some ⟨X2.heap.size, 0, none⟩) 1 1 (sideL U) := by rw [HLU.out]; exact own_litJ nX3 (by have q1 := hx2.size; have q2 := sX3.size; omega)
                  have hov : OwnT X3 w8.heap.size (some ⟨w8.heap.size + 1, 0, none⟩) 1 1 (sideL V) := by rw [HLV.out]; exact own_litJ b1X3 (by have q1 := hx2.size; have q2 := sX3.size; omega)
                  have HLE := Lib.hid ((imp_lt HS.out HK.out).trans HY.out)
                  have hne : ∀ {r : Nat}, (Value.slice (some ⟨X2.heap.size, 0, none⟩) 1 1).ownBlock = some r → r = X2.heap.size := fun h => by have h' : X2.heap.size = _ := (by simpa [Value.ownBlock] using h); omega
                  have hpq : w8.heap.size + 1 ≠ X2.heap.size := by have q1 := (nX3).lt; have q2 := (b1X3).lt; have q3 := b0.lt; have q4 := b1.lt; omega
                  go_wp2_with (at_builtin; refine wpList_append_own _ rfl (.tmp 75) (.tmp 77) 24 rfl w8.heap.size 48 i0 (.agg #[.int .i64 0, .int .i64 0]) 2 16 Tryd.underlying24 hi hz0 hz1 hz2 rfl (by decide) (.slice (some ⟨X2.heap.size, 0, none⟩) 1 1) 1 (tokCells (sideL U)) rfl (hou.alloc _) ⟨X3.heap.size, 0, none⟩ 1 1 (tokCells [(1, 0)]) rfl rfl (Blk.tokA2 _ _ _) (tokCells_one _) (by unfold maxLen; omega) (by omega) (by have := X3k.size; simp; omega) ?_; intro v' X9 hown' hgrow hnil; obtain ⟨g9, c9, rfl⟩ := tok_two hown'; have hx9 : Below w8.heap.size w8 X9 := (X3k.alloc X3k.size _).grown hgrow (by have := X3k.size; simp; omega) (fun x h => (hou.lt x h).1); have hov9 : OwnT X9 w8.heap.size (some ⟨w8.heap.size + 1, 0, none⟩) 1 1 (sideL V) := (by rw [HLV.out]; exact own_litJ ((Blk.alloc b1X3 _).grown hgrow (fun he => hpq (hne he.symm))) (by have q1 := hx2.size; have q2 := sX3.size; omega)); have hou9 : OwnT X9 w8.heap.size (some ⟨g9, 0, none⟩) 2 c9 (sideL U ++ [(1, 0)]) := (by show X9.ownsRow _ _ _ _ _ _; rw [tokCells_append]; exact hown'); clear hown' hgrow hnil)
                  have HL9 := Lib.hid (HB8.out.trans (hx9.mono HB8.out.size))
                  have K9 := Lib.hid (Blk.below KC8.out hx9 KC8.out.lt)
                  refine (implLeUnder_any X9 X9.heap.size (some ⟨g, 0, none⟩) m cap l (some ⟨g9, 0, none⟩) 2 c9 (sideL U ++ [(1, 0)]) (some ⟨w8.heap.size + 1, 0, none⟩) 1 1 (sideL V) T pv Tc pc (Nat.lt_of_lt_of_le h0 (Nat.le_trans hB HL9.out.size)) (Nat.lt_of_lt_of_le h0c (Nat.le_trans hB HL9.out.size)) (Nat.le_refl _) (.inl ⟨_, _, rfl⟩) (OwnC.reads (own_below' Rl8.out hx9)) (by omega) (OwnT.reads hou9) (by omega) (OwnT.reads hov9) (by omega) (hE.below (HL9.out.mono hB) h0) (hEc.below (HL9.out.mono hB) h0c)).mono ?_
                  rintro e wz ⟨rfl, hbz⟩
                  have HZ := Lib.hid (HL9.out.trans (hbz.mono HL9.out.size))
                  have KZ := Lib.hid (Blk.below K9.out hbz K9.out.lt)
                  have z1 : wz.cell? ⟨w1.heap.size, 1, none⟩ = some (.int .i64 1) := KZ.out.cell 1
                  rw [HLE.out]
                  clear hbz
                  go_wp2
                  go_ret
                  exact ⟨rfl, HZ.out⟩
              · have dU : decide (0 ≤ U) = false := by simpa using hU
                have HLU := Lib.hid (sideL_neg hU)
                clear hU
                by_cases hV : 0 ≤ V
                · have dV : decide (0 ≤ V) = true := by simpa using hV
                  have HLV := Lib.hid (sideL_pos hV)
                  clear hV
                  obtain ⟨X2, hX2⟩ : ∃ X, (w8.alloc (.cells #[.int .i64 0, .int .i64 0] 48)).alloc (.cells #[.int .i64 0, .int .i64 0] 48) = X := ⟨_, rfl⟩
                  have hx2 : Below w8.heap.size w8 X2 := by rw [← hX2]; exact ((Below.refl _ _).alloc (Nat.le_refl _) _).alloc (by simp) _
                  have b0 : Blk X2 w8.heap.size 48 #[.int .i64 0, .int .i64 0] := by rw [← hX2]; exact (Blk.made _ _ _).alloc _
                  have b1 : Blk X2 (w8.heap.size + 1) 48 #[.int .i64 0, .int .i64 0] := by rw [← hX2]; exact Blk.made' (by simp)
                  have HK2 := Lib.hid (Blk.below KC8.out hx2 KC8.out.lt)
                  have X2z0 : X2.cell? ⟨w1.heap.size, 0, none⟩ = some (.int .i64 U) := HK2.out.cell 0
                  have X2z1 : X2.cell? ⟨w1.heap.size, 1, none⟩ = some (.int .i64 1) := HK2.out.cell 1
                  have X2z2 : X2.cell? ⟨w1.heap.size, 2, none⟩ = some (.int .i64 V) := HK2.out.cell 2
                  obtain ⟨X4, hX4⟩ : ∃ X, X2.alloc (.cells #[.int .i64 4, .int .i64 V] 48) = X := ⟨_, rfl⟩
                  have sX4 : Below X2.heap.size X2 X4 := by rw [← hX4]; exact (Below.refl _ _).alloc (Nat.le_refl _) _
                  have b0X4 := (b0).below sX4 (b0).lt
                  have b1X4 := (b1).below sX4 (b1).lt
                  have nX4 : Blk X4 X2.heap.size 48 #[.int .i64 4, .int .i64 V] := by rw [← hX4]; exact Blk.made _ _ _
                  have X4k := hx2.trans (sX4.mono hx2.size)
                  have KX4 := Lib.hid (Blk.below HK2.out sX4 HK2.out.lt)
                  have X4z0 : X4.cell? ⟨w1.heap.size, 0, none⟩ = some (.int .i64 U) := KX4.out.cell 0
                  have X4z1 : X4.cell? ⟨w1.heap.size, 1, none⟩ = some (.int .i64 1) := KX4.out.cell 1
                  have X4z2 : X4.cell? ⟨w1.heap.size, 2, none⟩ = some (.int .i64 V) := KX4.out.cell 2
                  have HL := Lib.hid (HB8.out.trans (X4k.mono HB8.out.size))
                  have hou : OwnT X4 w8.heap.size (some ⟨w8.heap.size, 0, none⟩) 1 1 (sideL U) := by rw [HLU.out]; exact own_litJ b0X4 (by have q1 := hx2.size; omega)
                  have hov : OwnT X4 w8.heap.size (some ⟨X2.heap.size, 0, none⟩) 1 1 (sideL V) := by rw [HLV.out]; exact own_litJ nX4 (by have q1 := hx2.size; omega)
                  have HLE := Lib.hid ((imp_lt HS.out HK.out).trans HY.out)
                  have hne : ∀ {r : Nat}, (Value.slice (some ⟨w8.heap.size, 0, none⟩) 1 1).ownBlock = some r → r = w8.heap.size := fun h => by have h' : w8.heap.size = _ := (by simpa [Value.ownBlock] using h); omega
                  have hpq : X2.heap.size ≠ w8.heap.size := by have q1 := (b0X4).lt; have q2 := (nX4).lt; have q3 := b0.lt; have q4 := b1.lt; omega
                  go_wp2_with (at_builtin; refine wpList_append_own _ rfl (.tmp 75) (.tmp 77) 24 rfl w8.heap.size 48 i0 (.agg #[.int .i64 0, .int .i64 0]) 2 16 Tryd.underlying24 hi hz0 hz1 hz2 rfl (by decide) (.slice (some ⟨w8.heap.size, 0, none⟩) 1 1) 1 (tokCells (sideL U)) rfl (hou.alloc _) ⟨X4.heap.size, 0, none⟩ 1 1 (tokCells [(1, 0)]) rfl rfl (Blk.tokA2 _ _ _) (tokCells_one _) (by unfold maxLen; omega) (by omega) (by have := X4k.size; simp; omega) ?_; intro v' X9 hown' hgrow hnil; obtain ⟨g9, c9, rfl⟩ := tok_two hown'; have hx9 : Below w8.heap.size w8 X9 := (X4k.alloc X4k.size _).grown hgrow (by have := X4k.size; simp; omega) (fun x h => (hou.lt x h).1); have hov9 : OwnT X9 w8.heap.size (some ⟨X2.heap.size, 0, none⟩) 1 1 (sideL V) := (by rw [HLV.out]; exact own_litJ ((Blk.alloc nX4 _).grown hgrow (fun he => hpq (hne he.symm))) (by have q1 := hx2.size; omega)); have hou9 : OwnT X9 w8.heap.size (some ⟨g9, 0, none⟩) 2 c9 (sideL U ++ [(1, 0)]) := (by show X9.ownsRow _ _ _ _ _ _; rw [tokCells_append]; exact hown'); clear hown' hgrow hnil)
                  have HL9 := Lib.hid (HB8.out.trans (hx9.mono HB8.out.size))
                  have K9 := Lib.hid (Blk.below KC8.out hx9 KC8.out.lt)
                  refine (implLeUnder_any X9 X9.heap.size (some ⟨g, 0, none⟩) m cap l (some ⟨g9, 0, none⟩) 2 c9 (sideL U ++ [(1, 0)]) (some ⟨X2.heap.size, 0, none⟩) 1 1 (sideL V) T pv Tc pc (Nat.lt_of_lt_of_le h0 (Nat.le_trans hB HL9.out.size)) (Nat.lt_of_lt_of_le h0c (Nat.le_trans hB HL9.out.size)) (Nat.le_refl _) (.inl ⟨_, _, rfl⟩) (OwnC.reads (own_below' Rl8.out hx9)) (by omega) (OwnT.reads hou9) (by omega) (OwnT.reads hov9) (by omega) (hE.below (HL9.out.mono hB) h0) (hEc.below (HL9.out.mono hB) h0c)).mono ?_
                  rintro e wz ⟨rfl, hbz⟩
                  have HZ := Lib.hid (HL9.out.trans (hbz.mono HL9.out.size))
                  have KZ := Lib.hid (Blk.below K9.out hbz K9.out.lt)
                  have z1 : wz.cell? ⟨w1.heap.size, 1, none⟩ = some (.int .i64 1) := KZ.out.cell 1
                  rw [HLE.out]
                  clear hbz
                  go_wp2
                  go_ret
                  exact ⟨rfl, HZ.out⟩
                · have dV : decide (0 ≤ V) = false := by simpa using hV
                  have HLV := Lib.hid (sideL_neg hV)
                  clear hV
                  obtain ⟨X2, hX2⟩ : ∃ X, (w8.alloc (.cells #[.int .i64 0, .int .i64 0] 48)).alloc (.cells #[.int .i64 0, .int .i64 0] 48) = X := ⟨_, rfl⟩
                  have hx2 : Below w8.heap.size w8 X2 := by rw [← hX2]; exact ((Below.refl _ _).alloc (Nat.le_refl _) _).alloc (by simp) _
                  have b0 : Blk X2 w8.heap.size 48 #[.int .i64 0, .int .i64 0] := by rw [← hX2]; exact (Blk.made _ _ _).alloc _
                  have b1 : Blk X2 (w8.heap.size + 1) 48 #[.int .i64 0, .int .i64 0] := by rw [← hX2]; exact Blk.made' (by simp)
                  have HK2 := Lib.hid (Blk.below KC8.out hx2 KC8.out.lt)
                  have X2z0 : X2.cell? ⟨w1.heap.size, 0, none⟩ = some (.int .i64 U) := HK2.out.cell 0
                  have X2z1 : X2.cell? ⟨w1.heap.size, 1, none⟩ = some (.int .i64 1) := HK2.out.cell 1
                  have X2z2 : X2.cell? ⟨w1.heap.size, 2, none⟩ = some (.int .i64 V) := HK2.out.cell 2
                  have HL := Lib.hid (HB8.out.trans (hx2.mono HB8.out.size))
                  have hou : OwnT X2 w8.heap.size (some ⟨w8.heap.size, 0, none⟩) 1 1 (sideL U) := by rw [HLU.out]; exact own_litJ b0 (by have q1 := hx2.size; omega)
                  have hov : OwnT X2 w8.heap.size (some ⟨w8.heap.size + 1, 0, none⟩) 1 1 (sideL V) := by rw [HLV.out]; exact own_litJ b1 (by have q1 := hx2.size; omega)
                  have HLE := Lib.hid ((imp_lt HS.out HK.out).trans HY.out)
                  have hne : ∀ {r : Nat}, (Value.slice (some ⟨w8.heap.size, 0, none⟩) 1 1).ownBlock = some r → r = w8.heap.size := fun h => by have h' : w8.heap.size = _ := (by simpa [Value.ownBlock] using h); omega
                  have hpq : w8.heap.size + 1 ≠ w8.heap.size := by have q1 := (b0).lt; have q2 := (b1).lt; have q3 := b0.lt; have q4 := b1.lt; omega
                  go_wp2_with (at_builtin; refine wpList_append_own _ rfl (.tmp 75) (.tmp 77) 24 rfl w8.heap.size 48 i0 (.agg #[.int .i64 0, .int .i64 0]) 2 16 Tryd.underlying24 hi hz0 hz1 hz2 rfl (by decide) (.slice (some ⟨w8.heap.size, 0, none⟩) 1 1) 1 (tokCells (sideL U)) rfl (hou.alloc _) ⟨X2.heap.size, 0, none⟩ 1 1 (tokCells [(1, 0)]) rfl rfl (Blk.tokA2 _ _ _) (tokCells_one _) (by unfold maxLen; omega) (by omega) (by have := hx2.size; simp; omega) ?_; intro v' X9 hown' hgrow hnil; obtain ⟨g9, c9, rfl⟩ := tok_two hown'; have hx9 : Below w8.heap.size w8 X9 := (hx2.alloc hx2.size _).grown hgrow (by have := hx2.size; simp; omega) (fun x h => (hou.lt x h).1); have hov9 : OwnT X9 w8.heap.size (some ⟨w8.heap.size + 1, 0, none⟩) 1 1 (sideL V) := (by rw [HLV.out]; exact own_litJ ((Blk.alloc b1 _).grown hgrow (fun he => hpq (hne he.symm))) (by have q1 := hx2.size; omega)); have hou9 : OwnT X9 w8.heap.size (some ⟨g9, 0, none⟩) 2 c9 (sideL U ++ [(1, 0)]) := (by show X9.ownsRow _ _ _ _ _ _; rw [tokCells_append]; exact hown'); clear hown' hgrow hnil)
                  have HL9 := Lib.hid (HB8.out.trans (hx9.mono HB8.out.size))
                  have K9 := Lib.hid (Blk.below KC8.out hx9 KC8.out.lt)
                  refine (implLeUnder_any X9 X9.heap.size (some ⟨g, 0, none⟩) m cap l (some ⟨g9, 0, none⟩) 2 c9 (sideL U ++ [(1, 0)]) (some ⟨w8.heap.size + 1, 0, none⟩) 1 1 (sideL V) T pv Tc pc (Nat.lt_of_lt_of_le h0 (Nat.le_trans hB HL9.out.size)) (Nat.lt_of_lt_of_le h0c (Nat.le_trans hB HL9.out.size)) (Nat.le_refl _) (.inl ⟨_, _, rfl⟩) (OwnC.reads (own_below' Rl8.out hx9)) (by omega) (OwnT.reads hou9) (by omega) (OwnT.reads hov9) (by omega) (hE.below (HL9.out.mono hB) h0) (hEc.below (HL9.out.mono hB) h0c)).mono ?_
                  rintro e wz ⟨rfl, hbz⟩
                  have HZ := Lib.hid (HL9.out.trans (hbz.mono HL9.out.size))
                  have KZ := Lib.hid (Blk.below K9.out hbz K9.out.lt)
                  have z1 : wz.cell? ⟨w1.heap.size, 1, none⟩ = some (.int .i64 1) := KZ.out.cell 1
                  rw [HLE.out]
                  clear hbz
                  go_wp2
                  go_ret
                  exact ⟨rfl, HZ.out⟩
            · skip
              by_cases hU : 0 ≤ U
              · have dU : decide (0 ≤ U) = true := by simpa using hU
                have HLU := Lib.hid (sideL_pos hU)
                clear hU
                by_cases hV : 0 ≤ V
                · have dV : decide (0 ≤ V) = true := by simpa using hV
                  have HLV := Lib.hid (sideL_pos hV)
                  clear hV
                  obtain ⟨X2, hX2⟩ : ∃ X, (w8.alloc (.cells #[.int .i64 0, .int .i64 0] 48)).alloc (.cells #[.int .i64 0, .int .i64 0] 48) = X := ⟨_, rfl⟩
                  have hx2 : Below w8.heap.size w8 X2 := by rw [← hX2]; exact ((Below.refl _ _).alloc (Nat.le_refl _) _).alloc (by simp) _
                  have b0 : Blk X2 w8.heap.size 48 #[.int .i64 0, .int .i64 0] := by rw [← hX2]; exact (Blk.made _ _ _).alloc _
                  have b1 : Blk X2 (w8.heap.size + 1) 48 #[.int .i64 0, .int .i64 0] := by rw [← hX2]; exact Blk.made' (by simp)
                  have HK2 := Lib.hid (Blk.below KC8.out hx2 KC8.out.lt)
                  have X2z0 : X2.cell? ⟨w1.heap.size, 0, none⟩ = some (.int .i64 U) := HK2.out.cell 0
                  have X2z1 : X2.cell? ⟨w1.heap.size, 1, none⟩ = some (.int .i64 2) := HK2.out.cell 1
                  have X2z2 : X2.cell? ⟨w1.heap.size, 2, none⟩ = some (.int .i64 V) := HK2.out.cell 2
                  obtain ⟨X3, hX3⟩ : ∃ X, X2.alloc (.cells #[.int .i64 4, .int .i64 U] 48) = X := ⟨_, rfl⟩
                  have sX3 : Below X2.heap.size X2 X3 := by rw [← hX3]; exact (Below.refl _ _).alloc (Nat.le_refl _) _
                  have b0X3 := (b0).below sX3 (b0).lt
                  have b1X3 := (b1).below sX3 (b1).lt
                  have nX3 : Blk X3 X2.heap.size 48 #[.int .i64 4, .int .i64 U] := by rw [← hX3]; exact Blk.made _ _ _
                  have X3k := hx2.trans (sX3.mono hx2.size)
                  have KX3 := Lib.hid (Blk.below HK2.out sX3 HK2.out.lt)
                  have X3z0 : X3.cell? ⟨w1.heap.size, 0, none⟩ = some (.int .i64 U) := KX3.out.cell 0
                  have X3z1 : X3.cell? ⟨w1.heap.size, 1, none⟩ = some (.int .i64 2) := KX3.out.cell 1
                  have X3z2 : X3.cell? ⟨w1.heap.size, 2, none⟩ = some (.int .i64 V) := KX3.out.cell 2
                  obtain ⟨X4, hX4⟩ : ∃ X, X3.alloc (.cells #[.int .i64 4, .int .i64 V] 48) = X := ⟨_, rfl⟩
                  have sX4 : Below X3.heap.size X3 X4 := by rw [← hX4]; exact (Below.refl _ _).alloc (Nat.le_refl _) _
                  have nX3X4 := (nX3).below sX4 (nX3).lt
                  have b1X3X4 := (b1X3).below sX4 (b1X3).lt
                  have nX4 : Blk X4 X3.heap.size 48 #[.int .i64 4, .int .i64 V] := by rw [← hX4]; exact Blk.made _ _ _
                  have X4k := X3k.trans (sX4.mono X3k.size)
                  have KX4 := Lib.hid (Blk.below KX3.out sX4 KX3.out.lt)
                  have X4z0 : X4.cell? ⟨w1.heap.size, 0, none⟩ = some (.int .i64 U) := KX4.out.cell 0
                  have X4z1 : X4.cell? ⟨w1.heap.size, 1, none⟩ = some (.int .i64 2) := KX4.out.cell 1
                  have X4z2 : X4.cell? ⟨w1.heap.size, 2, none⟩ = some (.int .i64 V) := KX4.out.cell 2
                  have HL := Lib.hid (HB8.out.trans (X4k.mono HB8.out.size))
                  have hou : OwnT X4 w8.heap.size (some ⟨X2.heap.size, 0, none⟩) 1 1 (sideL U) := by rw [HLU.out]; exact own_litJ nX3X4 (by have q1 := hx2.size; have q2 := sX3.size; omega)
                  have hov : OwnT X4 w8.heap.size (some ⟨X3.heap.size, 0, none⟩) 1 1 (sideL V) := by rw [HLV.out]; exact own_litJ nX4 (by have q1 := hx2.size; have q2 := sX3.size; omega)
                  have HLE := Lib.hid ((imp_eq HS.out HK.out).trans HY.out)
                  go_wp2_with fail
                  refine (implLeUnder_any X4 X4.heap.size (some ⟨g, 0, none⟩) m cap l (some ⟨X2.heap.size, 0, none⟩) 1 1 (sideL U) (some ⟨X3.heap.size, 0, none⟩) 1 1 (sideL V) T pv Tc pc (Nat.lt_of_lt_of_le h0 (Nat.le_trans hB HL.out.size)) (Nat.lt_of_lt_of_le h0c (Nat.le_trans hB HL.out.size)) (Nat.le_refl _) (.inl ⟨_, _, rfl⟩) (OwnC.reads (own_below' Rl8.out X4k)) (by omega) (OwnT.reads hou) (by omega) (OwnT.reads hov) (by omega) (hE.below (HL.out.mono hB) h0) (hEc.below (HL.out.mono hB) h0c)).mono ?_
                  rintro e wz ⟨rfl, hbz⟩
                  have HZ := Lib.hid (HL.out.trans (hbz.mono HL.out.size))
                  have KZ := Lib.hid (Blk.below KX4.out hbz KX4.out.lt)
                  have z1 : wz.cell? ⟨w1.heap.size, 1, none⟩ = some (.int .i64 2) := KZ.out.cell 1
                  generalize leUnR l (sideL U) (sideL V) = zz
                  have rl2 := (OwnC.reads (own_below' Rl8.out X4k)).below hbz
                  have ru2 := (OwnT.reads hou).below hbz
                  have rv2 := (OwnT.reads hov).below hbz
                  have hsz2 := hbz.size
                  go_wp2_with fail
                  refine (implEqUnder_any wz X4.heap.size (some ⟨g, 0, none⟩) m cap l (some ⟨X2.heap.size, 0, none⟩) 1 1 (sideL U) (some ⟨X3.heap.size, 0, none⟩) 1 1 (sideL V) T pv Tc pc (Nat.lt_of_lt_of_le h0 (Nat.le_trans hB HL.out.size)) (Nat.lt_of_lt_of_le h0c (Nat.le_trans hB HL.out.size)) hsz2 (.inl ⟨_, _, rfl⟩) rl2 (by omega) ru2 (by omega) rv2 (by omega) (hE.below (HZ.out.mono hB) h0) (hEc.below (HZ.out.mono hB) h0c)).mono ?_
                  rintro e wq ⟨rfl, hbq⟩
                  have HQ := Lib.hid (HZ.out.trans (hbq.mono HZ.out.size))
                  rw [HLE.out]
                  clear hbq hbz
                  go_wp2
                  go_ret
                  exact ⟨rfl, HQ.out⟩
                · have dV : decide (0 ≤ V) = false := by simpa using hV
                  have HLV := Lib.hid (sideL_neg hV)
                  clear hV
                  obtain ⟨X2, hX2⟩ : ∃ X, (w8.alloc (.cells #[.int .i64 0, .int .i64 0] 48)).alloc (.cells #[.int .i64 0, .int .i64 0] 48) = X := ⟨_, rfl⟩
                  have hx2 : Below w8.heap.size w8 X2 := by rw [← hX2]; exact ((Below.refl _ _).alloc (Nat.le_refl _) _).alloc (by simp) _
                  have b0 : Blk X2 w8.heap.size 48 #[.int .i64 0, .int .i64 0] := by rw [← hX2]; exact (Blk.made _ _ _).alloc _
                  have b1 : Blk X2 (w8.heap.size + 1) 48 #[.int .i64 0, .int .i64 0] := by rw [← hX2]; exact Blk.made' (by simp)
                  have HK2 := Lib.hid (Blk.below KC8.out hx2 KC8.out.lt)
                  have X2z0 : X2.cell? ⟨w1.heap.size, 0, none⟩ = some (.int .i64 U) := HK2.out.cell 0
                  have X2z1 : X2.cell? ⟨w1.heap.size, 1, none⟩ = some (.int .i64 2) := HK2.out.cell 1
                  have X2z2 : X2.cell? ⟨w1.heap.size, 2, none⟩ = some (.int .i64 V) := HK2.out.cell 2
                  obtain ⟨X3, hX3⟩ : ∃ X, X2.alloc (.cells #[.int .i64 4, .int .i64 U] 48) = X := ⟨_, rfl⟩
                  have sX3 : Below X2.heap.size X2 X3 := by rw [← hX3]; exact (Below.refl _ _).alloc (Nat.le_refl _) _
                  have b0X3 := (b0).below sX3 (b0).lt
                  have b1X3 := (b1).below sX3 (b1).lt
                  have nX3 : Blk X3 X2.heap.size 48 #[.int .i64 4, .int .i64 U] := by rw [← hX3]; exact Blk.made _ _ _
                  have X3k := hx2.trans (sX3.mono hx2.size)
                  have KX3 := Lib.hid (Blk.below HK2.out sX3 HK2.out.lt)
                  have X3z0 : X3.cell? ⟨w1.heap.size, 0, none⟩ = some (.int .i64 U) := KX3.out.cell 0
                  have X3z1 : X3.cell? ⟨w1.heap.size, 1, none⟩ = some (.int .i64 2) := KX3.out.cell 1
                  have X3z2 : X3.cell? ⟨w1.heap.size, 2, none⟩ = some (.int .i64 V) := KX3.out.cell 2
                  have HL := Lib.hid (HB8.out.trans (X3k.mono HB8.out.size))
                  have hou : OwnT X3 w8.heap.size (some ⟨X2.heap.size, 0, none⟩) 1 1 (sideL U) := by rw [HLU.out]; exact own_litJ nX3 (by have q1 := hx2.size; have q2 := sX3.size; omega)
                  have hov : OwnT X3 w8.heap.size (some ⟨w8.heap.size + 1, 0, none⟩) 1 1 (sideL V) := by rw [HLV.out]; exact own_litJ b1X3 (by have q1 := hx2.size; have q2 := sX3.size; omega)
                  have HLE := Lib.hid ((imp_eq HS.out HK.out).trans HY.out)
                  go_wp2_with fail
                  refine (implLeUnder_any X3 X3.heap.size (some ⟨g, 0, none⟩) m cap l (some ⟨X2.heap.size, 0, none⟩) 1 1 (sideL U) (some ⟨w8.heap.size + 1, 0, none⟩) 1 1 (sideL V) T pv Tc pc (Nat.lt_of_lt_of_le h0 (Nat.le_trans hB HL.out.size)) (Nat.lt_of_lt_of_le h0c (Nat.le_trans hB HL.out.size)) (Nat.le_refl _) (.inl ⟨_, _, rfl⟩) (OwnC.reads (own_below' Rl8.out X3k)) (by omega) (OwnT.reads hou) (by omega) (OwnT.reads hov) (by omega) (hE.below (HL.out.mono hB) h0) (hEc.below (HL.out.mono hB) h0c)).mono ?_
                  rintro e wz ⟨rfl, hbz⟩
                  have HZ := Lib.hid (HL.out.trans (hbz.mono HL.out.size))
                  have KZ := Lib.hid (Blk.below KX3.out hbz KX3.out.lt)
                  have z1 : wz.cell? ⟨w1.heap.size, 1, none⟩ = some (.int .i64 2) := KZ.out.cell 1
                  generalize leUnR l (sideL U) (sideL V) = zz
                  have rl2 := (OwnC.reads (own_below' Rl8.out X3k)).below hbz
                  have ru2 := (OwnT.reads hou).below hbz
                  have rv2 := (OwnT.reads hov).below hbz
                  have hsz2 := hbz.size
                  go_wp2_with fail
                  refine (implEqUnder_any wz X3.heap.size (some ⟨g, 0, none⟩) m cap l (some ⟨X2.heap.size, 0, none⟩) 1 1 (sideL U) (some ⟨w8.heap.size + 1, 0, none⟩) 1 1 (sideL V) T pv Tc pc (Nat.lt_of_lt_of_le h0 (Nat.le_trans hB HL.out.size)) (Nat.lt_of_lt_of_le h0c (Nat.le_trans hB HL.out.size)) hsz2 (.inl ⟨_, _, rfl⟩) rl2 (by omega) ru2 (by omega) rv2 (by omega) (hE.below (HZ.out.mono hB) h0) (hEc.below (HZ.out.mono hB) h0c)).mono ?_
                  rintro e wq ⟨rfl, hbq⟩
                  have HQ := Lib.hid (HZ.out.trans (hbq.mono HZ.out.size))
                  rw [HLE.out]
                  clear hbq hbz
                  go_wp2
                  go_ret
                  exact ⟨rfl, HQ.out⟩
              · have dU : decide (0 ≤ U) = false := by simpa using hU
                have HLU := Lib.hid (sideL_neg hU)
                clear hU
                by_cases hV : 0 ≤ V
                · have dV : decide (0 ≤ V) = true := by simpa using hV
                  have HLV := Lib.hid (sideL_pos hV)
                  clear hV
                  obtain ⟨X2, hX2⟩ : ∃ X, (w8.alloc (.cells #[.int .i64 0, .int .i64 0] 48)).alloc (.cells #[.int .i64 0, .int .i64 0] 48) = X := ⟨_, rfl⟩
                  have hx2 : Below w8.heap.size w8 X2 := by rw [← hX2]; exact ((Below.refl _ _).alloc (Nat.le_refl _) _).alloc (by simp) _
                  have b0 : Blk X2 w8.heap.size 48 #[.int .i64 0, .int .i64 0] := by rw [← hX2]; exact (Blk.made _ _ _).alloc _
                  have b1 : Blk X2 (w8.heap.size + 1) 48 #[.int .i64 0, .int .i64 0] := by rw [← hX2]; exact Blk.made' (by simp)
                  have HK2 := Lib.hid (Blk.below KC8.out hx2 KC8.out.lt)
                  have X2z0 : X2.cell? ⟨w1.heap.size, 0, none⟩ = some (.int .i64 U) := HK2.out.cell 0
                  have X2z1 : X2.cell? ⟨w1.heap.size, 1, none⟩ = some (.int .i64 2) := HK2.out.cell 1
                  have X2z2 : X2.cell? ⟨w1.heap.size, 2, none⟩ = some (.int .i64 V) := HK2.out.cell 2
                  obtain ⟨X4, hX4⟩ : ∃ X, X2.alloc (.cells #[.int .i64 4, .int .i64 V] 48) = X := ⟨_, rfl⟩
                  have sX4 : Below X2.heap.size X2 X4 := by rw [← hX4]; exact (Below.refl _ _).alloc (Nat.le_refl _) _
                  have b0X4 := (b0).below sX4 (b0).lt
                  have b1X4 := (b1).below sX4 (b1).lt
                  have nX4 : Blk X4 X2.heap.size 48 #[.int .i64 4, .int .i64 V] := by rw [← hX4]; exact Blk.made _ _ _
                  have X4k := hx2.trans (sX4.mono hx2.size)
                  have KX4 := Lib.hid (Blk.below HK2.out sX4 HK2.out.lt)
                  have X4z0 : X4.cell? ⟨w1.heap.size, 0, none⟩ = some (.int .i64 U) := KX4.out.cell 0
                  have X4z1 : X4.cell? ⟨w1.heap.size, 1, none⟩ = some (.int .i64 2) := KX4.out.cell 1
                  have X4z2 : X4.cell? ⟨w1.heap.size, 2, none⟩ = some (.int .i64 V) := KX4.out.cell 2
                  have HL := Lib.hid (HB8.out.trans (X4k.mono HB8.out.size))
                  have hou : OwnT X4 w8.heap.size (some ⟨w8.heap.size, 0, none⟩) 1 1 (sideL U) := by rw [HLU.out]; exact own_litJ b0X4 (by have q1 := hx2.size; omega)
                  have hov : OwnT X4 w8.heap.size (some ⟨X2.heap.size, 0, none⟩) 1 1 (sideL V) := by rw [HLV.out]; exact own_litJ nX4 (by have q1 := hx2.size; omega)
                  have HLE := Lib.hid ((imp_eq HS.out HK.out).trans HY.out)
                  go_wp2_with fail
                  refine (implLeUnder_any X4 X4.heap.size (some ⟨g, 0, none⟩) m cap l (some ⟨w8.heap.size, 0, none⟩) 1 1 (sideL U) (some ⟨X2.heap.size, 0, none⟩) 1 1 (sideL V) T pv Tc pc (Nat.lt_of_lt_of_le h0 (Nat.le_trans hB HL.out.size)) (Nat.lt_of_lt_of_le h0c (Nat.le_trans hB HL.out.size)) (Nat.le_refl _) (.inl ⟨_, _, rfl⟩) (OwnC.reads (own_below' Rl8.out X4k)) (by omega) (OwnT.reads hou) (by omega) (OwnT.reads hov) (by omega) (hE.below (HL.out.mono hB) h0) (hEc.below (HL.out.mono hB) h0c)).mono ?_
                  rintro e wz ⟨rfl, hbz⟩
                  have HZ := Lib.hid (HL.out.trans (hbz.mono HL.out.size))
                  have KZ := Lib.hid (Blk.below KX4.out hbz KX4.out.lt)
                  have z1 : wz.cell? ⟨w1.heap.size, 1, none⟩ = some (.int .i64 2) := KZ.out.cell 1
                  generalize leUnR l (sideL U) (sideL V) = zz
                  have rl2 := (OwnC.reads (own_below' Rl8.out X4k)).below hbz
                  have ru2 := (OwnT.reads hou).below hbz
                  have rv2 := (OwnT.reads hov).below hbz
                  have hsz2 := hbz.size
                  go_wp2_with fail
                  refine (implEqUnder_any wz X4.heap.size (some ⟨g, 0, none⟩) m cap l (some ⟨w8.heap.size, 0, none⟩) 1 1 (sideL U) (some ⟨X2.heap.size, 0, none⟩) 1 1 (sideL V) T pv Tc pc (Nat.lt_of_lt_of_le h0 (Nat.le_trans hB HL.out.size)) (Nat.lt_of_lt_of_le h0c (Nat.le_trans hB HL.out.size)) hsz2 (.inl ⟨_, _, rfl⟩) rl2 (by omega) ru2 (by omega) rv2 (by omega) (hE.below (HZ.out.mono hB) h0) (hEc.below (HZ.out.mono hB) h0c)).mono ?_
                  rintro e wq ⟨rfl, hbq⟩
                  have HQ := Lib.hid (HZ.out.trans (hbq.mono HZ.out.size))
                  rw [HLE.out]
                  clear hbq hbz
                  go_wp2
                  go_ret
                  exact ⟨rfl, HQ.out⟩
                · have dV : decide (0 ≤ V) = false := by simpa using hV
                  have HLV := Lib.hid (sideL_neg hV)
                  clear hV
                  obtain ⟨X2, hX2⟩ : ∃ X, (w8.alloc (.cells #[.int .i64 0, .int .i64 0] 48)).alloc (.cells #[.int .i64 0, .int .i64 0] 48) = X := ⟨_, rfl⟩
                  have hx2 : Below w8.heap.size w8 X2 := by rw [← hX2]; exact ((Below.refl _ _).alloc (Nat.le_refl _) _).alloc (by simp) _
                  have b0 : Blk X2 w8.heap.size 48 #[.int .i64 0, .int .i64 0] := by rw [← hX2]; exact (Blk.made _ _ _).alloc _
                  have b1 : Blk X2 (w8.heap.size + 1) 48 #[.int .i64 0, .int .i64 0] := by rw [← hX2]; exact Blk.made' (by simp)
                  have HK2 := Lib.hid (Blk.below KC8.out hx2 KC8.out.lt)
                  have X2z0 : X2.cell? ⟨w1.heap.size, 0, none⟩ = some (.int .i64 U) := HK2.out.cell 0
                  have X2z1 : X2.cell? ⟨w1.heap.size, 1, none⟩ = some (.int .i64 2) := HK2.out.cell 1
                  have X2z2 : X2.cell? ⟨w1.heap.size, 2, none⟩ = some (.int .i64 V) := HK2.out.cell 2
                  have HL := Lib.hid (HB8.out.trans (hx2.mono HB8.out.size))
                  have hou : OwnT X2 w8.heap.size (some ⟨w8.heap.size, 0, none⟩) 1 1 (sideL U) := by rw [HLU.out]; exact own_litJ b0 (by have q1 := hx2.size; omega)
                  have hov : OwnT X2 w8.heap.size (some ⟨w8.heap.size + 1, 0, none⟩) 1 1 (sideL V) := by rw [HLV.out]; exact own_litJ b1 (by have q1 := hx2.size; omega)
                  have HLE := Lib.hid ((imp_eq HS.out HK.out).trans HY.out)
                  go_wp2_with fail
                  refine (implLeUnder_any X2 X2.heap.size (some ⟨g, 0, none⟩) m cap l (some ⟨w8.heap.size, 0, none⟩) 1 1 (sideL U) (some ⟨w8.heap.size + 1, 0, none⟩) 1 1 (sideL V) T pv Tc pc (Nat.lt_of_lt_of_le h0 (Nat.le_trans hB HL.out.size)) (Nat.lt_of_lt_of_le h0c (Nat.le_trans hB HL.out.size)) (Nat.le_refl _) (.inl ⟨_, _, rfl⟩) (OwnC.reads (own_below' Rl8.out hx2)) (by omega) (OwnT.reads hou) (by omega) (OwnT.reads hov) (by omega) (hE.below (HL.out.mono hB) h0) (hEc.below (HL.out.mono hB) h0c)).mono ?_
                  rintro e wz ⟨rfl, hbz⟩
                  have HZ := Lib.hid (HL.out.trans (hbz.mono HL.out.size))
                  have KZ := Lib.hid (Blk.below HK2.out hbz HK2.out.lt)
                  have z1 : wz.cell? ⟨w1.heap.size, 1, none⟩ = some (.int .i64 2) := KZ.out.cell 1
                  generalize leUnR l (sideL U) (sideL V) = zz
                  have rl2 := (OwnC.reads (own_below' Rl8.out hx2)).below hbz
                  have ru2 := (OwnT.reads hou).below hbz
                  have rv2 := (OwnT.reads hov).below hbz
                  have hsz2 := hbz.size
                  go_wp2_with fail
                  refine (implEqUnder_any wz X2.heap.size (some ⟨g, 0, none⟩) m cap l (some ⟨w8.heap.size, 0, none⟩) 1 1 (sideL U) (some ⟨w8.heap.size + 1, 0, none⟩) 1 1 (sideL V) T pv Tc pc (Nat.lt_of_lt_of_le h0 (Nat.le_trans hB HL.out.size)) (Nat.lt_of_lt_of_le h0c (Nat.le_trans hB HL.out.size)) hsz2 (.inl ⟨_, _, rfl⟩) rl2 (by omega) ru2 (by omega) rv2 (by omega) (hE.below (HZ.out.mono hB) h0) (hEc.below (HZ.out.mono hB) h0c)).mono ?_
                  rintro e wq ⟨rfl, hbq⟩
                  have HQ := Lib.hid (HZ.out.trans (hbq.mono HZ.out.size))
                  rw [HLE.out]
                  clear hbq hbz
                  go_wp2
                  go_ret
                  exact ⟨rfl, HQ.out⟩
          | true =>
            have HH := Lib.hid hh
            have HC := Lib.hid (imp_hold HS.out HK.out HY.out HEx.out.1 HEx.out.2 hh)
            clear hh
            have z0 : w7.cell? ⟨w1.heap.size, 0, none⟩ = some (.int .i64 U) := KC7.out.cell 0
            have z1 : w7.cell? ⟨w1.heap.size, 1, none⟩ = some (.int .i64 R) := KC7.out.cell 1
            have z2 : w7.cell? ⟨w1.heap.size, 2, none⟩ = some (.int .i64 V) := KC7.out.cell 2
            go_wp2_with fail
            refine (implConsHold_any w7 w7.heap.size (some ⟨g, 0, none⟩) m cap l (some ⟨gx, 0, none⟩) 5 capx envx (Nat.le_refl _) (OwnC.reads Rl7.out) (by omega) (OwnI.reads Rx7.out) (by omega)).mono ?_
            rintro e w8 ⟨rfl, hb⟩
            clear z0 z1 z2
            have HB8 := Lib.hid (HB7.out.trans (hb.mono HB7.out.size))
            have Rl8 := Lib.hid (own_below' Rl7.out hb)
            have Rx8 := Lib.hid (own_below' Rx7.out hb)
            have KC8 := Lib.hid (Blk.below KC7.out hb KC7.out.lt)
            clear hb Rl7 Rx7 HB7 KC7
            rw [HH.out]
            have z0 : w8.cell? ⟨w1.heap.size, 0, none⟩ = some (.int .i64 U) := KC8.out.cell 0
            have z1 : w8.cell? ⟨w1.heap.size, 1, none⟩ = some (.int .i64 R) := KC8.out.cell 1
            have z2 : w8.cell? ⟨w1.heap.size, 2, none⟩ = some (.int .i64 V) := KC8.out.cell 2
            go_wp2_with fail
            refine (implConHolds_any w8 w8.heap.size (some ⟨gx, 0, none⟩) 5 capx envx U R V (Nat.le_refl _) (OwnI.reads Rx8.out) (by omega)).mono ?_
            rintro e w9 ⟨rfl, hb⟩
            clear z0 z1 z2
            have HB9 := Lib.hid (HB8.out.trans (hb.mono HB8.out.size))
            have Rl9 := Lib.hid (own_below' Rl8.out hb)
            have Rx9 := Lib.hid (own_below' Rx8.out hb)
            have KC9 := Lib.hid (Blk.below KC8.out hb KC8.out.lt)
            clear hb Rl8 Rx8 HB8 KC8
            rw [HC.out]
            have hR3 : R = 0 ∨ R = 1 ∨ R = 2 := by have h := ((Cs.cOk_iff _).1 HK.out).2.2; simp only at h; omega
            rcases hR3 with rfl | rfl | rfl
            · skip
              by_cases hU : 0 ≤ U
              · have dU : decide (0 ≤ U) = true := by simpa using hU
                have HLU := Lib.hid (sideL_pos hU)
                clear hU
                by_cases hV : 0 ≤ V
                · have dV : decide (0 ≤ V) = true := by simpa using hV
                  have HLV := Lib.hid (sideL_pos hV)
                  clear hV
                  obtain ⟨X2, hX2⟩ : ∃ X, (w9.alloc (.cells #[.int .i64 0, .int .i64 0] 48)).alloc (.cells #[.int .i64 0, .int .i64 0] 48) = X := ⟨_, rfl⟩
                  have hx2 : Below w9.heap.size w9 X2 := by rw [← hX2]; exact ((Below.refl _ _).alloc (Nat.le_refl _) _).alloc (by simp) _
                  have b0 : Blk X2 w9.heap.size 48 #[.int .i64 0, .int .i64 0] := by rw [← hX2]; exact (Blk.made _ _ _).alloc _
                  have b1 : Blk X2 (w9.heap.size + 1) 48 #[.int .i64 0, .int .i64 0] := by rw [← hX2]; exact Blk.made' (by simp)
                  have HK2 := Lib.hid (Blk.below KC9.out hx2 KC9.out.lt)
                  have X2z0 : X2.cell? ⟨w1.heap.size, 0, none⟩ = some (.int .i64 U) := HK2.out.cell 0
                  have X2z1 : X2.cell? ⟨w1.heap.size, 1, none⟩ = some (.int .i64 0) := HK2.out.cell 1
                  have X2z2 : X2.cell? ⟨w1.heap.size, 2, none⟩ = some (.int .i64 V) := HK2.out.cell 2
                  obtain ⟨X3, hX3⟩ : ∃ X, X2.alloc (.cells #[.int .i64 4, .int .i64 U] 48) = X := ⟨_, rfl⟩
                  have sX3 : Below X2.heap.size X2 X3 := by rw [← hX3]; exact (Below.refl _ _).alloc (Nat.le_refl _) _
                  have b0X3 := (b0).below sX3 (b0).lt
                  have b1X3 := (b1).below sX3 (b1).lt
                  have nX3 : Blk X3 X2.heap.size 48 #[.int .i64 4, .int .i64 U] := by rw [← hX3]; exact Blk.made _ _ _
                  have X3k := hx2.trans (sX3.mono hx2.size)
                  have KX3 := Lib.hid (Blk.below HK2.out sX3 HK2.out.lt)
                  have X3z0 : X3.cell? ⟨w1.heap.size, 0, none⟩ = some (.int .i64 U) := KX3.out.cell 0
                  have X3z1 : X3.cell? ⟨w1.heap.size, 1, none⟩ = some (.int .i64 0) := KX3.out.cell 1
                  have X3z2 : X3.cell? ⟨w1.heap.size, 2, none⟩ = some (.int .i64 V) := KX3.out.cell 2
                  obtain ⟨X4, hX4⟩ : ∃ X, X3.alloc (.cells #[.int .i64 4, .int .i64 V] 48) = X := ⟨_, rfl⟩
                  have sX4 : Below X3.heap.size X3 X4 := by rw [← hX4]; exact (Below.refl _ _).alloc (Nat.le_refl _) _
                  have nX3X4 := (nX3).below sX4 (nX3).lt
                  have b1X3X4 := (b1X3).below sX4 (b1X3).lt
                  have nX4 : Blk X4 X3.heap.size 48 #[.int .i64 4, .int .i64 V] := by rw [← hX4]; exact Blk.made _ _ _
                  have X4k := X3k.trans (sX4.mono X3k.size)
                  have KX4 := Lib.hid (Blk.below KX3.out sX4 KX3.out.lt)
                  have X4z0 : X4.cell? ⟨w1.heap.size, 0, none⟩ = some (.int .i64 U) := KX4.out.cell 0
                  have X4z1 : X4.cell? ⟨w1.heap.size, 1, none⟩ = some (.int .i64 0) := KX4.out.cell 1
                  have X4z2 : X4.cell? ⟨w1.heap.size, 2, none⟩ = some (.int .i64 V) := KX4.out.cell 2
                  have HL := Lib.hid (HB9.out.trans (X4k.mono HB9.out.size))
                  have hou : OwnT X4 w9.heap.size (some ⟨X2.heap.size, 0, none⟩) 1 1 (sideL U) := by rw [HLU.out]; exact own_litJ nX3X4 (by have q1 := hx2.size; have q2 := sX3.size; omega)
                  have hov : OwnT X4 w9.heap.size (some ⟨X3.heap.size, 0, none⟩) 1 1 (sideL V) := by rw [HLV.out]; exact own_litJ nX4 (by have q1 := hx2.size; have q2 := sX3.size; omega)
                  have HLE := Lib.hid ((imp_le HS.out HK.out).trans HY.out)
                  go_wp2_with fail
                  refine (implLeUnder_any X4 X4.heap.size (some ⟨g, 0, none⟩) m cap l (some ⟨X2.heap.size, 0, none⟩) 1 1 (sideL U) (some ⟨X3.heap.size, 0, none⟩) 1 1 (sideL V) T pv Tc pc (Nat.lt_of_lt_of_le h0 (Nat.le_trans hB HL.out.size)) (Nat.lt_of_lt_of_le h0c (Nat.le_trans hB HL.out.size)) (Nat.le_refl _) (.inl ⟨_, _, rfl⟩) (OwnC.reads (own_below' Rl9.out X4k)) (by omega) (OwnT.reads hou) (by omega) (OwnT.reads hov) (by omega) (hE.below (HL.out.mono hB) h0) (hEc.below (HL.out.mono hB) h0c)).mono ?_
                  rintro e wz ⟨rfl, hbz⟩
                  have HZ := Lib.hid (HL.out.trans (hbz.mono HL.out.size))
                  have KZ := Lib.hid (Blk.below KX4.out hbz KX4.out.lt)
                  have z1 : wz.cell? ⟨w1.heap.size, 1, none⟩ = some (.int .i64 0) := KZ.out.cell 1
                  rw [HLE.out]
                  clear hbz
                  go_wp2
                  go_ret
                  exact ⟨rfl, HZ.out⟩
                · have dV : decide (0 ≤ V) = false := by simpa using hV
                  have HLV := Lib.hid (sideL_neg hV)
                  clear hV
                  obtain ⟨X2, hX2⟩ : ∃ X, (w9.alloc (.cells #[.int .i64 0, .int .i64 0] 48)).alloc (.cells #[.int .i64 0, .int .i64 0] 48) = X := ⟨_, rfl⟩
                  have hx2 : Below w9.heap.size w9 X2 := by rw [← hX2]; exact ((Below.refl _ _).alloc (Nat.le_refl _) _).alloc (by simp) _
                  have b0 : Blk X2 w9.heap.size 48 #[.int .i64 0, .int .i64 0] := by rw [← hX2]; exact (Blk.made _ _ _).alloc _
                  have b1 : Blk X2 (w9.heap.size + 1) 48 #[.int .i64 0, .int .i64 0] := by rw [← hX2]; exact Blk.made' (by simp)
                  have HK2 := Lib.hid (Blk.below KC9.out hx2 KC9.out.lt)
                  have X2z0 : X2.cell? ⟨w1.heap.size, 0, none⟩ = some (.int .i64 U) := HK2.out.cell 0
                  have X2z1 : X2.cell? ⟨w1.heap.size, 1, none⟩ = some (.int .i64 0) := HK2.out.cell 1
                  have X2z2 : X2.cell? ⟨w1.heap.size, 2, none⟩ = some (.int .i64 V) := HK2.out.cell 2
                  obtain ⟨X3, hX3⟩ : ∃ X, X2.alloc (.cells #[.int .i64 4, .int .i64 U] 48) = X := ⟨_, rfl⟩
                  have sX3 : Below X2.heap.size X2 X3 := by rw [← hX3]; exact (Below.refl _ _).alloc (Nat.le_refl _) _
                  have b0X3 := (b0).below sX3 (b0).lt
                  have b1X3 := (b1).below sX3 (b1).lt
                  have nX3 : Blk X3 X2.heap.size 48 #[.int .i64 4, .int .i64 U] := by rw [← hX3]; exact Blk.made _ _ _
                  have X3k := hx2.trans (sX3.mono hx2.size)
                  have KX3 := Lib.hid (Blk.below HK2.out sX3 HK2.out.lt)
                  have X3z0 : X3.cell? ⟨w1.heap.size, 0, none⟩ = some (.int .i64 U) := KX3.out.cell 0
                  have X3z1 : X3.cell? ⟨w1.heap.size, 1, none⟩ = some (.int .i64 0) := KX3.out.cell 1
                  have X3z2 : X3.cell? ⟨w1.heap.size, 2, none⟩ = some (.int .i64 V) := KX3.out.cell 2
                  have HL := Lib.hid (HB9.out.trans (X3k.mono HB9.out.size))
                  have hou : OwnT X3 w9.heap.size (some ⟨X2.heap.size, 0, none⟩) 1 1 (sideL U) := by rw [HLU.out]; exact own_litJ nX3 (by have q1 := hx2.size; have q2 := sX3.size; omega)
                  have hov : OwnT X3 w9.heap.size (some ⟨w9.heap.size + 1, 0, none⟩) 1 1 (sideL V) := by rw [HLV.out]; exact own_litJ b1X3 (by have q1 := hx2.size; have q2 := sX3.size; omega)
                  have HLE := Lib.hid ((imp_le HS.out HK.out).trans HY.out)
                  go_wp2_with fail
                  refine (implLeUnder_any X3 X3.heap.size (some ⟨g, 0, none⟩) m cap l (some ⟨X2.heap.size, 0, none⟩) 1 1 (sideL U) (some ⟨w9.heap.size + 1, 0, none⟩) 1 1 (sideL V) T pv Tc pc (Nat.lt_of_lt_of_le h0 (Nat.le_trans hB HL.out.size)) (Nat.lt_of_lt_of_le h0c (Nat.le_trans hB HL.out.size)) (Nat.le_refl _) (.inl ⟨_, _, rfl⟩) (OwnC.reads (own_below' Rl9.out X3k)) (by omega) (OwnT.reads hou) (by omega) (OwnT.reads hov) (by omega) (hE.below (HL.out.mono hB) h0) (hEc.below (HL.out.mono hB) h0c)).mono ?_
                  rintro e wz ⟨rfl, hbz⟩
                  have HZ := Lib.hid (HL.out.trans (hbz.mono HL.out.size))
                  have KZ := Lib.hid (Blk.below KX3.out hbz KX3.out.lt)
                  have z1 : wz.cell? ⟨w1.heap.size, 1, none⟩ = some (.int .i64 0) := KZ.out.cell 1
                  rw [HLE.out]
                  clear hbz
                  go_wp2
                  go_ret
                  exact ⟨rfl, HZ.out⟩
              · have dU : decide (0 ≤ U) = false := by simpa using hU
                have HLU := Lib.hid (sideL_neg hU)
                clear hU
                by_cases hV : 0 ≤ V
                · have dV : decide (0 ≤ V) = true := by simpa using hV
                  have HLV := Lib.hid (sideL_pos hV)
                  clear hV
                  obtain ⟨X2, hX2⟩ : ∃ X, (w9.alloc (.cells #[.int .i64 0, .int .i64 0] 48)).alloc (.cells #[.int .i64 0, .int .i64 0] 48) = X := ⟨_, rfl⟩
                  have hx2 : Below w9.heap.size w9 X2 := by rw [← hX2]; exact ((Below.refl _ _).alloc (Nat.le_refl _) _).alloc (by simp) _
                  have b0 : Blk X2 w9.heap.size 48 #[.int .i64 0, .int .i64 0] := by rw [← hX2]; exact (Blk.made _ _ _).alloc _
                  have b1 : Blk X2 (w9.heap.size + 1) 48 #[.int .i64 0, .int .i64 0] := by rw [← hX2]; exact Blk.made' (by simp)
                  have HK2 := Lib.hid (Blk.below KC9.out hx2 KC9.out.lt)
                  have X2z0 : X2.cell? ⟨w1.heap.size, 0, none⟩ = some (.int .i64 U) := HK2.out.cell 0
                  have X2z1 : X2.cell? ⟨w1.heap.size, 1, none⟩ = some (.int .i64 0) := HK2.out.cell 1
                  have X2z2 : X2.cell? ⟨w1.heap.size, 2, none⟩ = some (.int .i64 V) := HK2.out.cell 2
                  obtain ⟨X4, hX4⟩ : ∃ X, X2.alloc (.cells #[.int .i64 4, .int .i64 V] 48) = X := ⟨_, rfl⟩
                  have sX4 : Below X2.heap.size X2 X4 := by rw [← hX4]; exact (Below.refl _ _).alloc (Nat.le_refl _) _
                  have b0X4 := (b0).below sX4 (b0).lt
                  have b1X4 := (b1).below sX4 (b1).lt
                  have nX4 : Blk X4 X2.heap.size 48 #[.int .i64 4, .int .i64 V] := by rw [← hX4]; exact Blk.made _ _ _
                  have X4k := hx2.trans (sX4.mono hx2.size)
                  have KX4 := Lib.hid (Blk.below HK2.out sX4 HK2.out.lt)
                  have X4z0 : X4.cell? ⟨w1.heap.size, 0, none⟩ = some (.int .i64 U) := KX4.out.cell 0
                  have X4z1 : X4.cell? ⟨w1.heap.size, 1, none⟩ = some (.int .i64 0) := KX4.out.cell 1
                  have X4z2 : X4.cell? ⟨w1.heap.size, 2, none⟩ = some (.int .i64 V) := KX4.out.cell 2
                  have HL := Lib.hid (HB9.out.trans (X4k.mono HB9.out.size))
                  have hou : OwnT X4 w9.heap.size (some ⟨w9.heap.size, 0, none⟩) 1 1 (sideL U) := by rw [HLU.out]; exact own_litJ b0X4 (by have q1 := hx2.size; omega)
                  have hov : OwnT X4 w9.heap.size (some ⟨X2.heap.size, 0, none⟩) 1 1 (sideL V) := by rw [HLV.out]; exact own_litJ nX4 (by have q1 := hx2.size; omega)
                  have HLE := Lib.hid ((imp_le HS.out HK.out).trans HY.out)
                  go_wp2_with fail
                  refine (implLeUnder_any X4 X4.heap.size (some ⟨g, 0, none⟩) m cap l (some ⟨w9.heap.size, 0, none⟩) 1 1 (sideL U) (some ⟨X2.heap.size, 0, none⟩) 1 1 (sideL V) T pv Tc pc (Nat.lt_of_lt_of_le h0 (Nat.le_trans hB HL.out.size)) (Nat.lt_of_lt_of_le h0c (Nat.le_trans hB HL.out.size)) (Nat.le_refl _) (.inl ⟨_, _, rfl⟩) (OwnC.reads (own_below' Rl9.out X4k)) (by omega) (OwnT.reads hou) (by omega) (OwnT.reads hov) (by omega) (hE.below (HL.out.mono hB) h0) (hEc.below (HL.out.mono hB) h0c)).mono ?_
                  rintro e wz ⟨rfl, hbz⟩
                  have HZ := Lib.hid (HL.out.trans (hbz.mono HL.out.size))
                  have KZ := Lib.hid (Blk.below KX4.out hbz KX4.out.lt)
                  have z1 : wz.cell? ⟨w1.heap.size, 1, none⟩ = some (.int .i64 0) := KZ.out.cell 1
                  rw [HLE.out]
                  clear hbz
                  go_wp2
                  go_ret
                  exact ⟨rfl, HZ.out⟩
                · have dV : decide (0 ≤ V) = false := by simpa using hV
                  have HLV := Lib.hid (sideL_neg hV)
                  clear hV
                  obtain ⟨X2, hX2⟩ : ∃ X, (w9.alloc (.cells #[.int .i64 0, .int .i64 0] 48)).alloc (.cells #[.int .i64 0, .int .i64 0] 48) = X := ⟨_, rfl⟩
                  have hx2 : Below w9.heap.size w9 X2 := by rw [← hX2]; exact ((Below.refl _ _).alloc (Nat.le_refl _) _).alloc (by simp) _
                  have b0 : Blk X2 w9.heap.size 48 #[.int .i64 0, .int .i64 0] := by rw [← hX2]; exact (Blk.made _ _ _).alloc _
                  have b1 : Blk X2 (w9.heap.size + 1) 48 #[.int .i64 0, .int .i64 0] := by rw [← hX2]; exact Blk.made' (by simp)
                  have HK2 := Lib.hid (Blk.below KC9.out hx2 KC9.out.lt)
                  have X2z0 : X2.cell? ⟨w1.heap.size, 0, none⟩ = some (.int .i64 U) := HK2.out.cell 0
                  have X2z1 : X2.cell? ⟨w1.heap.size, 1, none⟩ = some (.int .i64 0) := HK2.out.cell 1
                  have X2z2 : X2.cell? ⟨w1.heap.size, 2, none⟩ = some (.int .i64 V) := HK2.out.cell 2
                  have HL := Lib.hid (HB9.out.trans (hx2.mono HB9.out.size))
                  have hou : OwnT X2 w9.heap.size (some ⟨w9.heap.size, 0, none⟩) 1 1 (sideL U) := by rw [HLU.out]; exact own_litJ b0 (by have q1 := hx2.size; omega)
                  have hov : OwnT X2 w9.heap.size (some ⟨w9.heap.size + 1, 0, none⟩) 1 1 (sideL V) := by rw [HLV.out]; exact own_litJ b1 (by have q1 := hx2.size; omega)
                  have HLE := Lib.hid ((imp_le HS.out HK.out).trans HY.out)
                  go_wp2_with fail
                  refine (implLeUnder_any X2 X2.heap.size (some ⟨g, 0, none⟩) m cap l (some ⟨w9.heap.size, 0, none⟩) 1 1 (sideL U) (some ⟨w9.heap.size + 1, 0, none⟩) 1 1 (sideL V) T pv Tc pc (Nat.lt_of_lt_of_le h0 (Nat.le_trans hB HL.out.size)) (Nat.lt_of_lt_of_le h0c (Nat.le_trans hB HL.out.size)) (Nat.le_refl _) (.inl ⟨_, _, rfl⟩) (OwnC.reads (own_below' Rl9.out hx2)) (by omega) (OwnT.reads hou) (by omega) (OwnT.reads hov) (by omega) (hE.below (HL.out.mono hB) h0) (hEc.below (HL.out.mono hB) h0c)).mono ?_
                  rintro e wz ⟨rfl, hbz⟩
                  have HZ := Lib.hid (HL.out.trans (hbz.mono HL.out.size))
                  have KZ := Lib.hid (Blk.below HK2.out hbz HK2.out.lt)
                  have z1 : wz.cell? ⟨w1.heap.size, 1, none⟩ = some (.int .i64 0) := KZ.out.cell 1
                  rw [HLE.out]
                  clear hbz
                  go_wp2
                  go_ret
                  exact ⟨rfl, HZ.out⟩
            · skip
              by_cases hU : 0 ≤ U
              · have dU : decide (0 ≤ U) = true := by simpa using hU
                have HLU := Lib.hid (sideL_pos hU)
                clear hU
                by_cases hV : 0 ≤ V
                · have dV : decide (0 ≤ V) = true := by simpa using hV
                  have HLV := Lib.hid (sideL_pos hV)
                  clear hV
                  obtain ⟨X2, hX2⟩ : ∃ X, (w9.alloc (.cells #[.int .i64 0, .int .i64 0] 48)).alloc (.cells #[.int .i64 0, .int .i64 0] 48) = X := ⟨_, rfl⟩
                  have hx2 : Below w9.heap.size w9 X2 := by rw [← hX2]; exact ((Below.refl _ _).alloc (Nat.le_refl _) _).alloc (by simp) _
                  have b0 : Blk X2 w9.heap.size 48 #[.int .i64 0, .int .i64 0] := by rw [← hX2]; exact (Blk.made _ _ _).alloc _
                  have b1 : Blk X2 (w9.heap.size + 1) 48 #[.int .i64 0, .int .i64 0] := by rw [← hX2]; exact Blk.made' (by simp)
                  have HK2 := Lib.hid (Blk.below KC9.out hx2 KC9.out.lt)
                  have X2z0 : X2.cell? ⟨w1.heap.size, 0, none⟩ = some (.int .i64 U) := HK2.out.cell 0
                  have X2z1 : X2.cell? ⟨w1.heap.size, 1, none⟩ = some (.int .i64 1) := HK2.out.cell 1
                  have X2z2 : X2.cell? ⟨w1.heap.size, 2, none⟩ = some (.int .i64 V) := HK2.out.cell 2
                  obtain ⟨X3, hX3⟩ : ∃ X, X2.alloc (.cells #[.int .i64 4, .int .i64 U] 48) = X := ⟨_, rfl⟩
                  have sX3 : Below X2.heap.size X2 X3 := by rw [← hX3]; exact (Below.refl _ _).alloc (Nat.le_refl _) _
                  have b0X3 := (b0).below sX3 (b0).lt
                  have b1X3 := (b1).below sX3 (b1).lt
                  have nX3 : Blk X3 X2.heap.size 48 #[.int .i64 4, .int .i64 U] := by rw [← hX3]; exact Blk.made _ _ _
                  have X3k := hx2.trans (sX3.mono hx2.size)
                  have KX3 := Lib.hid (Blk.below HK2.out sX3 HK2.out.lt)
                  have X3z0 : X3.cell? ⟨w1.heap.size, 0, none⟩ = some (.int .i64 U) := KX3.out.cell 0
                  have X3z1 : X3.cell? ⟨w1.heap.size, 1, none⟩ = some (.int .i64 1) := KX3.out.cell 1
                  have X3z2 : X3.cell? ⟨w1.heap.size, 2, none⟩ = some (.int .i64 V) := KX3.out.cell 2
                  obtain ⟨X4, hX4⟩ : ∃ X, X3.alloc (.cells #[.int .i64 4, .int .i64 V] 48) = X := ⟨_, rfl⟩
                  have sX4 : Below X3.heap.size X3 X4 := by rw [← hX4]; exact (Below.refl _ _).alloc (Nat.le_refl _) _
                  have nX3X4 := (nX3).below sX4 (nX3).lt
                  have b1X3X4 := (b1X3).below sX4 (b1X3).lt
                  have nX4 : Blk X4 X3.heap.size 48 #[.int .i64 4, .int .i64 V] := by rw [← hX4]; exact Blk.made _ _ _
                  have X4k := X3k.trans (sX4.mono X3k.size)
                  have KX4 := Lib.hid (Blk.below KX3.out sX4 KX3.out.lt)
                  have X4z0 : X4.cell? ⟨w1.heap.size, 0, none⟩ = some (.int .i64 U) := KX4.out.cell 0
                  have X4z1 : X4.cell? ⟨w1.heap.size, 1, none⟩ = some (.int .i64 1) := KX4.out.cell 1
                  have X4z2 : X4.cell? ⟨w1.heap.size, 2, none⟩ = some (.int .i64 V) := KX4.out.cell 2
                  have HL := Lib.hid (HB9.out.trans (X4k.mono HB9.out.size))
                  have hou : OwnT X4 w9.heap.size (some ⟨X2.heap.size, 0, none⟩) 1 1 (sideL U) := by rw [HLU.out]; exact own_litJ nX3X4 (by have q1 := hx2.size; have q2 := sX3.size; omega)
                  have hov : OwnT X4 w9.heap.size (some ⟨X3.heap.size, 0, none⟩) 1 1 (sideL V) := by rw [HLV.out]; exact own_litJ nX4 (by have q1 := hx2.size; have q2 := sX3.size; omega)
                  have HLE := Lib.hid ((imp_lt HS.out HK.out).trans HY.out)
                  have hne : ∀ {r : Nat}, (Value.slice (some ⟨X2.heap.size, 0, none⟩) 1 1).ownBlock = some r → r = X2.heap.size := fun h => by have h' : X2.heap.size = _ := (by simpa [Value.ownBlock] using h); omega
                  have hpq : X3.heap.size ≠ X2.heap.size := by have q1 := (nX3X4).lt; have q2 := (nX4).lt; have q3 := b0.lt; have q4 := b1.lt; have q5 := nX3.lt; omega
                  go_wp2_with (at_builtin; refine wpList_append_own _ rfl (.tmp 75) (.tmp 77) 24 rfl w9.heap.size 48 i0 (.agg #[.int .i64 0, .int .i64 0]) 2 16 Tryd.underlying24 hi hz0 hz1 hz2 rfl (by decide) (.slice (some ⟨X2.heap.size, 0, none⟩) 1 1) 1 (tokCells (sideL U)) rfl (hou.alloc _) ⟨X4.heap.size, 0, none⟩ 1 1 (tokCells [(1, 0)]) rfl rfl (Blk.tokA2 _ _ _) (tokCells_one _) (by unfold maxLen; omega) (by omega) (by have := X4k.size; simp; omega) ?_; intro v' X9 hown' hgrow hnil; obtain ⟨g9, c9, rfl⟩ := tok_two hown'; have hx9 : Below w9.heap.size w9 X9 := (X4k.alloc X4k.size _).grown hgrow (by have := X4k.size; simp; omega) (fun x h => (hou.lt x h).1); have hov9 : OwnT X9 w9.heap.size (some ⟨X3.heap.size, 0, none⟩) 1 1 (sideL V) := (by rw [HLV.out]; exact own_litJ ((Blk.alloc nX4 _).grown hgrow (fun he => hpq (hne he.symm))) (by have q1 := hx2.size; have q2 := sX3.size; omega)); have hou9 : OwnT X9 w9.heap.size (some ⟨g9, 0, none⟩) 2 c9 (sideL U ++ [(1, 0)]) := (by show X9.ownsRow _ _ _ _ _ _; rw [tokCells_append]; exact hown'); clear hown' hgrow hnil)
                  have HL9 := Lib.hid (HB9.out.trans (hx9.mono HB9.out.size))
                  have K9 := Lib.hid (Blk.below KC9.out hx9 KC9.out.lt)
                  refine (implLeUnder_any X9 X9.heap.size (some ⟨g, 0, none⟩) m cap l (some ⟨g9, 0, none⟩) 2 c9 (sideL U ++ [(1, 0)]) (some ⟨X3.heap.size, 0, none⟩) 1 1 (sideL V) T pv Tc pc (Nat.lt_of_lt_of_le h0 (Nat.le_trans hB HL9.out.size)) (Nat.lt_of_lt_of_le h0c (Nat.le_trans hB HL9.out.size)) (Nat.le_refl _) (.inl ⟨_, _, rfl⟩) (OwnC.reads (own_below' Rl9.out hx9)) (by omega) (OwnT.reads hou9) (by omega) (OwnT.reads hov9) (by omega) (hE.below (HL9.out.mono hB) h0) (hEc.below (HL9.out.mono hB) h0c)).mono ?_
                  rintro e wz ⟨rfl, hbz⟩
                  have HZ := Lib.hid (HL9.out.trans (hbz.mono HL9.out.size))
                  have KZ := Lib.hid (Blk.below K9.out hbz K9.out.lt)
                  have z1 : wz.cell? ⟨w1.heap.size, 1, none⟩ = some (.int .i64 1) := KZ.out.cell 1
                  rw [HLE.out]
                  clear hbz
                  go_wp2
                  go_ret
                  exact ⟨rfl, HZ.out⟩
                · have dV : decide (0 ≤ V) = false := by simpa using hV
                  have HLV := Lib.hid (sideL_neg hV)
                  clear hV
                  obtain ⟨X2, hX2⟩ : ∃ X, (w9.alloc (.cells #[.int .i64 0, .int .i64 0] 48)).alloc (.cells #[.int .i64 0, .int .i64 0] 48) = X := ⟨_, rfl⟩
                  have hx2 : Below w9.heap.size w9 X2 := by rw [← hX2]; exact ((Below.refl _ _).alloc (Nat.le_refl _) _).alloc (by simp) _
                  have b0 : Blk X2 w9.heap.size 48 #[.int .i64 0, .int .i64 0] := by rw [← hX2]; exact (Blk.made _ _ _).alloc _
                  have b1 : Blk X2 (w9.heap.size + 1) 48 #[.int .i64 0, .int .i64 0] := by rw [← hX2]; exact Blk.made' (by simp)
                  have HK2 := Lib.hid (Blk.below KC9.out hx2 KC9.out.lt)
                  have X2z0 : X2.cell? ⟨w1.heap.size, 0, none⟩ = some (.int .i64 U) := HK2.out.cell 0
                  have X2z1 : X2.cell? ⟨w1.heap.size, 1, none⟩ = some (.int .i64 1) := HK2.out.cell 1
                  have X2z2 : X2.cell? ⟨w1.heap.size, 2, none⟩ = some (.int .i64 V) := HK2.out.cell 2
                  obtain ⟨X3, hX3⟩ : ∃ X, X2.alloc (.cells #[.int .i64 4, .int .i64 U] 48) = X := ⟨_, rfl⟩
                  have sX3 : Below X2.heap.size X2 X3 := by rw [← hX3]; exact (Below.refl _ _).alloc (Nat.le_refl _) _
                  have b0X3 := (b0).below sX3 (b0).lt
                  have b1X3 := (b1).below sX3 (b1).lt
                  have nX3 : Blk X3 X2.heap.size 48 #[.int .i64 4, .int .i64 U] := by rw [← hX3]; exact Blk.made _ _ _
                  have X3k := hx2.trans (sX3.mono hx2.size)
                  have KX3 := Lib.hid (Blk.below HK2.out sX3 HK2.out.lt)
                  have X3z0 : X3.cell? ⟨w1.heap.size, 0, none⟩ = some (.int .i64 U) := KX3.out.cell 0
                  have X3z1 : X3.cell? ⟨w1.heap.size, 1, none⟩ = some (.int .i64 1) := KX3.out.cell 1
                  have X3z2 : X3.cell? ⟨w1.heap.size, 2, none⟩ = some (.int .i64 V) := KX3.out.cell 2
                  have HL := Lib.hid (HB9.out.trans (X3k.mono HB9.out.size))
                  have hou : OwnT X3 w9.heap.size (some ⟨X2.heap.size, 0, none⟩) 1 1 (sideL U) := by rw [HLU.out]; exact own_litJ nX3 (by have q1 := hx2.size; have q2 := sX3.size; omega)
                  have hov : OwnT X3 w9.heap.size (some ⟨w9.heap.size + 1, 0, none⟩) 1 1 (sideL V) := by rw [HLV.out]; exact own_litJ b1X3 (by have q1 := hx2.size; have q2 := sX3.size; omega)
                  have HLE := Lib.hid ((imp_lt HS.out HK.out).trans HY.out)
                  have hne : ∀ {r : Nat}, (Value.slice (some ⟨X2.heap.size, 0, none⟩) 1 1).ownBlock = some r → r = X2.heap.size := fun h => by have h' : X2.heap.size = _ := (by simpa [Value.ownBlock] using h); omega
                  have hpq : w9.heap.size + 1 ≠ X2.heap.size := by have q1 := (nX3).lt; have q2 := (b1X3).lt; have q3 := b0.lt; have q4 := b1.lt; omega
                  go_wp2_with (at_builtin; refine wpList_append_own _ rfl (.tmp 75) (.tmp 77) 24 rfl w9.heap.size 48 i0 (.agg #[.int .i64 0, .int .i64 0]) 2 16 Tryd.underlying24 hi hz0 hz1 hz2 rfl (by decide) (.slice (some ⟨X2.heap.size, 0, none⟩) 1 1) 1 (tokCells (sideL U)) rfl (hou.alloc _) ⟨X3.heap.size, 0, none⟩ 1 1 (tokCells [(1, 0)]) rfl rfl (Blk.tokA2 _ _ _) (tokCells_one _) (by unfold maxLen; omega) (by omega) (by have := X3k.size; simp; omega) ?_; intro v' X9 hown' hgrow hnil; obtain ⟨g9, c9, rfl⟩ := tok_two hown'; have hx9 : Below w9.heap.size w9 X9 := (X3k.alloc X3k.size _).grown hgrow (by have := X3k.size; simp; omega) (fun x h => (hou.lt x h).1); have hov9 : OwnT X9 w9.heap.size (some ⟨w9.heap.size + 1, 0, none⟩) 1 1 (sideL V) := (by rw [HLV.out]; exact own_litJ ((Blk.alloc b1X3 _).grown hgrow (fun he => hpq (hne he.symm))) (by have q1 := hx2.size; have q2 := sX3.size; omega)); have hou9 : OwnT X9 w9.heap.size (some ⟨g9, 0, none⟩) 2 c9 (sideL U ++ [(1, 0)]) := (by show X9.ownsRow _ _ _ _ _ _; rw [tokCells_append]; exact hown'); clear hown' hgrow hnil)
                  have HL9 := Lib.hid (HB9.out.trans (hx9.mono HB9.out.size))
                  have K9 := Lib.hid (Blk.below KC9.out hx9 KC9.out.lt)
                  refine (implLeUnder_any X9 X9.heap.size (some ⟨g, 0, none⟩) m cap l (some ⟨g9, 0, none⟩) 2 c9 (sideL U ++ [(1, 0)]) (some ⟨w9.heap.size + 1, 0, none⟩) 1 1 (sideL V) T pv Tc pc (Nat.lt_of_lt_of_le h0 (Nat.le_trans hB HL9.out.size)) (Nat.lt_of_lt_of_le h0c (Nat.le_trans hB HL9.out.size)) (Nat.le_refl _) (.inl ⟨_, _, rfl⟩) (OwnC.reads (own_below' Rl9.out hx9)) (by omega) (OwnT.reads hou9) (by omega) (OwnT.reads hov9) (by omega) (hE.below (HL9.out.mono hB) h0) (hEc.below (HL9.out.mono hB) h0c)).mono ?_
                  rintro e wz ⟨rfl, hbz⟩
                  have HZ := Lib.hid (HL9.out.trans (hbz.mono HL9.out.size))
                  have KZ := Lib.hid (Blk.below K9.out hbz K9.out.lt)
                  have z1 : wz.cell? ⟨w1.heap.size, 1, none⟩ = some (.int .i64 1) := KZ.out.cell 1
                  rw [HLE.out]
                  clear hbz
                  go_wp2
                  go_ret
                  exact ⟨rfl, HZ.out⟩
              · have dU : decide (0 ≤ U) = false := by simpa using hU
                have HLU := Lib.hid (sideL_neg hU)
                clear hU
                by_cases hV : 0 ≤ V
                · have dV : decide (0 ≤ V) = true := by simpa using hV
                  have HLV := Lib.hid (sideL_pos hV)
                  clear hV
                  obtain ⟨X2, hX2⟩ : ∃ X, (w9.alloc (.cells #[.int .i64 0, .int .i64 0] 48)).alloc (.cells #[.int .i64 0, .int .i64 0] 48) = X := ⟨_, rfl⟩
                  have hx2 : Below w9.heap.size w9 X2 := by rw [← hX2]; exact ((Below.refl _ _).alloc (Nat.le_refl _) _).alloc (by simp) _
                  have b0 : Blk X2 w9.heap.size 48 #[.int .i64 0, .int .i64 0] := by rw [← hX2]; exact (Blk.made _ _ _).alloc _
                  have b1 : Blk X2 (w9.heap.size + 1) 48 #[.int .i64 0, .int .i64 0] := by rw [← hX2]; exact Blk.made' (by simp)
                  have HK2 := Lib.hid (Blk.below KC9.out hx2 KC9.out.lt)
                  have X2z0 : X2.cell? ⟨w1.heap.size, 0, none⟩ = some (.int .i64 U) := HK2.out.cell 0
                  have X2z1 : X2.cell? ⟨w1.heap.size, 1, none⟩ = some (.int .i64 1) := HK2.out.cell 1
                  have X2z2 : X2.cell? ⟨w1.heap.size, 2, none⟩ = some (.int .i64 V) := HK2.out.cell 2
                  obtain ⟨X4, hX4⟩ : ∃ X, X2.alloc (.cells #[.int .i64 4, .int .i64 V] 48) = X := ⟨_, rfl⟩
                  have sX4 : Below X2.heap.size X2 X4 := by rw [← hX4]; exact (Below.refl _ _).alloc (Nat.le_refl _) _
                  have b0X4 := (b0).below sX4 (b0).lt
                  have b1X4 := (b1).below sX4 (b1).lt
                  have nX4 : Blk X4 X2.heap.size 48 #[.int .i64 4, .int .i64 V] := by rw [← hX4]; exact Blk.made _ _ _
                  have X4k := hx2.trans (sX4.mono hx2.size)
                  have KX4 := Lib.hid (Blk.below HK2.out sX4 HK2.out.lt)
                  have X4z0 : X4.cell? ⟨w1.heap.size, 0, none⟩ = some (.int .i64 U) := KX4.out.cell 0
                  have X4z1 : X4.cell? ⟨w1.heap.size, 1, none⟩ = some (.int .i64 1) := KX4.out.cell 1
                  have X4z2 : X4.cell? ⟨w1.heap.size, 2, none⟩ = some (.int .i64 V) := KX4.out.cell 2
                  have HL := Lib.hid (HB9.out.trans (X4k.mono HB9.out.size))
                  have hou : OwnT X4 w9.heap.size (some ⟨w9.heap.size, 0, none⟩) 1 1 (sideL U) := by rw [HLU.out]; exact own_litJ b0X4 (by have q1 := hx2.size; omega)
                  have hov : OwnT X4 w9.heap.size (some ⟨X2.heap.size, 0, none⟩) 1 1 (sideL V) := by rw [HLV.out]; exact own_litJ nX4 (by have q1 := hx2.size; omega)
                  have HLE := Lib.hid ((imp_lt HS.out HK.out).trans HY.out)
                  have hne : ∀ {r : Nat}, (Value.slice (some ⟨w9.heap.size, 0, none⟩) 1 1).ownBlock = some r → r = w9.heap.size := fun h => by have h' : w9.heap.size = _ := (by simpa [Value.ownBlock] using h); omega
                  have hpq : X2.heap.size ≠ w9.heap.size := by have q1 := (b0X4).lt; have q2 := (nX4).lt; have q3 := b0.lt; have q4 := b1.lt; omega
                  go_wp2_with (at_builtin; refine wpList_append_own _ rfl (.tmp 75) (.tmp 77) 24 rfl w9.heap.size 48 i0 (.agg #[.int .i64 0, .int .i64 0]) 2 16 Tryd.underlying24 hi hz0 hz1 hz2 rfl (by decide) (.slice (some ⟨w9.heap.size, 0, none⟩) 1 1) 1 (tokCells (sideL U)) rfl (hou.alloc _) ⟨X4.heap.size, 0, none⟩ 1 1 (tokCells [(1, 0)]) rfl rfl (Blk.tokA2 _ _ _) (tokCells_one _) (by unfold maxLen; omega) (by omega) (by have := X4k.size; simp; omega) ?_; intro v' X9 hown' hgrow hnil; obtain ⟨g9, c9, rfl⟩ := tok_two hown'; have hx9 : Below w9.heap.size w9 X9 := (X4k.alloc X4k.size _).grown hgrow (by have := X4k.size; simp; omega) (fun x h => (hou.lt x h).1); have hov9 : OwnT X9 w9.heap.size (some ⟨X2.heap.size, 0, none⟩) 1 1 (sideL V) := (by rw [HLV.out]; exact own_litJ ((Blk.alloc nX4 _).grown hgrow (fun he => hpq (hne he.symm))) (by have q1 := hx2.size; omega)); have hou9 : OwnT X9 w9.heap.size (some ⟨g9, 0, none⟩) 2 c9 (sideL U ++ [(1, 0)]) := (by show X9.ownsRow _ _ _ _ _ _; rw [tokCells_append]; exact hown'); clear hown' hgrow hnil)
                  have HL9 := Lib.hid (HB9.out.trans (hx9.mono HB9.out.size))
                  have K9 := Lib.hid (Blk.below KC9.out hx9 KC9.out.lt)
                  refine (implLeUnder_any X9 X9.heap.size (some ⟨g, 0, none⟩) m cap l (some ⟨g9, 0, none⟩) 2 c9 (sideL U ++ [(1, 0)]) (some ⟨X2.heap.size, 0, none⟩) 1 1 (sideL V) T pv Tc pc (Nat.lt_of_lt_of_le h0 (Nat.le_trans hB HL9.out.size)) (Nat.lt_of_lt_of_le h0c (Nat.le_trans hB HL9.out.size)) (Nat.le_refl _) (.inl ⟨_, _, rfl⟩) (OwnC.reads (own_below' Rl9.out hx9)) (by omega) (OwnT.reads hou9) (by omega) (OwnT.reads hov9) (by omega) (hE.below (HL9.out.mono hB) h0) (hEc.below (HL9.out.mono hB) h0c)).mono ?_
                  rintro e wz ⟨rfl, hbz⟩
                  have HZ := Lib.hid (HL9.out.trans (hbz.mono HL9.out.size))
                  have KZ := Lib.hid (Blk.below K9.out hbz K9.out.lt)
                  have z1 : wz.cell? ⟨w1.heap.size, 1, none⟩ = some (.int .i64 1) := KZ.out.cell 1
                  rw [HLE.out]
                  clear hbz
                  go_wp2
                  go_ret
                  exact ⟨rfl, HZ.out⟩
                · have dV : decide (0 ≤ V) = false := by simpa using hV
                  have HLV := Lib.hid (sideL_neg hV)
                  clear hV
                  obtain ⟨X2, hX2⟩ : ∃ X, (w9.alloc (.cells #[.int .i64 0, .int .i64 0] 48)).alloc (.cells #[.int .i64 0, .int .i64 0] 48) = X := ⟨_, rfl⟩
                  have hx2 : Below w9.heap.size w9 X2 := by rw [← hX2]; exact ((Below.refl _ _).alloc (Nat.le_refl _) _).alloc (by simp) _
                  have b0 : Blk X2 w9.heap.size 48 #[.int .i64 0, .int .i64 0] := by rw [← hX2]; exact (Blk.made _ _ _).alloc _
                  have b1 : Blk X2 (w9.heap.size + 1) 48 #[.int .i64 0, .int .i64 0] := by rw [← hX2]; exact Blk.made' (by simp)
                  have HK2 := Lib.hid (Blk.below KC9.out hx2 KC9.out.lt)
                  have X2z0 : X2.cell? ⟨w1.heap.size, 0, none⟩ = some (.int .i64 U) := HK2.out.cell 0
                  have X2z1 : X2.cell? ⟨w1.heap.size, 1, none⟩ = some (.int .i64 1) := HK2.out.cell 1
                  have X2z2 : X2.cell? ⟨w1.heap.size, 2, none⟩ = some (.int .i64 V) := HK2.out.cell 2
                  have HL := Lib.hid (HB9.out.trans (hx2.mono HB9.out.size))
                  have hou : OwnT X2 w9.heap.size (some ⟨w9.heap.size, 0, none⟩) 1 1 (sideL U) := by rw [HLU.out]; exact own_litJ b0 (by have q1 := hx2.size; omega)
                  have hov : OwnT X2 w9.heap.size (some ⟨w9.heap.size + 1, 0, none⟩) 1 1 (sideL V) := by rw [HLV.out]; exact own_litJ b1 (by have q1 := hx2.size; omega)
                  have HLE := Lib.hid ((imp_lt HS.out HK.out).trans HY.out)
                  have hne : ∀ {r : Nat}, (Value.slice (some ⟨w9.heap.size, 0, none⟩) 1 1).ownBlock = some r → r = w9.heap.size := fun h => by have h' : w9.heap.size = _ := (by simpa [Value.ownBlock] using h); omega
                  have hpq : w9.heap.size + 1 ≠ w9.heap.size := by have q1 := (b0).lt; have q2 := (b1).lt; have q3 := b0.lt; have q4 := b1.lt; omega
                  go_wp2_with (at_builtin; refine wpList_append_own _ rfl (.tmp 75) (.tmp 77) 24 rfl w9.heap.size 48 i0 (.agg #[.int .i64 0, .int .i64 0]) 2 16 Tryd.underlying24 hi hz0 hz1 hz2 rfl (by decide) (.slice (some ⟨w9.heap.size, 0, none⟩) 1 1) 1 (tokCells (sideL U)) rfl (hou.alloc _) ⟨X2.heap.size, 0, none⟩ 1 1 (tokCells [(1, 0)]) rfl rfl (Blk.tokA2 _ _ _) (tokCells_one _) (by unfold maxLen; omega) (by omega) (by have := hx2.size; simp; omega) ?_; intro v' X9 hown' hgrow hnil; obtain ⟨g9, c9, rfl⟩ := tok_two hown'; have hx9 : Below w9.heap.size w9 X9 := (hx2.alloc hx2.size _).grown hgrow (by have := hx2.size; simp; omega) (fun x h => (hou.lt x h).1); have hov9 : OwnT X9 w9.heap.size (some ⟨w9.heap.size + 1, 0, none⟩) 1 1 (sideL V) := (by rw [HLV.out]; exact own_litJ ((Blk.alloc b1 _).grown hgrow (fun he => hpq (hne he.symm))) (by have q1 := hx2.size; omega)); have hou9 : OwnT X9 w9.heap.size (some ⟨g9, 0, none⟩) 2 c9 (sideL U ++ [(1, 0)]) := (by show X9.ownsRow _ _ _ _ _ _; rw [tokCells_append]; exact hown'); clear hown' hgrow hnil)
                  have HL9 := Lib.hid (HB9.out.trans (hx9.mono HB9.out.size))
                  have K9 := Lib.hid (Blk.below KC9.out hx9 KC9.out.lt)
                  refine (implLeUnder_any X9 X9.heap.size (some ⟨g, 0, none⟩) m cap l (some ⟨g9, 0, none⟩) 2 c9 (sideL U ++ [(1, 0)]) (some ⟨w9.heap.size + 1, 0, none⟩) 1 1 (sideL V) T pv Tc pc (Nat.lt_of_lt_of_le h0 (Nat.le_trans hB HL9.out.size)) (Nat.lt_of_lt_of_le h0c (Nat.le_trans hB HL9.out.size)) (Nat.le_refl _) (.inl ⟨_, _, rfl⟩) (OwnC.reads (own_below' Rl9.out hx9)) (by omega) (OwnT.reads hou9) (by omega) (OwnT.reads hov9) (by omega) (hE.below (HL9.out.mono hB) h0) (hEc.below (HL9.out.mono hB) h0c)).mono ?_
                  rintro e wz ⟨rfl, hbz⟩
                  have HZ := Lib.hid (HL9.out.trans (hbz.mono HL9.out.size))
                  have KZ := Lib.hid (Blk.below K9.out hbz K9.out.lt)
                  have z1 : wz.cell? ⟨w1.heap.size, 1, none⟩ = some (.int .i64 1) := KZ.out.cell 1
                  rw [HLE.out]
                  clear hbz
                  go_wp2
                  go_ret
                  exact ⟨rfl, HZ.out⟩
            · skip
              by_cases hU : 0 ≤ U
              · have dU : decide (0 ≤ U) = true := by simpa using hU
                have HLU := Lib.hid (sideL_pos hU)
                clear hU
                by_cases hV : 0 ≤ V
                · have dV : decide (0 ≤ V) = true := by simpa using hV
                  have HLV := Lib.hid (sideL_pos hV)
                  clear hV
                  obtain ⟨X2, hX2⟩ : ∃ X, (w9.alloc (.cells #[.int .i64 0, .int .i64 0] 48)).alloc (.cells #[.int .i64 0, .int .i64 0] 48) = X := ⟨_, rfl⟩
                  have hx2 : Below w9.heap.size w9 X2 := by rw [← hX2]; exact ((Below.refl _ _).alloc (Nat.le_refl _) _).alloc (by simp) _
                  have b0 : Blk X2 w9.heap.size 48 #[.int .i64 0, .int .i64 0] := by rw [← hX2]; exact (Blk.made _ _ _).alloc _
                  have b1 : Blk X2 (w9.heap.size + 1) 48 #[.int .i64 0, .int .i64 0] := by rw [← hX2]; exact Blk.made' (by simp)
                  have HK2 := Lib.hid (Blk.below KC9.out hx2 KC9.out.lt)
                  have X2z0 : X2.cell? ⟨w1.heap.size, 0, none⟩ = some (.int .i64 U) := HK2.out.cell 0
                  have X2z1 : X2.cell? ⟨w1.heap.size, 1, none⟩ = some (.int .i64 2) := HK2.out.cell 1
                  have X2z2 : X2.cell? ⟨w1.heap.size, 2, none⟩ = some (.int .i64 V) := HK2.out.cell 2
                  obtain ⟨X3, hX3⟩ : ∃ X, X2.alloc (.cells #[.int .i64 4, .int .i64 U] 48) = X := ⟨_, rfl⟩
                  have sX3 : Below X2.heap.size X2 X3 := by rw [← hX3]; exact (Below.refl _ _).alloc (Nat.le_refl _) _
                  have b0X3 := (b0).below sX3 (b0).lt
                  have b1X3 := (b1).below sX3 (b1).lt
                  have nX3 : Blk X3 X2.heap.size 48 #[.int .i64 4, .int .i64 U] := by rw [← hX3]; exact Blk.made _ _ _
                  have X3k := hx2.trans (sX3.mono hx2.size)
                  have KX3 := Lib.hid (Blk.below HK2.out sX3 HK2.out.lt)
                  have X3z0 : X3.cell? ⟨w1.heap.size, 0, none⟩ = some (.int .i64 U) := KX3.out.cell 0
                  have X3z1 : X3.cell? ⟨w1.heap.size, 1, none⟩ = some (.int .i64 2) := KX3.out.cell 1
                  have X3z2 : X3.cell? ⟨w1.heap.size, 2, none⟩ = some (.int .i64 V) := KX3.out.cell 2
                  obtain ⟨X4, hX4⟩ : ∃ X, X3.alloc (.cells #[.int .i64 4, .int .i64 V] 48) = X := ⟨_, rfl⟩
                  have sX4 : Below X3.heap.size X3 X4 := by rw [← hX4]; exact (Below.refl _ _).alloc (Nat.le_refl _) _
                  have nX3X4 := (nX3).below sX4 (nX3).lt
                  have b1X3X4 := (b1X3).below sX4 (b1X3).lt
                  have nX4 : Blk X4 X3.heap.size 48 #[.int .i64 4, .int .i64 V] := by rw [← hX4]; exact Blk.made _ _ _
                  have X4k := X3k.trans (sX4.mono X3k.size)
                  have KX4 := Lib.hid (Blk.below KX3.out sX4 KX3.out.lt)
                  have X4z0 : X4.cell? ⟨w1.heap.size, 0, none⟩ = some (.int .i64 U) := KX4.out.cell 0
                  have X4z1 : X4.cell? ⟨w1.heap.size, 1, none⟩ = some (.int .i64 2) := KX4.out.cell 1
                  have X4z2 : X4.cell? ⟨w1.heap.size, 2, none⟩ = some (.int .i64 V) := KX4.out.cell 2
                  have HL := Lib.hid (HB9.out.trans (X4k.mono HB9.out.size))
                  have hou : OwnT X4 w9.heap.size (some ⟨X2.heap.size, 0, none⟩) 1 1 (sideL U) := by rw [HLU.out]; exact own_litJ nX3X4 (by have q1 := hx2.size; have q2 := sX3.size; omega)
                  have hov : OwnT X4 w9.heap.size (some ⟨X3.heap.size, 0, none⟩) 1 1 (sideL V) := by rw [HLV.out]; exact own_litJ nX4 (by have q1 := hx2.size; have q2 := sX3.size; omega)
                  have HLE := Lib.hid ((imp_eq HS.out HK.out).trans HY.out)
                  go_wp2_with fail
                  refine (implLeUnder_any X4 X4.heap.size (some ⟨g, 0, none⟩) m cap l (some ⟨X2.heap.size, 0, none⟩) 1 1 (sideL U) (some ⟨X3.heap.size, 0, none⟩) 1 1 (sideL V) T pv Tc pc (Nat.lt_of_lt_of_le h0 (Nat.le_trans hB HL.out.size)) (Nat.lt_of_lt_of_le h0c (Nat.le_trans hB HL.out.size)) (Nat.le_refl _) (.inl ⟨_, _, rfl⟩) (OwnC.reads (own_below' Rl9.out X4k)) (by omega) (OwnT.reads hou) (by omega) (OwnT.reads hov) (by omega) (hE.below (HL.out.mono hB) h0) (hEc.below (HL.out.mono hB) h0c)).mono ?_
                  rintro e wz ⟨rfl, hbz⟩
                  have HZ := Lib.hid (HL.out.trans (hbz.mono HL.out.size))
                  have KZ := Lib.hid (Blk.below KX4.out hbz KX4.out.lt)
                  have z1 : wz.cell? ⟨w1.heap.size, 1, none⟩ = some (.int .i64 2) := KZ.out.cell 1
                  generalize leUnR l (sideL U) (sideL V) = zz
                  have rl2 := (OwnC.reads (own_below' Rl9.out X4k)).below hbz
                  have ru2 := (OwnT.reads hou).below hbz
                  have rv2 := (OwnT.reads hov).below hbz
                  have hsz2 := hbz.size
                  go_wp2_with fail
                  refine (implEqUnder_any wz X4.heap.size (some ⟨g, 0, none⟩) m cap l (some ⟨X2.heap.size, 0, none⟩) 1 1 (sideL U) (some ⟨X3.heap.size, 0, none⟩) 1 1 (sideL V) T pv Tc pc (Nat.lt_of_lt_of_le h0 (Nat.le_trans hB HL.out.size)) (Nat.lt_of_lt_of_le h0c (Nat.le_trans hB HL.out.size)) hsz2 (.inl ⟨_, _, rfl⟩) rl2 (by omega) ru2 (by omega) rv2 (by omega) (hE.below (HZ.out.mono hB) h0) (hEc.below (HZ.out.mono hB) h0c)).mono ?_
                  rintro e wq ⟨rfl, hbq⟩
                  have HQ := Lib.hid (HZ.out.trans (hbq.mono HZ.out.size))
                  rw [HLE.out]
                  clear hbq hbz
                  go_wp2
                  go_ret
                  exact ⟨rfl, HQ.out⟩
                · have dV : decide (0 ≤ V) = false := by simpa using hV
                  have HLV := Lib.hid (sideL_neg hV)
                  clear hV
                  obtain ⟨X2, hX2⟩ : ∃ X, (w9.alloc (.cells #[.int .i64 0, .int .i64 0] 48)).alloc (.cells #[.int .i64 0, .int .i64 0] 48) = X := ⟨_, rfl⟩
                  have hx2 : Below w9.heap.size w9 X2 := by rw [← hX2]; exact ((Below.refl _ _).alloc (Nat.le_refl _) _).alloc (by simp) _
                  have b0 : Blk X2 w9.heap.size 48 #[.int .i64 0, .int .i64 0] := by rw [← hX2]; exact (Blk.made _ _ _).alloc _
                  have b1 : Blk X2 (w9.heap.size + 1) 48 #[.int .i64 0, .int .i64 0] := by rw [← hX2]; exact Blk.made' (by simp)
                  have HK2 := Lib.hid (Blk.below KC9.out hx2 KC9.out.lt)
                  have X2z0 : X2.cell? ⟨w1.heap.size, 0, none⟩ = some (.int .i64 U) := HK2.out.cell 0
                  have X2z1 : X2.cell? ⟨w1.heap.size, 1, none⟩ = some (.int .i64 2) := HK2.out.cell 1
                  have X2z2 : X2.cell? ⟨w1.heap.size, 2, none⟩ = some (.int .i64 V) := HK2.out.cell 2
                  obtain ⟨X3, hX3⟩ : ∃ X, X2.alloc (.cells #[.int .i64 4, .int .i64 U] 48) = X := ⟨_, rfl⟩
                  have sX3 : Below X2.heap.size X2 X3 := by rw [← hX3]; exact (Below.refl _ _).alloc (Nat.le_refl _) _
                  have b0X3 := (b0).below sX3 (b0).lt
                  have b1X3 := (b1).below sX3 (b1).lt
                  have nX3 : Blk X3 X2.heap.size 48 #[.int .i64 4, .int .i64 U] := by rw [← hX3]; exact Blk.made _ _ _
                  have X3k := hx2.trans (sX3.mono hx2.size)
                  have KX3 := Lib.hid (Blk.below HK2.out sX3 HK2.out.lt)
                  have X3z0 : X3.cell? ⟨w1.heap.size, 0, none⟩ = some (.int .i64 U) := KX3.out.cell 0
                  have X3z1 : X3.cell? ⟨w1.heap.size, 1, none⟩ = some (.int .i64 2) := KX3.out.cell 1
                  have X3z2 : X3.cell? ⟨w1.heap.size, 2, none⟩ = some (.int .i64 V) := KX3.out.cell 2
                  have HL := Lib.hid (HB9.out.trans (X3k.mono HB9.out.size))
                  have hou : OwnT X3 w9.heap.size (some ⟨X2.heap.size, 0, none⟩) 1 1 (sideL U) := by rw [HLU.out]; exact own_litJ nX3 (by have q1 := hx2.size; have q2 := sX3.size; omega)
                  have hov : OwnT X3 w9.heap.size (some ⟨w9.heap.size + 1, 0, none⟩) 1 1 (sideL V) := by rw [HLV.out]; exact own_litJ b1X3 (by have q1 := hx2.size; have q2 := sX3.size; omega)
                  have HLE := Lib.hid ((imp_eq HS.out HK.out).trans HY.out)
                  go_wp2_with fail
                  refine (implLeUnder_any X3 X3.heap.size (some ⟨g, 0, none⟩) m cap l (some ⟨X2.heap.size, 0, none⟩) 1 1 (sideL U) (some ⟨w9.heap.size + 1, 0, none⟩) 1 1 (sideL V) T pv Tc pc (Nat.lt_of_lt_of_le h0 (Nat.le_trans hB HL.out.size)) (Nat.lt_of_lt_of_le h0c (Nat.le_trans hB HL.out.size)) (Nat.le_refl _) (.inl ⟨_, _, rfl⟩) (OwnC.reads (own_below' Rl9.out X3k)) (by omega) (OwnT.reads hou) (by omega) (OwnT.reads hov) (by omega) (hE.below (HL.out.mono hB) h0) (hEc.below (HL.out.mono hB) h0c)).mono ?_
                  rintro e wz ⟨rfl, hbz⟩
                  have HZ := Lib.hid (HL.out.trans (hbz.mono HL.out.size))
                  have KZ := Lib.hid (Blk.below KX3.out hbz KX3.out.lt)
                  have z1 : wz.cell? ⟨w1.heap.size, 1, none⟩ = some (.int .i64 2) := KZ.out.cell 1
                  generalize leUnR l (sideL U) (sideL V) = zz
                  have rl2 := (OwnC.reads (own_below' Rl9.out X3k)).below hbz
                  have ru2 := (OwnT.reads hou).below hbz
                  have rv2 := (OwnT.reads hov).below hbz
                  have hsz2 := hbz.size
                  go_wp2_with fail
                  refine (implEqUnder_any wz X3.heap.size (some ⟨g, 0, none⟩) m cap l (some ⟨X2.heap.size, 0, none⟩) 1 1 (sideL U) (some ⟨w9.heap.size + 1, 0, none⟩) 1 1 (sideL V) T pv Tc pc (Nat.lt_of_lt_of_le h0 (Nat.le_trans hB HL.out.size)) (Nat.lt_of_lt_of_le h0c (Nat.le_trans hB HL.out.size)) hsz2 (.inl ⟨_, _, rfl⟩) rl2 (by omega) ru2 (by omega) rv2 (by omega) (hE.below (HZ.out.mono hB) h0) (hEc.below (HZ.out.mono hB) h0c)).mono ?_
                  rintro e wq ⟨rfl, hbq⟩
                  have HQ := Lib.hid (HZ.out.trans (hbq.mono HZ.out.size))
                  rw [HLE.out]
                  clear hbq hbz
                  go_wp2
                  go_ret
                  exact ⟨rfl, HQ.out⟩
              · have dU : decide (0 ≤ U) = false := by simpa using hU
                have HLU := Lib.hid (sideL_neg hU)
                clear hU
                by_cases hV : 0 ≤ V
                · have dV : decide (0 ≤ V) = true := by simpa using hV
                  have HLV := Lib.hid (sideL_pos hV)
                  clear hV
                  obtain ⟨X2, hX2⟩ : ∃ X, (w9.alloc (.cells #[.int .i64 0, .int .i64 0] 48)).alloc (.cells #[.int .i64 0, .int .i64 0] 48) = X := ⟨_, rfl⟩
                  have hx2 : Below w9.heap.size w9 X2 := by rw [← hX2]; exact ((Below.refl _ _).alloc (Nat.le_refl _) _).alloc (by simp) _
                  have b0 : Blk X2 w9.heap.size 48 #[.int .i64 0, .int .i64 0] := by rw [← hX2]; exact (Blk.made _ _ _).alloc _
                  have b1 : Blk X2 (w9.heap.size + 1) 48 #[.int .i64 0, .int .i64 0] := by rw [← hX2]; exact Blk.made' (by simp)
                  have HK2 := Lib.hid (Blk.below KC9.out hx2 KC9.out.lt)
                  have X2z0 : X2.cell? ⟨w1.heap.size, 0, none⟩ = some (.int .i64 U) := HK2.out.cell 0
                  have X2z1 : X2.cell? ⟨w1.heap.size, 1, none⟩ = some (.int .i64 2) := HK2.out.cell 1
                  have X2z2 : X2.cell? ⟨w1.heap.size, 2, none⟩ = some (.int .i64 V) := HK2.out.cell 2
                  obtain ⟨X4, hX4⟩ : ∃ X, X2.alloc (.cells #[.int .i64 4, .int .i64 V] 48) = X := ⟨_, rfl⟩
                  have sX4 : Below X2.heap.size X2 X4 := by rw [← hX4]; exact (Below.refl _ _).alloc (Nat.le_refl _) _
                  have b0X4 := (b0).below sX4 (b0).lt
                  have b1X4 := (b1).below sX4 (b1).lt
                  have nX4 : Blk X4 X2.heap.size 48 #[.int .i64 4, .int .i64 V] := by rw [← hX4]; exact Blk.made _ _ _
                  have X4k := hx2.trans (sX4.mono hx2.size)
                  have KX4 := Lib.hid (Blk.below HK2.out sX4 HK2.out.lt)
                  have X4z0 : X4.cell? ⟨w1.heap.size, 0, none⟩ = some (.int .i64 U) := KX4.out.cell 0
                  have X4z1 : X4.cell? ⟨w1.heap.size, 1, none⟩ = some (.int .i64 2) := KX4.out.cell 1
                  have X4z2 : X4.cell? ⟨w1.heap.size, 2, none⟩ = some (.int .i64 V) := KX4.out.cell 2
                  have HL := Lib.hid (HB9.out.trans (X4k.mono HB9.out.size))
                  have hou : OwnT X4 w9.heap.size (some ⟨w9.heap.size, 0, none⟩) 1 1 (sideL U) := by rw [HLU.out]; exact own_litJ b0X4 (by have q1 := hx2.size; omega)
                  have hov : OwnT X4 w9.heap.size (some ⟨X2.heap.size, 0, none⟩) 1 1 (sideL V) := by rw [HLV.out]; exact own_litJ nX4 (by have q1 := hx2.size; omega)
                  have HLE := Lib.hid ((imp_eq HS.out HK.out).trans HY.out)
                  go_wp2_with fail
                  refine (implLeUnder_any X4 X4.heap.size (some ⟨g, 0, none⟩) m cap l (some ⟨w9.heap.size, 0, none⟩) 1 1 (sideL U) (some ⟨X2.heap.size, 0, none⟩) 1 1 (sideL V) T pv Tc pc (Nat.lt_of_lt_of_le h0 (Nat.le_trans hB HL.out.size)) (Nat.lt_of_lt_of_le h0c (Nat.le_trans hB HL.out.size)) (Nat.le_refl _) (.inl ⟨_, _, rfl⟩) (OwnC.reads (own_below' Rl9.out X4k)) (by omega) (OwnT.reads hou) (by omega) (OwnT.reads hov) (by omega) (hE.below (HL.out.mono hB) h0) (hEc.below (HL.out.mono hB) h0c)).mono ?_
                  rintro e wz ⟨rfl, hbz⟩
                  have HZ := Lib.hid (HL.out.trans (hbz.mono HL.out.size))
                  have KZ := Lib.hid (Blk.below KX4.out hbz KX4.out.lt)
                  have z1 : wz.cell? ⟨w1.heap.size, 1, none⟩ = some (.int .i64 2) := KZ.out.cell 1
                  generalize leUnR l (sideL U) (sideL V) = zz
                  have rl2 := (OwnC.reads (own_below' Rl9.out X4k)).below hbz
                  have ru2 := (OwnT.reads hou).below hbz
                  have rv2 := (OwnT.reads hov).below hbz
                  have hsz2 := hbz.size
                  go_wp2_with fail
                  refine (implEqUnder_any wz X4.heap.size (some ⟨g, 0, none⟩) m cap l (some ⟨w9.heap.size, 0, none⟩) 1 1 (sideL U) (some ⟨X2.heap.size, 0, none⟩) 1 1 (sideL V) T pv Tc pc (Nat.lt_of_lt_of_le h0 (Nat.le_trans hB HL.out.size)) (Nat.lt_of_lt_of_le h0c (Nat.le_trans hB HL.out.size)) hsz2 (.inl ⟨_, _, rfl⟩) rl2 (by omega) ru2 (by omega) rv2 (by omega) (hE.below (HZ.out.mono hB) h0) (hEc.below (HZ.out.mono hB) h0c)).mono ?_
                  rintro e wq ⟨rfl, hbq⟩
                  have HQ := Lib.hid (HZ.out.trans (hbq.mono HZ.out.size))
                  rw [HLE.out]
                  clear hbq hbz
                  go_wp2
                  go_ret
                  exact ⟨rfl, HQ.out⟩
                · have dV : decide (0 ≤ V) = false := by simpa using hV
                  have HLV := Lib.hid (sideL_neg hV)
                  clear hV
                  obtain ⟨X2, hX2⟩ : ∃ X, (w9.alloc (.cells #[.int .i64 0, .int .i64 0] 48)).alloc (.cells #[.int .i64 0, .int .i64 0] 48) = X := ⟨_, rfl⟩
                  have hx2 : Below w9.heap.size w9 X2 := by rw [← hX2]; exact ((Below.refl _ _).alloc (Nat.le_refl _) _).alloc (by simp) _
                  have b0 : Blk X2 w9.heap.size 48 #[.int .i64 0, .int .i64 0] := by rw [← hX2]; exact (Blk.made _ _ _).alloc _
                  have b1 : Blk X2 (w9.heap.size + 1) 48 #[.int .i64 0, .int .i64 0] := by rw [← hX2]; exact Blk.made' (by simp)
                  have HK2 := Lib.hid (Blk.below KC9.out hx2 KC9.out.lt)
                  have X2z0 : X2.cell? ⟨w1.heap.size, 0, none⟩ = some (.int .i64 U) := HK2.out.cell 0
                  have X2z1 : X2.cell? ⟨w1.heap.size, 1, none⟩ = some (.int .i64 2) := HK2.out.cell 1
                  have X2z2 : X2.cell? ⟨w1.heap.size, 2, none⟩ = some (.int .i64 V) := HK2.out.cell 2
                  have HL := Lib.hid (HB9.out.trans (hx2.mono HB9.out.size))
                  have hou : OwnT X2 w9.heap.size (some ⟨w9.heap.size, 0, none⟩) 1 1 (sideL U) := by rw [HLU.out]; exact own_litJ b0 (by have q1 := hx2.size; omega)
                  have hov : OwnT X2 w9.heap.size (some ⟨w9.heap.size + 1, 0, none⟩) 1 1 (sideL V) := by rw [HLV.out]; exact own_litJ b1 (by have q1 := hx2.size; omega)
                  have HLE := Lib.hid ((imp_eq HS.out HK.out).trans HY.out)
                  go_wp2_with fail
                  refine (implLeUnder_any X2 X2.heap.size (some ⟨g, 0, none⟩) m cap l (some ⟨w9.heap.size, 0, none⟩) 1 1 (sideL U) (some ⟨w9.heap.size + 1, 0, none⟩) 1 1 (sideL V) T pv Tc pc (Nat.lt_of_lt_of_le h0 (Nat.le_trans hB HL.out.size)) (Nat.lt_of_lt_of_le h0c (Nat.le_trans hB HL.out.size)) (Nat.le_refl _) (.inl ⟨_, _, rfl⟩) (OwnC.reads (own_below' Rl9.out hx2)) (by omega) (OwnT.reads hou) (by omega) (OwnT.reads hov) (by omega) (hE.below (HL.out.mono hB) h0) (hEc.below (HL.out.mono hB) h0c)).mono ?_
                  rintro e wz ⟨rfl, hbz⟩
                  have HZ := Lib.hid (HL.out.trans (hbz.mono HL.out.size))
                  have KZ := Lib.hid (Blk.below HK2.out hbz HK2.out.lt)
                  have z1 : wz.cell? ⟨w1.heap.size, 1, none⟩ = some (.int .i64 2) := KZ.out.cell 1
                  generalize leUnR l (sideL U) (sideL V) = zz
                  have rl2 := (OwnC.reads (own_below' Rl9.out hx2)).below hbz
                  have ru2 := (OwnT.reads hou).below hbz
                  have rv2 := (OwnT.reads hov).below hbz
                  have hsz2 := hbz.size
                  go_wp2_with fail
                  refine (implEqUnder_any wz X2.heap.size (some ⟨g, 0, none⟩) m cap l (some ⟨w9.heap.size, 0, none⟩) 1 1 (sideL U) (some ⟨w9.heap.size + 1, 0, none⟩) 1 1 (sideL V) T pv Tc pc (Nat.lt_of_lt_of_le h0 (Nat.le_trans hB HL.out.size)) (Nat.lt_of_lt_of_le h0c (Nat.le_trans hB HL.out.size)) hsz2 (.inl ⟨_, _, rfl⟩) rl2 (by omega) ru2 (by omega) rv2 (by omega) (hE.below (HZ.out.mono hB) h0) (hEc.below (HZ.out.mono hB) h0c)).mono ?_
                  rintro e wq ⟨rfl, hbq⟩
                  have HQ := Lib.hid (HZ.out.trans (hbq.mono HZ.out.size))
                  rw [HLE.out]
                  clear hbq hbz
                  go_wp2
                  go_ret
                  exact ⟨rfl, HQ.out⟩
end Go.Proofs.YtmbcjddahncocaaDoor
