/- The law FnNormLe: the walk. -/
import Derived.Test.YtgbdojenenfgfaaDrawN3
import Derived.Test.YtgbdojenenfgfaaSameA
import Derived.Test.YtgbdojenenfgfaaNLe2
import Derived.Test.YtgbdojenenfgfaaNEval
import Derived.Test.YtgbdojenenfgfaaNMath3
namespace Go.Proofs.Ytgbdojenenfgfaa
open Go.RowKit

theorem nev_form {l : List (Int × Int)} {env : List Int} (h1 : Nm.normOk l = true) (h2 : envOk env = true) : nevV l env = .tuple #[.int .i64 (Nm.value env l), .bool true] := by rw [nevV, nevR_yes ⟨h1, h2⟩]; rfl
theorem envN5 {env : List Int} (h5 : env.length = 5) (he : ∀ x ∈ env, 0 ≤ x ∧ x ≤ (5 : Int)) : envOk env = true := by
  simp only [envOk, Bool.and_eq_true, decide_eq_true_eq, List.all_eq_true]
  exact ⟨h5, fun x hx => by have := he x hx; omega⟩
theorem peak_ok (p : Int) : envOk (Nm.peak p) = true := by
  simp only [envOk, Bool.and_eq_true, decide_eq_true_eq, List.all_eq_true]
  refine ⟨by simp [Nm.peak], fun x hx => ?_⟩
  simp only [Nm.peak, List.mem_map] at hx
  obtain ⟨i, _, rfl⟩ := hx
  split <;> omega
theorem peak_none (w : World) : IntR (w.alloc (.cells #[.int .i64 0, .int .i64 0, .int .i64 0, .int .i64 0, .int .i64 0] 3)) (w.heap.size + 1) (some ⟨w.heap.size, 0, none⟩) 5 (Nm.peak (-1)) := by
  refine ⟨by simp [Nm.peak], fun _ => ⟨w.heap.size, 0, rfl, by omega, fun k hk => ?_⟩⟩
  rw [Nm.peak_get _ _ hk, if_neg (by omega), Nat.zero_add, (Blk.made w _ _).cell]
  rcases (show k = 0 ∨ k = 1 ∨ k = 2 ∨ k = 3 ∨ k = 4 by omega) with rfl | rfl | rfl | rfl | rfl <;> rfl
theorem peak_put (w : World) (P : Nat) (hP : P < 5) : IntR (w.alloc (.cells ([Value.int .i64 0, .int .i64 0, .int .i64 0, .int .i64 0, .int .i64 0].set P (.int .i64 1000)).toArray 3)) (w.heap.size + 1) (some ⟨w.heap.size, 0, none⟩) 5 (Nm.peak (P : Int)) := by
  refine ⟨by simp [Nm.peak], fun _ => ⟨w.heap.size, 0, rfl, by omega, fun k hk => ?_⟩⟩
  rw [Nm.peak_get _ _ hk, Nat.zero_add, (Blk.made w _ _).cell]
  rcases (show k = 0 ∨ k = 1 ∨ k = 2 ∨ k = 3 ∨ k = 4 by omega) with rfl | rfl | rfl | rfl | rfl <;>
    rcases (show P = 0 ∨ P = 1 ∨ P = 2 ∨ P = 3 ∨ P = 4 by omega) with rfl | rfl | rfl | rfl | rfl <;> rfl
theorem peak_cell (w : World) (P : Nat) (hP : P < 5) : (w.alloc (.cells #[.int .i64 0, .int .i64 0, .int .i64 0, .int .i64 0, .int .i64 0] 3)).cell? ⟨w.heap.size, P, none⟩ = some (.int .i64 0) := by
  rw [(Blk.made w _ _).cell]
  rcases (show P = 0 ∨ P = 1 ∨ P = 2 ∨ P = 3 ∨ P = 4 by omega) with rfl | rfl | rfl | rfl | rfl <;> rfl
theorem all500 {la lb : List (Int × Int)} (h : ∀ j, j < la.length + lb.length → ((la ++ lb).getD j (0, 0)).2 ≤ 500) : ∀ y ∈ lb, y.2 ≤ 500 := by
  intro y hy
  obtain ⟨k, hk, rfl⟩ := Nm.getD_of_mem (List.mem_append_right la hy)
  exact h k (by simpa using hk)

set_option maxRecDepth 100000 in
set_option maxHeartbeats 6400000 in
theorem fnNormLe_any (w : World) (B : Nat) (A : Option Addr) (n c : Nat) (hB : B ≤ w.heap.size) (hb : BytR w B A n) :
    Calls Try.prog 4 #[.slice A n c] w fun e w' => e = .returned (.bool true) ∧ Below w.heap.size w w' := by
  obtain ⟨i0, hi, hz0, hz1, hz2⟩ := info_parts info_atom
  have hmk : ∀ w, (Instr.makeSlice 29 (.int .i64 5) (.int .i64 5)).run Try.prog w = .ok (.slice (some ⟨w.heap.size, 0, none⟩) 5 5) (w.alloc (.cells #[.int .i64 0, .int .i64 0, .int .i64 0, .int .i64 0, .int .i64 0] 3)) := fun _ => by kernel_rfl
  by_cases hbig : 1048576 < (n : Int)
  · go_enter Try.func4, Try.ntmps4
    go_wp2_with fail
    refine (big_any w A n c).mono ?_
    rintro e w' ⟨rfl, rfl⟩
    rw [decide_eq_true (by omega)]
    go_wp2
    go_ret
    exact ⟨rfl, Below.refl _ _⟩
  · have hn : n ≤ 1048576 := by omega
    go_enter Try.func4, Try.ntmps4
    go_wp2_with fail
    refine (big_any w A n c).mono ?_
    rintro e w' ⟨rfl, rfl⟩
    rw [decide_eq_false (by omega)]
    go_wp2_with fail
    refine (drawNormLe_any w B A n c hB hb hn).mono ?_
    rintro e w1 ⟨A1, c1, la, A2, c2, lb, rfl, ⟨oa1, ca, la7⟩, ⟨ob1, cb, lb7⟩, hB1⟩
    have s1 := hB1.size
    obtain ⟨L, hL⟩ : ∃ L, la.length = L := ⟨_, rfl⟩
    obtain ⟨M, hM⟩ : ∃ M, lb.length = M := ⟨_, rfl⟩
    rw [hL] at oa1 ca la7 ⊢
    rw [hM] at ob1 cb lb7 ⊢
    go_wp2_with fail
    refine (implNormLe_any w1 w1.heap.size A1 L c1 la A2 M c2 lb (Nat.le_refl _) (OwnA.reads oa1) (by omega) ca (OwnA.reads ob1) (by omega) cb).mono ?_
    rintro e w2 ⟨rfl, hb2⟩
    have hB2 := hB1.trans (hb2.mono s1)
    have s2 := hB2.size
    have oa2 := own_below' oa1 hb2
    have ob2 := own_below' ob1 hb2
    clear oa1 ob1 hb2
    cases hY : Nm.normLe la lb with
    | true =>
      have HY := Lib.hid hY
      clear hY
      go_wp2_with fail
      refine (specNormLe_any w2 w2.heap.size A1 L c1 la A2 M c2 lb (Nat.le_refl _) (OwnA.reads oa2) (by omega) (OwnA.reads ob2) (by omega)).mono ?_
      rintro e w3 ⟨rfl, hb3⟩
      rw [HY.out]
      have hB3 := hB2.trans (hb3.mono s2)
      have s3 := hB3.size
      have oa3 := own_below' oa2 hb3
      have ob3 := own_below' ob2 hb3
      clear oa2 ob2  hb3
      go_wp2_with fail
      refine (specNormOk_any w3 w3.heap.size A1 L c1 la (Nat.le_refl _) (OwnA.reads oa3) (by omega)).mono ?_
      rintro e w4 ⟨rfl, hb4⟩
      have hB4 := hB3.trans (hb4.mono s3)
      have s4 := hB4.size
      have oa4 := own_below' oa3 hb4
      have ob4 := own_below' ob3 hb4
      clear oa3 ob3  hb4
      cases h1 : Nm.normOk la with
      | false =>
        clear h1
        go_wp2_with fail
        refine (specNormLe_any w4 w4.heap.size A1 L c1 la A2 M c2 lb (Nat.le_refl _) (OwnA.reads oa4) (by omega) (OwnA.reads ob4) (by omega)).mono ?_
        rintro e w5 ⟨rfl, hb5⟩
        rw [HY.out]
        have HBZ := Lib.hid (hB4.trans (hb5.mono s4))
        clear hb5
        go_wp2
        go_ret
        exact ⟨rfl, HBZ.out⟩
      | true =>
        have HO1 := Lib.hid h1
        clear h1
        go_wp2_with fail
        refine (specNormOk_any w4 w4.heap.size A2 M c2 lb (Nat.le_refl _) (OwnA.reads ob4) (by omega)).mono ?_
        rintro e w5 ⟨rfl, hb5⟩
        have hB5 := hB4.trans (hb5.mono s4)
        have s5 := hB5.size
        have oa5 := own_below' oa4 hb5
        have ob5 := own_below' ob4 hb5
        clear oa4 ob4  hb5
        cases h2 : Nm.normOk lb with
        | false =>
          clear h2
          go_wp2_with fail
          refine (specNormLe_any w5 w5.heap.size A1 L c1 la A2 M c2 lb (Nat.le_refl _) (OwnA.reads oa5) (by omega) (OwnA.reads ob5) (by omega)).mono ?_
          rintro e w6 ⟨rfl, hb6⟩
          rw [HY.out]
          have HBZ := Lib.hid (hB5.trans (hb6.mono s5))
          clear hb6
          go_wp2
          go_ret
          exact ⟨rfl, HBZ.out⟩
        | true =>
          have HO2 := Lib.hid h2
          clear h2
          have ok1 := (Nm.normOk_iff la).1 HO1.out
          have ok2 := (Nm.normOk_iff lb).1 HO2.out
          have hL1 := ok1.1
          have hM1 := ok2.1
          rw [hL] at hL1
          rw [hM] at hM1
          have hle := ((Nm.normLe_le la lb).1 HY.out).2.2
          have hap := ok1.2.1.append ok2.2.1
          have hne : la ++ lb ≠ [] := by intro e; have h2 := congrArg List.length e; rw [List.length_append, hL] at h2; simp at h2; omega
          have HMX : Hid (Nm.normMax la lb = some (Nm.norm (la ++ lb))) := normMax_yes ⟨HO1.out, HO2.out⟩
          have HOM := Lib.hid ((Nm.normOk_iff _).2 (Nm.norm_ok hne hap))
          have hlq := Nm.norm_len (la ++ lb)
          have HK1 := Lib.hid ok1
          have HK2 := Lib.hid ok2
          have HAP := Lib.hid hap
          have HDEC : Hid (decide (Nm.norm (la ++ lb) = lb) = true) := by
            show _ = _
            rw [decide_eq_true_eq]; exact (Nm.join_eq_iff ok1 ok2).2 hle
          have HCL0 : Hid ((tokCells la).length = L * 2) := by show _ = _; rw [tokCells_len, hL]
          have HCL1 : Hid ((tokCells lb).length = M * 2) := by show _ = _; rw [tokCells_len, hM]
          have HLL := Lib.hid hL
          have HLM := Lib.hid hM
          clear hap hne ok1 ok2 hL hM
          go_wp2_with fail
          refine (envs_any w5 B A n c 3 5 (Nat.le_trans hB s5) (hb.below (hB5.mono hB)) hn (by omega) (by omega)).mono ?_
          rintro e w6 ⟨ge, capE, env, rfl, he5, heb, oe6, hb6⟩
          have HEV := Lib.hid (envN5 he5 heb)
          have hpos : Nm.Pos env := fun x hx => (heb x hx).1
          have HVM : Hid (Nm.value env (Nm.norm (la ++ lb)) = max (Nm.value env la) (Nm.value env lb)) := by show _ = _; rw [Nm.value_norm hpos HAP.out, Nm.value_append]
          have hxy0 := Nm.Le.value hpos hle
          clear heb he5 hpos hle
          have hB6 := hB5.trans (hb6.mono s5)
          have s6 := hB6.size
          have oa6 := own_below' oa5 hb6
          have ob6 := own_below' ob5 hb6
          clear oa5 ob5  hb6
          go_wp2_with fail
          refine (implNormEval_any w6 w6.heap.size A1 L c1 la _ 5 capE env (Nat.le_refl _) (OwnA.reads oa6) (by omega) ca (OwnI.reads oe6) (by omega)).mono ?_
          rintro e w7 ⟨rfl, hb7⟩
          rw [nev_form HO1.out HEV.out]
          have hB7 := hB6.trans (hb7.mono s6)
          have s7 := hB7.size
          have oa7 := own_below' oa6 hb7
          have ob7 := own_below' ob6 hb7
          have oe7 := own_below' oe6 hb7
          clear oa6 ob6 oe6 hb7
          go_wp2_with fail
          refine (implNormEval_any w7 w7.heap.size A2 M c2 lb _ 5 capE env (Nat.le_refl _) (OwnA.reads ob7) (by omega) cb (OwnI.reads oe7) (by omega)).mono ?_
          rintro e w8 ⟨rfl, hb8⟩
          rw [nev_form HO2.out HEV.out]
          have hB8 := hB7.trans (hb8.mono s7)
          have s8 := hB8.size
          have oa8 := own_below' oa7 hb8
          have ob8 := own_below' ob7 hb8
          have oe8 := own_below' oe7 hb8
          clear oa7 ob7 oe7 hb8
          generalize Nm.value env la = x at HVM hxy0 ⊢
          generalize Nm.value env lb = y at HVM hxy0 ⊢
          have hxy : ¬ y < x := by omega
          go_wp2_with fail
          refine (implNormMax_any w8 w8.heap.size A1 L c1 la A2 M c2 lb (Nat.le_refl _) (OwnA.reads oa8) (by omega) ca (OwnA.reads ob8) (by omega) cb).mono ?_
          rintro e w9 ⟨Am, cm, rfl, om9, hb9⟩
          rw [HMX.out] at om9 ⊢
          simp only [Option.getD_some, Option.isSome_some] at om9 ⊢
          obtain ⟨Q, hQ⟩ : ∃ Q, (Nm.norm (la ++ lb)).length = Q := ⟨_, rfl⟩
          rw [hQ] at om9 hlq ⊢
          clear hQ
          have hcm := own_capA om9
          have hB9 := hB8.trans (hb9.mono s8)
          have s9 := hB9.size
          have oa9 := own_below' oa8 hb9
          have ob9 := own_below' ob8 hb9
          have oe9 := own_below' oe8 hb9
          clear oa8 ob8 oe8 hb9
          go_wp2_with fail
          refine (implNormEval_any w9 w9.heap.size Am Q cm (Nm.norm (la ++ lb)) _ 5 capE env (Nat.le_refl _) (OwnA.reads om9) (by omega) hcm (OwnI.reads oe9) (by omega)).mono ?_
          rintro e w10 ⟨rfl, hb10⟩
          rw [nev_form HOM.out HEV.out, HVM.out]
          have hB10 := hB9.trans (hb10.mono s9)
          have s10 := hB10.size
          have oa10 := own_below' oa9 hb10
          have ob10 := own_below' ob9 hb10
          have om10 := own_below' om9 hb10
          clear oa9 ob9 om9 hb10
          clear oe9
          by_cases hxy1 : x < y
          · rw [show max x y = y by omega]
            go_wp2_with fail
            refine (sameAtoms_any w10 w10.heap.size _ _ Q M cm c2 (Nm.norm (la ++ lb)) lb (Nat.le_refl _) (OwnA.reads om10) (OwnA.reads ob10) (by omega) (by omega)).mono ?_
            rintro e w11 ⟨rfl, hb11⟩
            rw [HDEC.out]
            have hB11 := hB10.trans (hb11.mono s10)
            have s11 := hB11.size
            have oa11 := own_below' oa10 hb11
            have ob11 := own_below' ob10 hb11
            clear oa10 ob10 om10 hb11
            obtain ⟨q0, rfl, hq0⟩ := (OwnA.reads oa11).tokA (by omega)
            obtain ⟨q1, rfl, hq1⟩ := (OwnA.reads ob11).tokA (by omega)
            have HQ0 := Lib.hid hq0
            have HQ1 := Lib.hid hq1
            have HRA := Lib.hid (OwnA.reads oa11)
            have HRB := Lib.hid (OwnA.reads ob11)
            clear hq0 hq1 oa11 ob11
            go_wp2
            go_loopw [15] (fun i wr => ∃ k : Nat, k ≤ L + M ∧ i = .int .i64 k ∧ (∀ j, j < k → ((la ++ lb).getD j (0, 0)).2 ≤ 500) ∧ Below w11.heap.size w11 wr) (fun i _ => L + M - (intOf i).toNat)
            case atStart => exact ⟨0, Nat.zero_le _, rfl, (fun j hj => absurd hj (by omega)), Below.refl _ _⟩
            case round =>
              obtain ⟨k, hk, rfl, h5, hbel⟩ := hrel
              have H5 := Lib.hid h5
              clear h5
              have hsr := hbel.size
              by_cases hlt2 : k < L + M
              · have hki : (k : Int) < (L : Int) + (M : Int) := by omega
                obtain ⟨u, hu⟩ : ∃ u, ((la ++ lb).getD k (0, 0)).2 = u := ⟨_, rfl⟩
                have HU := Lib.hid hu
                clear hu
                have ho0 : OwnA (wr.alloc (.cells #[] 32)) w11.heap.size (some ⟨wr.heap.size, 0, none⟩) 0 0 [] := World.ownsRow_made wr #[] 0 hsr (by simp [maxLen]) (by simp)
                have hba : Below w11.heap.size w11 (wr.alloc (.cells #[] 32)) := hbel.alloc hsr _
                clear hbel
                by_cases hu5 : 500 < u
                · go_wp2_with (at_builtin; first
                    | (refine wpList_append_own _ rfl (.tmp 109) (.tmp 110) 24 rfl w11.heap.size 32 i0 (.agg #[.int .i64 0, .int .i64 0]) 2 16 Try.underlying24 hi hz0 hz1 hz2 rfl (by decide) (.slice (some ⟨wr.heap.size, 0, none⟩) 0 0) 0 (tokCells []) rfl ho0 q0 L c1 (tokCells la) rfl HCL0.out (HQ0.out.below hba).2 (tokCells_one la) (by unfold maxLen; omega) (by omega) (by simp; omega) ?_
                       intro v' w3 hown' hgrow hnil
                       obtain ⟨g', cap', rfl⟩ : ∃ g' cap', v' = .slice (some ⟨g', 0, none⟩) L cap' := by
                         rcases hown'.2 with ⟨h0, _⟩ | ⟨g', cap', _, h0, _⟩
                         · have := (hnil.1 h0).1
                           cases this
                         · rw [Nat.zero_add] at h0; exact ⟨g', cap', h0⟩
                       have hb3 : Below w11.heap.size w11 w3 := hba.grown hgrow (by simp; omega) (fun k h => by have h' : wr.heap.size = k := (by simpa [Value.ownBlock] using h); omega)
                       have ho3 : OwnA w3 w11.heap.size (some ⟨g', 0, none⟩) L cap' la := by
                         have h := hown'
                         rw [tokCells_nil, List.nil_append, Nat.zero_add] at h
                         exact h
                       have hz3 := hb3.size
                       clear hown' hgrow hnil ho0 hba)
                    | (refine wpList_append_own _ rfl (.tmp 111) (.tmp 112) 24 rfl w11.heap.size 32 i0 (.agg #[.int .i64 0, .int .i64 0]) 2 16 Try.underlying24 hi hz0 hz1 hz2 rfl (by decide) (.slice (some ⟨g', 0, none⟩) L cap') L (tokCells la) rfl ho3 q1 M c2 (tokCells lb) rfl HCL1.out (HQ1.out.below hb3).2 (tokCells_one lb) (by unfold maxLen; omega) (by omega) (by omega) ?_
                       intro v' w4 hown' hgrow hnil
                       obtain ⟨g2, cap2, rfl⟩ : ∃ g' cap', v' = .slice (some ⟨g', 0, none⟩) (L + M) cap' := by
                         rcases hown'.2 with ⟨h0, _⟩ | ⟨g', cap', _, h0, _⟩
                         · have := (hnil.1 h0).1
                           cases this
                         · exact ⟨g', cap', h0⟩
                       have HB4 : Hid (Below w11.heap.size w11 w4) := hb3.grown hgrow (by omega) (fun k h => (ho3.lt k h).1)
                       have e4 : w4.cell? ⟨g2, k * 2 + 1, none⟩ = some (.int .i64 u) := by
                         have ho4 : OwnA w4 w11.heap.size (some ⟨g2, 0, none⟩) (L + M) cap2 (la ++ lb) := by
                           unfold OwnA
                           rw [tokCells_append]
                           exact hown'
                         obtain ⟨b, off, hbo, _, hc⟩ := (OwnA.reads ho4).2 (by omega)
                         injection hbo with hbo
                         injection hbo with hbo1 hbo2
                         subst hbo1; subst hbo2
                         have h2 := (hc k hlt2).2
                         rw [HU.out, Nat.zero_add] at h2
                         exact h2
                       clear hown' hgrow hnil ho3 hb3))
                  go_wp2
                  go_ret
                  exact ⟨rfl, hB11.trans (HB4.out.mono s11)⟩
                · go_wp2_with (at_builtin; first
                    | (refine wpList_append_own _ rfl (.tmp 109) (.tmp 110) 24 rfl w11.heap.size 32 i0 (.agg #[.int .i64 0, .int .i64 0]) 2 16 Try.underlying24 hi hz0 hz1 hz2 rfl (by decide) (.slice (some ⟨wr.heap.size, 0, none⟩) 0 0) 0 (tokCells []) rfl ho0 q0 L c1 (tokCells la) rfl HCL0.out (HQ0.out.below hba).2 (tokCells_one la) (by unfold maxLen; omega) (by omega) (by simp; omega) ?_
                       intro v' w3 hown' hgrow hnil
                       obtain ⟨g', cap', rfl⟩ : ∃ g' cap', v' = .slice (some ⟨g', 0, none⟩) L cap' := by
                         rcases hown'.2 with ⟨h0, _⟩ | ⟨g', cap', _, h0, _⟩
                         · have := (hnil.1 h0).1
                           cases this
                         · rw [Nat.zero_add] at h0; exact ⟨g', cap', h0⟩
                       have hb3 : Below w11.heap.size w11 w3 := hba.grown hgrow (by simp; omega) (fun k h => by have h' : wr.heap.size = k := (by simpa [Value.ownBlock] using h); omega)
                       have ho3 : OwnA w3 w11.heap.size (some ⟨g', 0, none⟩) L cap' la := by
                         have h := hown'
                         rw [tokCells_nil, List.nil_append, Nat.zero_add] at h
                         exact h
                       have hz3 := hb3.size
                       clear hown' hgrow hnil ho0 hba)
                    | (refine wpList_append_own _ rfl (.tmp 111) (.tmp 112) 24 rfl w11.heap.size 32 i0 (.agg #[.int .i64 0, .int .i64 0]) 2 16 Try.underlying24 hi hz0 hz1 hz2 rfl (by decide) (.slice (some ⟨g', 0, none⟩) L cap') L (tokCells la) rfl ho3 q1 M c2 (tokCells lb) rfl HCL1.out (HQ1.out.below hb3).2 (tokCells_one lb) (by unfold maxLen; omega) (by omega) (by omega) ?_
                       intro v' w4 hown' hgrow hnil
                       obtain ⟨g2, cap2, rfl⟩ : ∃ g' cap', v' = .slice (some ⟨g', 0, none⟩) (L + M) cap' := by
                         rcases hown'.2 with ⟨h0, _⟩ | ⟨g', cap', _, h0, _⟩
                         · have := (hnil.1 h0).1
                           cases this
                         · exact ⟨g', cap', h0⟩
                       have HB4 : Hid (Below w11.heap.size w11 w4) := hb3.grown hgrow (by omega) (fun k h => (ho3.lt k h).1)
                       have e4 : w4.cell? ⟨g2, k * 2 + 1, none⟩ = some (.int .i64 u) := by
                         have ho4 : OwnA w4 w11.heap.size (some ⟨g2, 0, none⟩) (L + M) cap2 (la ++ lb) := by
                           unfold OwnA
                           rw [tokCells_append]
                           exact hown'
                         obtain ⟨b, off, hbo, _, hc⟩ := (OwnA.reads ho4).2 (by omega)
                         injection hbo with hbo
                         injection hbo with hbo1 hbo2
                         subst hbo1; subst hbo2
                         have h2 := (hc k hlt2).2
                         rw [HU.out, Nat.zero_add] at h2
                         exact h2
                       clear hown' hgrow hnil ho3 hb3))
                  go_wp2
                  go_roundw
                  case rel =>
                    refine ⟨k + 1, by omega, by go_num, fun j hj => ?_, HB4.out⟩
                    by_cases e : j = k
                    · subst e; rw [HU.out]; omega
                    · exact H5.out j (by omega)
                  case measure => simp [intOf]; omega
              · have hkk : k = L + M := by omega
                subst hkk
                have HBW := Lib.hid (hB11.trans (hbel.mono s11))
                clear hbel
                go_wp2
                go_loopw [16] (fun i wr => i = .int .i64 (-1) ∧ Below w.heap.size w wr) (fun _ _ => 0)
                case atStart => exact ⟨rfl, HBW.out⟩
                case round =>
                  obtain ⟨rfl, hbz⟩ := hrel
                  go_wp2
                  go_ret
                  exact ⟨rfl, hbz⟩
          · rw [show max x y = x by omega]
            go_wp2_with fail
            refine (sameAtoms_any w10 w10.heap.size _ _ Q M cm c2 (Nm.norm (la ++ lb)) lb (Nat.le_refl _) (OwnA.reads om10) (OwnA.reads ob10) (by omega) (by omega)).mono ?_
            rintro e w11 ⟨rfl, hb11⟩
            rw [HDEC.out]
            have hB11 := hB10.trans (hb11.mono s10)
            have s11 := hB11.size
            have oa11 := own_below' oa10 hb11
            have ob11 := own_below' ob10 hb11
            clear oa10 ob10 om10 hb11
            obtain ⟨q0, rfl, hq0⟩ := (OwnA.reads oa11).tokA (by omega)
            obtain ⟨q1, rfl, hq1⟩ := (OwnA.reads ob11).tokA (by omega)
            have HQ0 := Lib.hid hq0
            have HQ1 := Lib.hid hq1
            have HRA := Lib.hid (OwnA.reads oa11)
            have HRB := Lib.hid (OwnA.reads ob11)
            clear hq0 hq1 oa11 ob11
            go_wp2
            go_loopw [15] (fun i wr => ∃ k : Nat, k ≤ L + M ∧ i = .int .i64 k ∧ (∀ j, j < k → ((la ++ lb).getD j (0, 0)).2 ≤ 500) ∧ Below w11.heap.size w11 wr) (fun i _ => L + M - (intOf i).toNat)
            case atStart => exact ⟨0, Nat.zero_le _, rfl, (fun j hj => absurd hj (by omega)), Below.refl _ _⟩
            case round =>
              obtain ⟨k, hk, rfl, h5, hbel⟩ := hrel
              have H5 := Lib.hid h5
              clear h5
              have hsr := hbel.size
              by_cases hlt2 : k < L + M
              · have hki : (k : Int) < (L : Int) + (M : Int) := by omega
                obtain ⟨u, hu⟩ : ∃ u, ((la ++ lb).getD k (0, 0)).2 = u := ⟨_, rfl⟩
                have HU := Lib.hid hu
                clear hu
                have ho0 : OwnA (wr.alloc (.cells #[] 32)) w11.heap.size (some ⟨wr.heap.size, 0, none⟩) 0 0 [] := World.ownsRow_made wr #[] 0 hsr (by simp [maxLen]) (by simp)
                have hba : Below w11.heap.size w11 (wr.alloc (.cells #[] 32)) := hbel.alloc hsr _
                clear hbel
                by_cases hu5 : 500 < u
                · go_wp2_with (at_builtin; first
                    | (refine wpList_append_own _ rfl (.tmp 109) (.tmp 110) 24 rfl w11.heap.size 32 i0 (.agg #[.int .i64 0, .int .i64 0]) 2 16 Try.underlying24 hi hz0 hz1 hz2 rfl (by decide) (.slice (some ⟨wr.heap.size, 0, none⟩) 0 0) 0 (tokCells []) rfl ho0 q0 L c1 (tokCells la) rfl HCL0.out (HQ0.out.below hba).2 (tokCells_one la) (by unfold maxLen; omega) (by omega) (by simp; omega) ?_
                       intro v' w3 hown' hgrow hnil
                       obtain ⟨g', cap', rfl⟩ : ∃ g' cap', v' = .slice (some ⟨g', 0, none⟩) L cap' := by
                         rcases hown'.2 with ⟨h0, _⟩ | ⟨g', cap', _, h0, _⟩
                         · have := (hnil.1 h0).1
                           cases this
                         · rw [Nat.zero_add] at h0; exact ⟨g', cap', h0⟩
                       have hb3 : Below w11.heap.size w11 w3 := hba.grown hgrow (by simp; omega) (fun k h => by have h' : wr.heap.size = k := (by simpa [Value.ownBlock] using h); omega)
                       have ho3 : OwnA w3 w11.heap.size (some ⟨g', 0, none⟩) L cap' la := by
                         have h := hown'
                         rw [tokCells_nil, List.nil_append, Nat.zero_add] at h
                         exact h
                       have hz3 := hb3.size
                       clear hown' hgrow hnil ho0 hba)
                    | (refine wpList_append_own _ rfl (.tmp 111) (.tmp 112) 24 rfl w11.heap.size 32 i0 (.agg #[.int .i64 0, .int .i64 0]) 2 16 Try.underlying24 hi hz0 hz1 hz2 rfl (by decide) (.slice (some ⟨g', 0, none⟩) L cap') L (tokCells la) rfl ho3 q1 M c2 (tokCells lb) rfl HCL1.out (HQ1.out.below hb3).2 (tokCells_one lb) (by unfold maxLen; omega) (by omega) (by omega) ?_
                       intro v' w4 hown' hgrow hnil
                       obtain ⟨g2, cap2, rfl⟩ : ∃ g' cap', v' = .slice (some ⟨g', 0, none⟩) (L + M) cap' := by
                         rcases hown'.2 with ⟨h0, _⟩ | ⟨g', cap', _, h0, _⟩
                         · have := (hnil.1 h0).1
                           cases this
                         · exact ⟨g', cap', h0⟩
                       have HB4 : Hid (Below w11.heap.size w11 w4) := hb3.grown hgrow (by omega) (fun k h => (ho3.lt k h).1)
                       have e4 : w4.cell? ⟨g2, k * 2 + 1, none⟩ = some (.int .i64 u) := by
                         have ho4 : OwnA w4 w11.heap.size (some ⟨g2, 0, none⟩) (L + M) cap2 (la ++ lb) := by
                           unfold OwnA
                           rw [tokCells_append]
                           exact hown'
                         obtain ⟨b, off, hbo, _, hc⟩ := (OwnA.reads ho4).2 (by omega)
                         injection hbo with hbo
                         injection hbo with hbo1 hbo2
                         subst hbo1; subst hbo2
                         have h2 := (hc k hlt2).2
                         rw [HU.out, Nat.zero_add] at h2
                         exact h2
                       clear hown' hgrow hnil ho3 hb3))
                  go_wp2
                  go_ret
                  exact ⟨rfl, hB11.trans (HB4.out.mono s11)⟩
                · go_wp2_with (at_builtin; first
                    | (refine wpList_append_own _ rfl (.tmp 109) (.tmp 110) 24 rfl w11.heap.size 32 i0 (.agg #[.int .i64 0, .int .i64 0]) 2 16 Try.underlying24 hi hz0 hz1 hz2 rfl (by decide) (.slice (some ⟨wr.heap.size, 0, none⟩) 0 0) 0 (tokCells []) rfl ho0 q0 L c1 (tokCells la) rfl HCL0.out (HQ0.out.below hba).2 (tokCells_one la) (by unfold maxLen; omega) (by omega) (by simp; omega) ?_
                       intro v' w3 hown' hgrow hnil
                       obtain ⟨g', cap', rfl⟩ : ∃ g' cap', v' = .slice (some ⟨g', 0, none⟩) L cap' := by
                         rcases hown'.2 with ⟨h0, _⟩ | ⟨g', cap', _, h0, _⟩
                         · have := (hnil.1 h0).1
                           cases this
                         · rw [Nat.zero_add] at h0; exact ⟨g', cap', h0⟩
                       have hb3 : Below w11.heap.size w11 w3 := hba.grown hgrow (by simp; omega) (fun k h => by have h' : wr.heap.size = k := (by simpa [Value.ownBlock] using h); omega)
                       have ho3 : OwnA w3 w11.heap.size (some ⟨g', 0, none⟩) L cap' la := by
                         have h := hown'
                         rw [tokCells_nil, List.nil_append, Nat.zero_add] at h
                         exact h
                       have hz3 := hb3.size
                       clear hown' hgrow hnil ho0 hba)
                    | (refine wpList_append_own _ rfl (.tmp 111) (.tmp 112) 24 rfl w11.heap.size 32 i0 (.agg #[.int .i64 0, .int .i64 0]) 2 16 Try.underlying24 hi hz0 hz1 hz2 rfl (by decide) (.slice (some ⟨g', 0, none⟩) L cap') L (tokCells la) rfl ho3 q1 M c2 (tokCells lb) rfl HCL1.out (HQ1.out.below hb3).2 (tokCells_one lb) (by unfold maxLen; omega) (by omega) (by omega) ?_
                       intro v' w4 hown' hgrow hnil
                       obtain ⟨g2, cap2, rfl⟩ : ∃ g' cap', v' = .slice (some ⟨g', 0, none⟩) (L + M) cap' := by
                         rcases hown'.2 with ⟨h0, _⟩ | ⟨g', cap', _, h0, _⟩
                         · have := (hnil.1 h0).1
                           cases this
                         · exact ⟨g', cap', h0⟩
                       have HB4 : Hid (Below w11.heap.size w11 w4) := hb3.grown hgrow (by omega) (fun k h => (ho3.lt k h).1)
                       have e4 : w4.cell? ⟨g2, k * 2 + 1, none⟩ = some (.int .i64 u) := by
                         have ho4 : OwnA w4 w11.heap.size (some ⟨g2, 0, none⟩) (L + M) cap2 (la ++ lb) := by
                           unfold OwnA
                           rw [tokCells_append]
                           exact hown'
                         obtain ⟨b, off, hbo, _, hc⟩ := (OwnA.reads ho4).2 (by omega)
                         injection hbo with hbo
                         injection hbo with hbo1 hbo2
                         subst hbo1; subst hbo2
                         have h2 := (hc k hlt2).2
                         rw [HU.out, Nat.zero_add] at h2
                         exact h2
                       clear hown' hgrow hnil ho3 hb3))
                  go_wp2
                  go_roundw
                  case rel =>
                    refine ⟨k + 1, by omega, by go_num, fun j hj => ?_, HB4.out⟩
                    by_cases e : j = k
                    · subst e; rw [HU.out]; omega
                    · exact H5.out j (by omega)
                  case measure => simp [intOf]; omega
              · have hkk : k = L + M := by omega
                subst hkk
                have HBW := Lib.hid (hB11.trans (hbel.mono s11))
                clear hbel
                go_wp2
                go_loopw [16] (fun i wr => i = .int .i64 (-1) ∧ Below w.heap.size w wr) (fun _ _ => 0)
                case atStart => exact ⟨rfl, HBW.out⟩
                case round =>
                  obtain ⟨rfl, hbz⟩ := hrel
                  go_wp2
                  go_ret
                  exact ⟨rfl, hbz⟩
    | false =>
      have HY := Lib.hid hY
      clear hY
      go_wp2_with fail
      refine (specNormLe_any w2 w2.heap.size A1 L c1 la A2 M c2 lb (Nat.le_refl _) (OwnA.reads oa2) (by omega) (OwnA.reads ob2) (by omega)).mono ?_
      rintro e w3 ⟨rfl, hb3⟩
      rw [HY.out]
      have hB3 := hB2.trans (hb3.mono s2)
      have s3 := hB3.size
      have oa3 := own_below' oa2 hb3
      have ob3 := own_below' ob2 hb3
      clear oa2 ob2  hb3
      go_wp2_with fail
      refine (specNormOk_any w3 w3.heap.size A1 L c1 la (Nat.le_refl _) (OwnA.reads oa3) (by omega)).mono ?_
      rintro e w4 ⟨rfl, hb4⟩
      have hB4 := hB3.trans (hb4.mono s3)
      have s4 := hB4.size
      have oa4 := own_below' oa3 hb4
      have ob4 := own_below' ob3 hb4
      clear oa3 ob3  hb4
      cases h1 : Nm.normOk la with
      | false =>
        clear h1
        go_wp2_with fail
        refine (specNormLe_any w4 w4.heap.size A1 L c1 la A2 M c2 lb (Nat.le_refl _) (OwnA.reads oa4) (by omega) (OwnA.reads ob4) (by omega)).mono ?_
        rintro e w5 ⟨rfl, hb5⟩
        rw [HY.out]
        have HBZ := Lib.hid (hB4.trans (hb5.mono s4))
        clear hb5
        go_wp2
        go_ret
        exact ⟨rfl, HBZ.out⟩
      | true =>
        have HO1 := Lib.hid h1
        clear h1
        go_wp2_with fail
        refine (specNormOk_any w4 w4.heap.size A2 M c2 lb (Nat.le_refl _) (OwnA.reads ob4) (by omega)).mono ?_
        rintro e w5 ⟨rfl, hb5⟩
        have hB5 := hB4.trans (hb5.mono s4)
        have s5 := hB5.size
        have oa5 := own_below' oa4 hb5
        have ob5 := own_below' ob4 hb5
        clear oa4 ob4  hb5
        cases h2 : Nm.normOk lb with
        | false =>
          clear h2
          go_wp2_with fail
          refine (specNormLe_any w5 w5.heap.size A1 L c1 la A2 M c2 lb (Nat.le_refl _) (OwnA.reads oa5) (by omega) (OwnA.reads ob5) (by omega)).mono ?_
          rintro e w6 ⟨rfl, hb6⟩
          rw [HY.out]
          have HBZ := Lib.hid (hB5.trans (hb6.mono s5))
          clear hb6
          go_wp2
          go_ret
          exact ⟨rfl, HBZ.out⟩
        | true =>
          have HO2 := Lib.hid h2
          clear h2
          have ok1 := (Nm.normOk_iff la).1 HO1.out
          have ok2 := (Nm.normOk_iff lb).1 HO2.out
          have hL1 := ok1.1
          have hM1 := ok2.1
          rw [hL] at hL1
          rw [hM] at hM1
          have HNL : Hid (¬ Nm.Le la lb) := fun h => by have h2 := (Nm.normLe_le la lb).2 ⟨ok1, ok2, h⟩; rw [HY.out] at h2; cases h2
          have hap := ok1.2.1.append ok2.2.1
          have hne : la ++ lb ≠ [] := by intro e; have h2 := congrArg List.length e; rw [List.length_append, hL] at h2; simp at h2; omega
          have HMX : Hid (Nm.normMax la lb = some (Nm.norm (la ++ lb))) := normMax_yes ⟨HO1.out, HO2.out⟩
          have HOM := Lib.hid ((Nm.normOk_iff _).2 (Nm.norm_ok hne hap))
          have hlq := Nm.norm_len (la ++ lb)
          have HK1 := Lib.hid ok1
          have HK2 := Lib.hid ok2
          have HAP := Lib.hid hap
          have HDEC : Hid (decide (Nm.norm (la ++ lb) = lb) = false) := by
            show _ = _
            rw [decide_eq_false_iff_not]; exact fun h => HNL.out ((Nm.join_eq_iff ok1 ok2).1 h)
          have HCL0 : Hid ((tokCells la).length = L * 2) := by show _ = _; rw [tokCells_len, hL]
          have HCL1 : Hid ((tokCells lb).length = M * 2) := by show _ = _; rw [tokCells_len, hM]
          have HLL := Lib.hid hL
          have HLM := Lib.hid hM
          clear hap hne ok1 ok2 hL hM
          go_wp2_with fail
          refine (envs_any w5 B A n c 3 5 (Nat.le_trans hB s5) (hb.below (hB5.mono hB)) hn (by omega) (by omega)).mono ?_
          rintro e w6 ⟨ge, capE, env, rfl, he5, heb, oe6, hb6⟩
          have HEV := Lib.hid (envN5 he5 heb)
          have hpos : Nm.Pos env := fun x hx => (heb x hx).1
          have HVM : Hid (Nm.value env (Nm.norm (la ++ lb)) = max (Nm.value env la) (Nm.value env lb)) := by show _ = _; rw [Nm.value_norm hpos HAP.out, Nm.value_append]
          clear heb he5 hpos
          have hB6 := hB5.trans (hb6.mono s5)
          have s6 := hB6.size
          have oa6 := own_below' oa5 hb6
          have ob6 := own_below' ob5 hb6
          clear oa5 ob5  hb6
          go_wp2_with fail
          refine (implNormEval_any w6 w6.heap.size A1 L c1 la _ 5 capE env (Nat.le_refl _) (OwnA.reads oa6) (by omega) ca (OwnI.reads oe6) (by omega)).mono ?_
          rintro e w7 ⟨rfl, hb7⟩
          rw [nev_form HO1.out HEV.out]
          have hB7 := hB6.trans (hb7.mono s6)
          have s7 := hB7.size
          have oa7 := own_below' oa6 hb7
          have ob7 := own_below' ob6 hb7
          have oe7 := own_below' oe6 hb7
          clear oa6 ob6 oe6 hb7
          go_wp2_with fail
          refine (implNormEval_any w7 w7.heap.size A2 M c2 lb _ 5 capE env (Nat.le_refl _) (OwnA.reads ob7) (by omega) cb (OwnI.reads oe7) (by omega)).mono ?_
          rintro e w8 ⟨rfl, hb8⟩
          rw [nev_form HO2.out HEV.out]
          have hB8 := hB7.trans (hb8.mono s7)
          have s8 := hB8.size
          have oa8 := own_below' oa7 hb8
          have ob8 := own_below' ob7 hb8
          have oe8 := own_below' oe7 hb8
          clear oa7 ob7 oe7 hb8
          generalize Nm.value env la = x at HVM  ⊢
          generalize Nm.value env lb = y at HVM  ⊢
          go_wp2_with fail
          refine (implNormMax_any w8 w8.heap.size A1 L c1 la A2 M c2 lb (Nat.le_refl _) (OwnA.reads oa8) (by omega) ca (OwnA.reads ob8) (by omega) cb).mono ?_
          rintro e w9 ⟨Am, cm, rfl, om9, hb9⟩
          rw [HMX.out] at om9 ⊢
          simp only [Option.getD_some, Option.isSome_some] at om9 ⊢
          obtain ⟨Q, hQ⟩ : ∃ Q, (Nm.norm (la ++ lb)).length = Q := ⟨_, rfl⟩
          rw [hQ] at om9 hlq ⊢
          clear hQ
          have hcm := own_capA om9
          have hB9 := hB8.trans (hb9.mono s8)
          have s9 := hB9.size
          have oa9 := own_below' oa8 hb9
          have ob9 := own_below' ob8 hb9
          have oe9 := own_below' oe8 hb9
          clear oa8 ob8 oe8 hb9
          go_wp2_with fail
          refine (implNormEval_any w9 w9.heap.size Am Q cm (Nm.norm (la ++ lb)) _ 5 capE env (Nat.le_refl _) (OwnA.reads om9) (by omega) hcm (OwnI.reads oe9) (by omega)).mono ?_
          rintro e w10 ⟨rfl, hb10⟩
          rw [nev_form HOM.out HEV.out, HVM.out]
          have hB10 := hB9.trans (hb10.mono s9)
          have s10 := hB10.size
          have oa10 := own_below' oa9 hb10
          have ob10 := own_below' ob9 hb10
          have om10 := own_below' om9 hb10
          clear oa9 ob9 om9 hb10
          clear oe9
          by_cases hxy1 : x < y
          · rw [show max x y = y by omega]
            go_wp2_with fail
            refine (sameAtoms_any w10 w10.heap.size _ _ Q M cm c2 (Nm.norm (la ++ lb)) lb (Nat.le_refl _) (OwnA.reads om10) (OwnA.reads ob10) (by omega) (by omega)).mono ?_
            rintro e w11 ⟨rfl, hb11⟩
            rw [HDEC.out]
            have hB11 := hB10.trans (hb11.mono s10)
            have s11 := hB11.size
            have oa11 := own_below' oa10 hb11
            have ob11 := own_below' ob10 hb11
            clear oa10 ob10 om10 hb11
            obtain ⟨q0, rfl, hq0⟩ := (OwnA.reads oa11).tokA (by omega)
            obtain ⟨q1, rfl, hq1⟩ := (OwnA.reads ob11).tokA (by omega)
            have HQ0 := Lib.hid hq0
            have HQ1 := Lib.hid hq1
            have HRA := Lib.hid (OwnA.reads oa11)
            have HRB := Lib.hid (OwnA.reads ob11)
            clear hq0 hq1 oa11 ob11
            go_wp2
            go_loopw [15] (fun i wr => ∃ k : Nat, k ≤ L + M ∧ i = .int .i64 k ∧ (∀ j, j < k → ((la ++ lb).getD j (0, 0)).2 ≤ 500) ∧ Below w11.heap.size w11 wr) (fun i _ => L + M - (intOf i).toNat)
            case atStart => exact ⟨0, Nat.zero_le _, rfl, (fun j hj => absurd hj (by omega)), Below.refl _ _⟩
            case round =>
              obtain ⟨k, hk, rfl, h5, hbel⟩ := hrel
              have H5 := Lib.hid h5
              clear h5
              have hsr := hbel.size
              by_cases hlt2 : k < L + M
              · have hki : (k : Int) < (L : Int) + (M : Int) := by omega
                obtain ⟨u, hu⟩ : ∃ u, ((la ++ lb).getD k (0, 0)).2 = u := ⟨_, rfl⟩
                have HU := Lib.hid hu
                clear hu
                have ho0 : OwnA (wr.alloc (.cells #[] 32)) w11.heap.size (some ⟨wr.heap.size, 0, none⟩) 0 0 [] := World.ownsRow_made wr #[] 0 hsr (by simp [maxLen]) (by simp)
                have hba : Below w11.heap.size w11 (wr.alloc (.cells #[] 32)) := hbel.alloc hsr _
                clear hbel
                by_cases hu5 : 500 < u
                · go_wp2_with (at_builtin; first
                    | (refine wpList_append_own _ rfl (.tmp 109) (.tmp 110) 24 rfl w11.heap.size 32 i0 (.agg #[.int .i64 0, .int .i64 0]) 2 16 Try.underlying24 hi hz0 hz1 hz2 rfl (by decide) (.slice (some ⟨wr.heap.size, 0, none⟩) 0 0) 0 (tokCells []) rfl ho0 q0 L c1 (tokCells la) rfl HCL0.out (HQ0.out.below hba).2 (tokCells_one la) (by unfold maxLen; omega) (by omega) (by simp; omega) ?_
                       intro v' w3 hown' hgrow hnil
                       obtain ⟨g', cap', rfl⟩ : ∃ g' cap', v' = .slice (some ⟨g', 0, none⟩) L cap' := by
                         rcases hown'.2 with ⟨h0, _⟩ | ⟨g', cap', _, h0, _⟩
                         · have := (hnil.1 h0).1
                           cases this
                         · rw [Nat.zero_add] at h0; exact ⟨g', cap', h0⟩
                       have hb3 : Below w11.heap.size w11 w3 := hba.grown hgrow (by simp; omega) (fun k h => by have h' : wr.heap.size = k := (by simpa [Value.ownBlock] using h); omega)
                       have ho3 : OwnA w3 w11.heap.size (some ⟨g', 0, none⟩) L cap' la := by
                         have h := hown'
                         rw [tokCells_nil, List.nil_append, Nat.zero_add] at h
                         exact h
                       have hz3 := hb3.size
                       clear hown' hgrow hnil ho0 hba)
                    | (refine wpList_append_own _ rfl (.tmp 111) (.tmp 112) 24 rfl w11.heap.size 32 i0 (.agg #[.int .i64 0, .int .i64 0]) 2 16 Try.underlying24 hi hz0 hz1 hz2 rfl (by decide) (.slice (some ⟨g', 0, none⟩) L cap') L (tokCells la) rfl ho3 q1 M c2 (tokCells lb) rfl HCL1.out (HQ1.out.below hb3).2 (tokCells_one lb) (by unfold maxLen; omega) (by omega) (by omega) ?_
                       intro v' w4 hown' hgrow hnil
                       obtain ⟨g2, cap2, rfl⟩ : ∃ g' cap', v' = .slice (some ⟨g', 0, none⟩) (L + M) cap' := by
                         rcases hown'.2 with ⟨h0, _⟩ | ⟨g', cap', _, h0, _⟩
                         · have := (hnil.1 h0).1
                           cases this
                         · exact ⟨g', cap', h0⟩
                       have HB4 : Hid (Below w11.heap.size w11 w4) := hb3.grown hgrow (by omega) (fun k h => (ho3.lt k h).1)
                       have e4 : w4.cell? ⟨g2, k * 2 + 1, none⟩ = some (.int .i64 u) := by
                         have ho4 : OwnA w4 w11.heap.size (some ⟨g2, 0, none⟩) (L + M) cap2 (la ++ lb) := by
                           unfold OwnA
                           rw [tokCells_append]
                           exact hown'
                         obtain ⟨b, off, hbo, _, hc⟩ := (OwnA.reads ho4).2 (by omega)
                         injection hbo with hbo
                         injection hbo with hbo1 hbo2
                         subst hbo1; subst hbo2
                         have h2 := (hc k hlt2).2
                         rw [HU.out, Nat.zero_add] at h2
                         exact h2
                       clear hown' hgrow hnil ho3 hb3))
                  go_wp2
                  go_ret
                  exact ⟨rfl, hB11.trans (HB4.out.mono s11)⟩
                · go_wp2_with (at_builtin; first
                    | (refine wpList_append_own _ rfl (.tmp 109) (.tmp 110) 24 rfl w11.heap.size 32 i0 (.agg #[.int .i64 0, .int .i64 0]) 2 16 Try.underlying24 hi hz0 hz1 hz2 rfl (by decide) (.slice (some ⟨wr.heap.size, 0, none⟩) 0 0) 0 (tokCells []) rfl ho0 q0 L c1 (tokCells la) rfl HCL0.out (HQ0.out.below hba).2 (tokCells_one la) (by unfold maxLen; omega) (by omega) (by simp; omega) ?_
                       intro v' w3 hown' hgrow hnil
                       obtain ⟨g', cap', rfl⟩ : ∃ g' cap', v' = .slice (some ⟨g', 0, none⟩) L cap' := by
                         rcases hown'.2 with ⟨h0, _⟩ | ⟨g', cap', _, h0, _⟩
                         · have := (hnil.1 h0).1
                           cases this
                         · rw [Nat.zero_add] at h0; exact ⟨g', cap', h0⟩
                       have hb3 : Below w11.heap.size w11 w3 := hba.grown hgrow (by simp; omega) (fun k h => by have h' : wr.heap.size = k := (by simpa [Value.ownBlock] using h); omega)
                       have ho3 : OwnA w3 w11.heap.size (some ⟨g', 0, none⟩) L cap' la := by
                         have h := hown'
                         rw [tokCells_nil, List.nil_append, Nat.zero_add] at h
                         exact h
                       have hz3 := hb3.size
                       clear hown' hgrow hnil ho0 hba)
                    | (refine wpList_append_own _ rfl (.tmp 111) (.tmp 112) 24 rfl w11.heap.size 32 i0 (.agg #[.int .i64 0, .int .i64 0]) 2 16 Try.underlying24 hi hz0 hz1 hz2 rfl (by decide) (.slice (some ⟨g', 0, none⟩) L cap') L (tokCells la) rfl ho3 q1 M c2 (tokCells lb) rfl HCL1.out (HQ1.out.below hb3).2 (tokCells_one lb) (by unfold maxLen; omega) (by omega) (by omega) ?_
                       intro v' w4 hown' hgrow hnil
                       obtain ⟨g2, cap2, rfl⟩ : ∃ g' cap', v' = .slice (some ⟨g', 0, none⟩) (L + M) cap' := by
                         rcases hown'.2 with ⟨h0, _⟩ | ⟨g', cap', _, h0, _⟩
                         · have := (hnil.1 h0).1
                           cases this
                         · exact ⟨g', cap', h0⟩
                       have HB4 : Hid (Below w11.heap.size w11 w4) := hb3.grown hgrow (by omega) (fun k h => (ho3.lt k h).1)
                       have e4 : w4.cell? ⟨g2, k * 2 + 1, none⟩ = some (.int .i64 u) := by
                         have ho4 : OwnA w4 w11.heap.size (some ⟨g2, 0, none⟩) (L + M) cap2 (la ++ lb) := by
                           unfold OwnA
                           rw [tokCells_append]
                           exact hown'
                         obtain ⟨b, off, hbo, _, hc⟩ := (OwnA.reads ho4).2 (by omega)
                         injection hbo with hbo
                         injection hbo with hbo1 hbo2
                         subst hbo1; subst hbo2
                         have h2 := (hc k hlt2).2
                         rw [HU.out, Nat.zero_add] at h2
                         exact h2
                       clear hown' hgrow hnil ho3 hb3))
                  go_wp2
                  go_roundw
                  case rel =>
                    refine ⟨k + 1, by omega, by go_num, fun j hj => ?_, HB4.out⟩
                    by_cases e : j = k
                    · subst e; rw [HU.out]; omega
                    · exact H5.out j (by omega)
                  case measure => simp [intOf]; omega
              · have hkk : k = L + M := by omega
                subst hkk
                have HALL := Lib.hid (all500 (la := la) (lb := lb) (fun j hj => H5.out j (by rw [HLL.out, HLM.out] at hj; exact hj)))
                go_wp2
                go_loopw [16] (fun i wr => ∃ p : Int, -1 ≤ p ∧ p ≤ 5 ∧ i = .int .i64 p ∧ (∀ q : Int, -1 ≤ q → q < p → ¬ Nm.value (Nm.peak q) lb < Nm.value (Nm.peak q) la) ∧ Below w11.heap.size w11 wr) (fun i _ => (5 - intOf i).toNat)
                case atStart => exact ⟨-1, by omega, by omega, rfl, fun q h1 h2 => absurd h1 (by omega), hbel⟩
                case round =>
                  obtain ⟨p, hp1, hp5, rfl, hq, hbel2⟩ := hrel
                  have HQ := Lib.hid hq
                  clear hq hbel
                  have hs2 := hbel2.size
                  by_cases hp : p < 5
                  · by_cases h0 : p = -1
                    · subst h0
                      have HP := Lib.hid (peak_none wr)
                      have HBa := Lib.hid (hbel2.alloc hs2 (.cells #[.int .i64 0, .int .i64 0, .int .i64 0, .int .i64 0, .int .i64 0] 3))
                      have HSa := Lib.hid (show w11.heap.size ≤ (wr.alloc (.cells #[.int .i64 0, .int .i64 0, .int .i64 0, .int .i64 0, .int .i64 0] 3)).heap.size by simp; omega)
                      clear hbel2
                      go_wp2_with fail
                      refine (implNormEval_any _ (wr.heap.size + 1) _ L c1 la _ 5 5 (Nm.peak (-1)) (by simp) ((HRA.out.below HBa.out).more (by omega)) (by omega) ca HP.out (by omega)).mono ?_
                      rintro e v1 ⟨rfl, hv1⟩
                      rw [nev_form HO1.out (peak_ok _)]
                      have HBb := Lib.hid (HBa.out.trans (hv1.mono HSa.out))
                      have HP1 := Lib.hid (HP.out.below (hv1.mono (by simp)))
                      have sv1 : wr.heap.size + 1 ≤ v1.heap.size := Nat.le_trans (by simp) hv1.size
                      clear hv1
                      go_wp2_with fail
                      refine (implNormEval_any v1 (wr.heap.size + 1) _ M c2 lb _ 5 5 (Nm.peak (-1)) sv1 ((HRB.out.below HBb.out).more (by omega)) (by omega) cb HP1.out (by omega)).mono ?_
                      rintro e v2 ⟨rfl, hv2⟩
                      rw [nev_form HO2.out (peak_ok _)]
                      have HBc := Lib.hid (HBb.out.trans (hv2.mono (Nat.le_trans hs2 (by omega))))
                      clear hv2
                      by_cases hv : Nm.value (Nm.peak (-1)) lb < Nm.value (Nm.peak (-1)) la
                      · generalize Nm.value (Nm.peak (-1)) lb = vb at hv ⊢
                        generalize Nm.value (Nm.peak (-1)) la = va at hv ⊢
                        have HBd := Lib.hid (hB11.trans (HBc.out.mono s11))
                        go_wp2
                        go_ret
                        exact ⟨rfl, HBd.out⟩
                      · have HV := Lib.hid hv
                        generalize Nm.value (Nm.peak (-1)) lb = vb at hv ⊢
                        generalize Nm.value (Nm.peak (-1)) la = va at hv ⊢
                        go_wp2
                        go_roundw
                        case rel =>
                          refine ⟨(-1) + 1, by omega, by omega, by go_num, fun q h1 h2 => ?_, HBc.out⟩
                          by_cases e : q = (-1)
                          · subst e; exact HV.out
                          · exact HQ.out q h1 (by omega)
                        case measure => simp [intOf]; omega
                    · obtain ⟨P, rfl⟩ : ∃ P : Nat, p = P := ⟨p.toNat, by omega⟩
                      have hP5 : P < 5 := by omega
                      have e0 := peak_cell wr P hP5
                      have f0 := (Blk.made wr 3 #[.int .i64 0, .int .i64 0, .int .i64 0, .int .i64 0, .int .i64 0]).thawed P
                      have hp0 : (0 : Int) ≤ (P : Int) := by omega
                      have HP := Lib.hid (peak_put wr P hP5)
                      have HBa := Lib.hid (hbel2.alloc hs2 (.cells ([Value.int .i64 0, .int .i64 0, .int .i64 0, .int .i64 0, .int .i64 0].set P (.int .i64 1000)).toArray 3))
                      have HSa := Lib.hid (show w11.heap.size ≤ (wr.alloc (.cells ([Value.int .i64 0, .int .i64 0, .int .i64 0, .int .i64 0, .int .i64 0].set P (.int .i64 1000)).toArray 3)).heap.size by simp; omega)
                      clear hbel2 h0
                      go_wp2_with fail
                      refine (implNormEval_any _ (wr.heap.size + 1) _ L c1 la _ 5 5 (Nm.peak (P : Int)) (by simp) ((HRA.out.below HBa.out).more (by omega)) (by omega) ca HP.out (by omega)).mono ?_
                      rintro e v1 ⟨rfl, hv1⟩
                      rw [nev_form HO1.out (peak_ok _)]
                      have HBb := Lib.hid (HBa.out.trans (hv1.mono HSa.out))
                      have HP1 := Lib.hid (HP.out.below (hv1.mono (by simp)))
                      have sv1 : wr.heap.size + 1 ≤ v1.heap.size := Nat.le_trans (by simp) hv1.size
                      clear hv1
                      go_wp2_with fail
                      refine (implNormEval_any v1 (wr.heap.size + 1) _ M c2 lb _ 5 5 (Nm.peak (P : Int)) sv1 ((HRB.out.below HBb.out).more (by omega)) (by omega) cb HP1.out (by omega)).mono ?_
                      rintro e v2 ⟨rfl, hv2⟩
                      rw [nev_form HO2.out (peak_ok _)]
                      have HBc := Lib.hid (HBb.out.trans (hv2.mono (Nat.le_trans hs2 (by omega))))
                      clear hv2
                      by_cases hv : Nm.value (Nm.peak (P : Int)) lb < Nm.value (Nm.peak (P : Int)) la
                      · generalize Nm.value (Nm.peak (P : Int)) lb = vb at hv ⊢
                        generalize Nm.value (Nm.peak (P : Int)) la = va at hv ⊢
                        have HBd := Lib.hid (hB11.trans (HBc.out.mono s11))
                        go_wp2
                        go_ret
                        exact ⟨rfl, HBd.out⟩
                      · have HV := Lib.hid hv
                        generalize Nm.value (Nm.peak (P : Int)) lb = vb at hv ⊢
                        generalize Nm.value (Nm.peak (P : Int)) la = va at hv ⊢
                        go_wp2
                        go_roundw
                        case rel =>
                          refine ⟨(P : Int) + 1, by omega, by omega, by go_num, fun q h1 h2 => ?_, HBc.out⟩
                          by_cases e : q = (P : Int)
                          · subst e; exact HV.out
                          · exact HQ.out q h1 (by omega)
                        case measure => simp [intOf]; omega
                  · exfalso
                    obtain rfl : p = 5 := by omega
                    obtain ⟨q, h1, h2, h3⟩ := Nm.not_le HK1.out HK2.out HNL.out HALL.out
                    exact HQ.out q h1 h2 h3
          · rw [show max x y = x by omega]
            go_wp2_with fail
            refine (sameAtoms_any w10 w10.heap.size _ _ Q M cm c2 (Nm.norm (la ++ lb)) lb (Nat.le_refl _) (OwnA.reads om10) (OwnA.reads ob10) (by omega) (by omega)).mono ?_
            rintro e w11 ⟨rfl, hb11⟩
            rw [HDEC.out]
            have hB11 := hB10.trans (hb11.mono s10)
            have s11 := hB11.size
            have oa11 := own_below' oa10 hb11
            have ob11 := own_below' ob10 hb11
            clear oa10 ob10 om10 hb11
            obtain ⟨q0, rfl, hq0⟩ := (OwnA.reads oa11).tokA (by omega)
            obtain ⟨q1, rfl, hq1⟩ := (OwnA.reads ob11).tokA (by omega)
            have HQ0 := Lib.hid hq0
            have HQ1 := Lib.hid hq1
            have HRA := Lib.hid (OwnA.reads oa11)
            have HRB := Lib.hid (OwnA.reads ob11)
            clear hq0 hq1 oa11 ob11
            go_wp2
            go_loopw [15] (fun i wr => ∃ k : Nat, k ≤ L + M ∧ i = .int .i64 k ∧ (∀ j, j < k → ((la ++ lb).getD j (0, 0)).2 ≤ 500) ∧ Below w11.heap.size w11 wr) (fun i _ => L + M - (intOf i).toNat)
            case atStart => exact ⟨0, Nat.zero_le _, rfl, (fun j hj => absurd hj (by omega)), Below.refl _ _⟩
            case round =>
              obtain ⟨k, hk, rfl, h5, hbel⟩ := hrel
              have H5 := Lib.hid h5
              clear h5
              have hsr := hbel.size
              by_cases hlt2 : k < L + M
              · have hki : (k : Int) < (L : Int) + (M : Int) := by omega
                obtain ⟨u, hu⟩ : ∃ u, ((la ++ lb).getD k (0, 0)).2 = u := ⟨_, rfl⟩
                have HU := Lib.hid hu
                clear hu
                have ho0 : OwnA (wr.alloc (.cells #[] 32)) w11.heap.size (some ⟨wr.heap.size, 0, none⟩) 0 0 [] := World.ownsRow_made wr #[] 0 hsr (by simp [maxLen]) (by simp)
                have hba : Below w11.heap.size w11 (wr.alloc (.cells #[] 32)) := hbel.alloc hsr _
                clear hbel
                by_cases hu5 : 500 < u
                · go_wp2_with (at_builtin; first
                    | (refine wpList_append_own _ rfl (.tmp 109) (.tmp 110) 24 rfl w11.heap.size 32 i0 (.agg #[.int .i64 0, .int .i64 0]) 2 16 Try.underlying24 hi hz0 hz1 hz2 rfl (by decide) (.slice (some ⟨wr.heap.size, 0, none⟩) 0 0) 0 (tokCells []) rfl ho0 q0 L c1 (tokCells la) rfl HCL0.out (HQ0.out.below hba).2 (tokCells_one la) (by unfold maxLen; omega) (by omega) (by simp; omega) ?_
                       intro v' w3 hown' hgrow hnil
                       obtain ⟨g', cap', rfl⟩ : ∃ g' cap', v' = .slice (some ⟨g', 0, none⟩) L cap' := by
                         rcases hown'.2 with ⟨h0, _⟩ | ⟨g', cap', _, h0, _⟩
                         · have := (hnil.1 h0).1
                           cases this
                         · rw [Nat.zero_add] at h0; exact ⟨g', cap', h0⟩
                       have hb3 : Below w11.heap.size w11 w3 := hba.grown hgrow (by simp; omega) (fun k h => by have h' : wr.heap.size = k := (by simpa [Value.ownBlock] using h); omega)
                       have ho3 : OwnA w3 w11.heap.size (some ⟨g', 0, none⟩) L cap' la := by
                         have h := hown'
                         rw [tokCells_nil, List.nil_append, Nat.zero_add] at h
                         exact h
                       have hz3 := hb3.size
                       clear hown' hgrow hnil ho0 hba)
                    | (refine wpList_append_own _ rfl (.tmp 111) (.tmp 112) 24 rfl w11.heap.size 32 i0 (.agg #[.int .i64 0, .int .i64 0]) 2 16 Try.underlying24 hi hz0 hz1 hz2 rfl (by decide) (.slice (some ⟨g', 0, none⟩) L cap') L (tokCells la) rfl ho3 q1 M c2 (tokCells lb) rfl HCL1.out (HQ1.out.below hb3).2 (tokCells_one lb) (by unfold maxLen; omega) (by omega) (by omega) ?_
                       intro v' w4 hown' hgrow hnil
                       obtain ⟨g2, cap2, rfl⟩ : ∃ g' cap', v' = .slice (some ⟨g', 0, none⟩) (L + M) cap' := by
                         rcases hown'.2 with ⟨h0, _⟩ | ⟨g', cap', _, h0, _⟩
                         · have := (hnil.1 h0).1
                           cases this
                         · exact ⟨g', cap', h0⟩
                       have HB4 : Hid (Below w11.heap.size w11 w4) := hb3.grown hgrow (by omega) (fun k h => (ho3.lt k h).1)
                       have e4 : w4.cell? ⟨g2, k * 2 + 1, none⟩ = some (.int .i64 u) := by
                         have ho4 : OwnA w4 w11.heap.size (some ⟨g2, 0, none⟩) (L + M) cap2 (la ++ lb) := by
                           unfold OwnA
                           rw [tokCells_append]
                           exact hown'
                         obtain ⟨b, off, hbo, _, hc⟩ := (OwnA.reads ho4).2 (by omega)
                         injection hbo with hbo
                         injection hbo with hbo1 hbo2
                         subst hbo1; subst hbo2
                         have h2 := (hc k hlt2).2
                         rw [HU.out, Nat.zero_add] at h2
                         exact h2
                       clear hown' hgrow hnil ho3 hb3))
                  go_wp2
                  go_ret
                  exact ⟨rfl, hB11.trans (HB4.out.mono s11)⟩
                · go_wp2_with (at_builtin; first
                    | (refine wpList_append_own _ rfl (.tmp 109) (.tmp 110) 24 rfl w11.heap.size 32 i0 (.agg #[.int .i64 0, .int .i64 0]) 2 16 Try.underlying24 hi hz0 hz1 hz2 rfl (by decide) (.slice (some ⟨wr.heap.size, 0, none⟩) 0 0) 0 (tokCells []) rfl ho0 q0 L c1 (tokCells la) rfl HCL0.out (HQ0.out.below hba).2 (tokCells_one la) (by unfold maxLen; omega) (by omega) (by simp; omega) ?_
                       intro v' w3 hown' hgrow hnil
                       obtain ⟨g', cap', rfl⟩ : ∃ g' cap', v' = .slice (some ⟨g', 0, none⟩) L cap' := by
                         rcases hown'.2 with ⟨h0, _⟩ | ⟨g', cap', _, h0, _⟩
                         · have := (hnil.1 h0).1
                           cases this
                         · rw [Nat.zero_add] at h0; exact ⟨g', cap', h0⟩
                       have hb3 : Below w11.heap.size w11 w3 := hba.grown hgrow (by simp; omega) (fun k h => by have h' : wr.heap.size = k := (by simpa [Value.ownBlock] using h); omega)
                       have ho3 : OwnA w3 w11.heap.size (some ⟨g', 0, none⟩) L cap' la := by
                         have h := hown'
                         rw [tokCells_nil, List.nil_append, Nat.zero_add] at h
                         exact h
                       have hz3 := hb3.size
                       clear hown' hgrow hnil ho0 hba)
                    | (refine wpList_append_own _ rfl (.tmp 111) (.tmp 112) 24 rfl w11.heap.size 32 i0 (.agg #[.int .i64 0, .int .i64 0]) 2 16 Try.underlying24 hi hz0 hz1 hz2 rfl (by decide) (.slice (some ⟨g', 0, none⟩) L cap') L (tokCells la) rfl ho3 q1 M c2 (tokCells lb) rfl HCL1.out (HQ1.out.below hb3).2 (tokCells_one lb) (by unfold maxLen; omega) (by omega) (by omega) ?_
                       intro v' w4 hown' hgrow hnil
                       obtain ⟨g2, cap2, rfl⟩ : ∃ g' cap', v' = .slice (some ⟨g', 0, none⟩) (L + M) cap' := by
                         rcases hown'.2 with ⟨h0, _⟩ | ⟨g', cap', _, h0, _⟩
                         · have := (hnil.1 h0).1
                           cases this
                         · exact ⟨g', cap', h0⟩
                       have HB4 : Hid (Below w11.heap.size w11 w4) := hb3.grown hgrow (by omega) (fun k h => (ho3.lt k h).1)
                       have e4 : w4.cell? ⟨g2, k * 2 + 1, none⟩ = some (.int .i64 u) := by
                         have ho4 : OwnA w4 w11.heap.size (some ⟨g2, 0, none⟩) (L + M) cap2 (la ++ lb) := by
                           unfold OwnA
                           rw [tokCells_append]
                           exact hown'
                         obtain ⟨b, off, hbo, _, hc⟩ := (OwnA.reads ho4).2 (by omega)
                         injection hbo with hbo
                         injection hbo with hbo1 hbo2
                         subst hbo1; subst hbo2
                         have h2 := (hc k hlt2).2
                         rw [HU.out, Nat.zero_add] at h2
                         exact h2
                       clear hown' hgrow hnil ho3 hb3))
                  go_wp2
                  go_roundw
                  case rel =>
                    refine ⟨k + 1, by omega, by go_num, fun j hj => ?_, HB4.out⟩
                    by_cases e : j = k
                    · subst e; rw [HU.out]; omega
                    · exact H5.out j (by omega)
                  case measure => simp [intOf]; omega
              · have hkk : k = L + M := by omega
                subst hkk
                have HALL := Lib.hid (all500 (la := la) (lb := lb) (fun j hj => H5.out j (by rw [HLL.out, HLM.out] at hj; exact hj)))
                go_wp2
                go_loopw [16] (fun i wr => ∃ p : Int, -1 ≤ p ∧ p ≤ 5 ∧ i = .int .i64 p ∧ (∀ q : Int, -1 ≤ q → q < p → ¬ Nm.value (Nm.peak q) lb < Nm.value (Nm.peak q) la) ∧ Below w11.heap.size w11 wr) (fun i _ => (5 - intOf i).toNat)
                case atStart => exact ⟨-1, by omega, by omega, rfl, fun q h1 h2 => absurd h1 (by omega), hbel⟩
                case round =>
                  obtain ⟨p, hp1, hp5, rfl, hq, hbel2⟩ := hrel
                  have HQ := Lib.hid hq
                  clear hq hbel
                  have hs2 := hbel2.size
                  by_cases hp : p < 5
                  · by_cases h0 : p = -1
                    · subst h0
                      have HP := Lib.hid (peak_none wr)
                      have HBa := Lib.hid (hbel2.alloc hs2 (.cells #[.int .i64 0, .int .i64 0, .int .i64 0, .int .i64 0, .int .i64 0] 3))
                      have HSa := Lib.hid (show w11.heap.size ≤ (wr.alloc (.cells #[.int .i64 0, .int .i64 0, .int .i64 0, .int .i64 0, .int .i64 0] 3)).heap.size by simp; omega)
                      clear hbel2
                      go_wp2_with fail
                      refine (implNormEval_any _ (wr.heap.size + 1) _ L c1 la _ 5 5 (Nm.peak (-1)) (by simp) ((HRA.out.below HBa.out).more (by omega)) (by omega) ca HP.out (by omega)).mono ?_
                      rintro e v1 ⟨rfl, hv1⟩
                      rw [nev_form HO1.out (peak_ok _)]
                      have HBb := Lib.hid (HBa.out.trans (hv1.mono HSa.out))
                      have HP1 := Lib.hid (HP.out.below (hv1.mono (by simp)))
                      have sv1 : wr.heap.size + 1 ≤ v1.heap.size := Nat.le_trans (by simp) hv1.size
                      clear hv1
                      go_wp2_with fail
                      refine (implNormEval_any v1 (wr.heap.size + 1) _ M c2 lb _ 5 5 (Nm.peak (-1)) sv1 ((HRB.out.below HBb.out).more (by omega)) (by omega) cb HP1.out (by omega)).mono ?_
                      rintro e v2 ⟨rfl, hv2⟩
                      rw [nev_form HO2.out (peak_ok _)]
                      have HBc := Lib.hid (HBb.out.trans (hv2.mono (Nat.le_trans hs2 (by omega))))
                      clear hv2
                      by_cases hv : Nm.value (Nm.peak (-1)) lb < Nm.value (Nm.peak (-1)) la
                      · generalize Nm.value (Nm.peak (-1)) lb = vb at hv ⊢
                        generalize Nm.value (Nm.peak (-1)) la = va at hv ⊢
                        have HBd := Lib.hid (hB11.trans (HBc.out.mono s11))
                        go_wp2
                        go_ret
                        exact ⟨rfl, HBd.out⟩
                      · have HV := Lib.hid hv
                        generalize Nm.value (Nm.peak (-1)) lb = vb at hv ⊢
                        generalize Nm.value (Nm.peak (-1)) la = va at hv ⊢
                        go_wp2
                        go_roundw
                        case rel =>
                          refine ⟨(-1) + 1, by omega, by omega, by go_num, fun q h1 h2 => ?_, HBc.out⟩
                          by_cases e : q = (-1)
                          · subst e; exact HV.out
                          · exact HQ.out q h1 (by omega)
                        case measure => simp [intOf]; omega
                    · obtain ⟨P, rfl⟩ : ∃ P : Nat, p = P := ⟨p.toNat, by omega⟩
                      have hP5 : P < 5 := by omega
                      have e0 := peak_cell wr P hP5
                      have f0 := (Blk.made wr 3 #[.int .i64 0, .int .i64 0, .int .i64 0, .int .i64 0, .int .i64 0]).thawed P
                      have hp0 : (0 : Int) ≤ (P : Int) := by omega
                      have HP := Lib.hid (peak_put wr P hP5)
                      have HBa := Lib.hid (hbel2.alloc hs2 (.cells ([Value.int .i64 0, .int .i64 0, .int .i64 0, .int .i64 0, .int .i64 0].set P (.int .i64 1000)).toArray 3))
                      have HSa := Lib.hid (show w11.heap.size ≤ (wr.alloc (.cells ([Value.int .i64 0, .int .i64 0, .int .i64 0, .int .i64 0, .int .i64 0].set P (.int .i64 1000)).toArray 3)).heap.size by simp; omega)
                      clear hbel2 h0
                      go_wp2_with fail
                      refine (implNormEval_any _ (wr.heap.size + 1) _ L c1 la _ 5 5 (Nm.peak (P : Int)) (by simp) ((HRA.out.below HBa.out).more (by omega)) (by omega) ca HP.out (by omega)).mono ?_
                      rintro e v1 ⟨rfl, hv1⟩
                      rw [nev_form HO1.out (peak_ok _)]
                      have HBb := Lib.hid (HBa.out.trans (hv1.mono HSa.out))
                      have HP1 := Lib.hid (HP.out.below (hv1.mono (by simp)))
                      have sv1 : wr.heap.size + 1 ≤ v1.heap.size := Nat.le_trans (by simp) hv1.size
                      clear hv1
                      go_wp2_with fail
                      refine (implNormEval_any v1 (wr.heap.size + 1) _ M c2 lb _ 5 5 (Nm.peak (P : Int)) sv1 ((HRB.out.below HBb.out).more (by omega)) (by omega) cb HP1.out (by omega)).mono ?_
                      rintro e v2 ⟨rfl, hv2⟩
                      rw [nev_form HO2.out (peak_ok _)]
                      have HBc := Lib.hid (HBb.out.trans (hv2.mono (Nat.le_trans hs2 (by omega))))
                      clear hv2
                      by_cases hv : Nm.value (Nm.peak (P : Int)) lb < Nm.value (Nm.peak (P : Int)) la
                      · generalize Nm.value (Nm.peak (P : Int)) lb = vb at hv ⊢
                        generalize Nm.value (Nm.peak (P : Int)) la = va at hv ⊢
                        have HBd := Lib.hid (hB11.trans (HBc.out.mono s11))
                        go_wp2
                        go_ret
                        exact ⟨rfl, HBd.out⟩
                      · have HV := Lib.hid hv
                        generalize Nm.value (Nm.peak (P : Int)) lb = vb at hv ⊢
                        generalize Nm.value (Nm.peak (P : Int)) la = va at hv ⊢
                        go_wp2
                        go_roundw
                        case rel =>
                          refine ⟨(P : Int) + 1, by omega, by omega, by go_num, fun q h1 h2 => ?_, HBc.out⟩
                          by_cases e : q = (P : Int)
                          · subst e; exact HV.out
                          · exact HQ.out q h1 (by omega)
                        case measure => simp [intOf]; omega
                  · exfalso
                    obtain rfl : p = 5 := by omega
                    obtain ⟨q, h1, h2, h3⟩ := Nm.not_le HK1.out HK2.out HNL.out HALL.out
                    exact HQ.out q h1 h2 h3
end Go.Proofs.Ytgbdojenenfgfaa
