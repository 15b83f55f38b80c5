/- The law FnResidLe: the walk (written by tools/mkfnrle.py). -/
import Derived.Test.YtijiohdddfdjfaaDrawR
import Derived.Test.YtijiohdddfdjfaaRLe2
import Derived.Test.YtijiohdddfdjfaaREval
import Derived.Test.YtijiohdddfdjfaaRlMath
import Derived.Test.YtijiohdddfdjfaaSgHas
namespace Go.Proofs.Ytijiohdddfdjfaa
open Go.RowKit

theorem rev_form {s : Int} {l : List (Int × Int)} {env : List Int} (h1 : Nm.residOk s l = true) (h2 : Sg.sgR env = s) : revV l env = .tuple #[.int .i64 (Nm.value env l), .bool true] := by rw [revV, revR_yes (by rw [h2]; exact h1)]; rfl
theorem sgR_of' {s p : Int} {yes : Bool} {la : List (Int × Int)} {env : List Int} (h : Nm.ROk s la) (hp : Nm.Part s p yes 5 env) : Sg.sgR env = s := Nm.sgR_of h.1 hp.env.2 hp.env.1
theorem all500' {la lb : List (Int × Int)} (h : ∀ j, j < la.length + lb.length → ((la ++ lb).getD j (0, 0)).2 ≤ 500) : ∀ y ∈ lb, y.2 ≤ 500 := by
  intro y hy
  obtain ⟨k, hk, rfl⟩ := Nm.getD_of_mem (List.mem_append_right la hy)
  exact h k (by simpa using hk)

set_option maxRecDepth 100000 in
set_option maxHeartbeats 12800000 in
theorem fnResidLe_any (w : World) (B : Nat) (A : Option Addr) (n c : Nat) (hB : B ≤ w.heap.size) (hb : BytR w B A n) :
    Calls Try.prog 3 #[.slice A n c] w fun e w' => e = .returned (.bool true) ∧ Below w.heap.size w w' := by
  obtain ⟨i0, hi, hz0, hz1, hz2⟩ := info_parts info_atom
  obtain ⟨j0, hj, hy0, hy1, hy2⟩ := info_parts info_int
  by_cases hbig : 1048576 < (n : Int)
  · go_enter Try.func3, Try.ntmps3
    go_wp2_with fail
    refine (big_any w A n c).mono ?_
    rintro e w' ⟨rfl, rfl⟩
    rw [decide_eq_true (by omega)]
    go_wp2
    go_ret
    exact ⟨rfl, Below.refl _ _⟩
  · have hn : n ≤ 1048576 := by omega
    go_enter Try.func3, Try.ntmps3
    go_wp2_with fail
    refine (big_any w A n c).mono ?_
    rintro e w' ⟨rfl, rfl⟩
    rw [decide_eq_false (by omega)]
    go_wp2_with fail
    refine (drawResidLe_any w B A n c hB hb hn).mono ?_
    rintro e w1 ⟨A1, c1, la, A2, c2, lb, s, rfl, ⟨oa1, la1, la7⟩, ⟨ob1, lb1, lb7⟩, hB1⟩
    have ca := at_capO oa1
    have cb := at_capO ob1
    have s1 := hB1.size
    obtain ⟨L, hL⟩ : ∃ L, la.length = L := ⟨_, rfl⟩
    obtain ⟨M, hM⟩ : ∃ M, lb.length = M := ⟨_, rfl⟩
    rw [hL] at oa1 ca la7 la1 ⊢
    rw [hM] at ob1 cb lb7 lb1 ⊢
    go_wp2_with fail
    refine (implResidLe_any w1 w1.heap.size A1 L c1 la A2 M c2 lb s (Nat.le_refl _) (at_reads oa1) (by omega) ca (at_reads ob1) (by omega) cb).mono ?_
    rintro e w2 ⟨rfl, hb2⟩
    have hB2 := hB1.trans (hb2.mono s1)
    have s2 := hB2.size
    have oa2 := at_below' oa1 hb2
    have ob2 := at_below' ob1 hb2
    clear oa1 ob1 hb2
    cases hY : Nm.residLe s la lb with
    | true =>
      have HY := Lib.hid hY
      clear hY
      go_wp2_with fail
      refine (specResidLe_any w2 w2.heap.size A1 L c1 la A2 M c2 lb s (Nat.le_refl _) (at_reads oa2) (by omega) (at_reads ob2) (by omega)).mono ?_
      rintro e w3 ⟨rfl, hb3⟩
      rw [HY.out]
      have hB3 := hB2.trans (hb3.mono s2)
      have s3 := hB3.size
      have oa3 := at_below' oa2 hb3
      have ob3 := at_below' ob2 hb3
      clear oa2 ob2 hb3
      go_wp2_with fail
      refine (specResidOk_any w3 w3.heap.size A1 L c1 la s (Nat.le_refl _) (at_reads oa3) (by omega)).mono ?_
      rintro e w4 ⟨rfl, hb4⟩
      have hB4 := hB3.trans (hb4.mono s3)
      have s4 := hB4.size
      have oa4 := at_below' oa3 hb4
      have ob4 := at_below' ob3 hb4
      clear oa3 ob3 hb4
      cases h1 : Nm.residOk s la with
      | false =>
        clear h1
        go_wp2_with fail
        refine (specResidLe_any w4 w4.heap.size A1 L c1 la A2 M c2 lb s (Nat.le_refl _) (at_reads oa4) (by omega) (at_reads ob4) (by omega)).mono ?_
        rintro e w5 ⟨rfl, hb5⟩
        rw [HY.out]
        have HBZ := Lib.hid (hB4.trans (hb5.mono s4))
        clear hb5
        go_wp2
        go_ret
        exact ⟨rfl, HBZ.out⟩
      | true =>
        have HO1 := Lib.hid h1
        clear h1
        go_wp2_with fail
        refine (specResidOk_any w4 w4.heap.size A2 M c2 lb s (Nat.le_refl _) (at_reads ob4) (by omega)).mono ?_
        rintro e w5 ⟨rfl, hb5⟩
        have hB5 := hB4.trans (hb5.mono s4)
        have s5 := hB5.size
        have oa5 := at_below' oa4 hb5
        have ob5 := at_below' ob4 hb5
        clear oa4 ob4 hb5
        cases h2 : Nm.residOk s lb with
        | false =>
          clear h2
          go_wp2_with fail
          refine (specResidLe_any w5 w5.heap.size A1 L c1 la A2 M c2 lb s (Nat.le_refl _) (at_reads oa5) (by omega) (at_reads ob5) (by omega)).mono ?_
          rintro e w6 ⟨rfl, hb6⟩
          rw [HY.out]
          have HBZ := Lib.hid (hB5.trans (hb6.mono s5))
          clear hb6
          go_wp2
          go_ret
          exact ⟨rfl, HBZ.out⟩
        | true =>
          have HO2 := Lib.hid h2
          clear h2
          have ok1 := (Nm.residOk_iff s la).1 HO1.out
          have ok2 := (Nm.residOk_iff s lb).1 HO2.out
          have HFIT := Lib.hid ((Nm.residLe_iff s la lb).1 HY.out).2.2
          have HRA := Lib.hid ok1
          have HK2 := Lib.hid ok2
          have HCL0 : Hid ((tokCells la).length = L * 2) := by show _ = _; rw [tokCells_len, hL]
          have HCL1 : Hid ((tokCells lb).length = M * 2) := by show _ = _; rw [tokCells_len, hM]
          have HLL := Lib.hid hL
          have HLM := Lib.hid hM
          obtain ⟨q0, rfl, hq0⟩ := (at_reads oa5).tokA (by omega)
          obtain ⟨q1, rfl, hq1⟩ := (at_reads ob5).tokA (by omega)
          have HQ0 := Lib.hid hq0
          have HQ1 := Lib.hid hq1
          clear hq0 hq1 ok1 ok2 hL hM
          go_wp2
          go_loopw [7] (fun i wr => ∃ k : Nat, k ≤ L + M ∧ i = .int .i64 k ∧ (∀ j, j < k → ((la ++ lb).getD j (0, 0)).2 ≤ 500) ∧ Below w5.heap.size w5 wr) (fun i _ => L + M - (intOf i).toNat)
          case atStart => exact ⟨0, Nat.zero_le _, rfl, (fun j hj => absurd hj (by omega)), Below.refl _ _⟩
          case round =>
            obtain ⟨k, hk, rfl, h5, hbel⟩ := hrel
            have H5 := Lib.hid h5
            clear h5
            have hsr := hbel.size
            by_cases hlt2 : k < L + M
            · have hki : (k : Int) < (L : Int) + (M : Int) := by omega
              obtain ⟨u, hu⟩ : ∃ u, ((la ++ lb).getD k (0, 0)).2 = u := ⟨_, rfl⟩
              have HU := Lib.hid hu
              clear hu
              have ho0 : OwnA (wr.alloc (.cells #[] 30)) w5.heap.size (some ⟨wr.heap.size, 0, none⟩) 0 0 [] := World.ownsRow_made wr #[] 0 hsr (by simp [maxLen]) (by simp)
              have hba : Below w5.heap.size w5 (wr.alloc (.cells #[] 30)) := hbel.alloc hsr _
              clear hbel
              by_cases hu5 : 500 < u
              · go_wp2_with (at_builtin; first
                  | (refine wpList_append_own _ rfl (.tmp 61) (.tmp 62) 24 rfl w5.heap.size 30 i0 (.agg #[.int .i64 0, .int .i64 0]) 2 16 Try.underlying24 hi hz0 hz1 hz2 rfl (by decide) (.slice (some ⟨wr.heap.size, 0, none⟩) 0 0) 0 (tokCells []) rfl ho0 q0 L c1 (tokCells la) rfl HCL0.out (HQ0.out.below hba).2 (tokCells_one la) (by unfold maxLen; omega) (by omega) (by simp; omega) ?_
                     intro v' w3 hown' hgrow hnil
                     obtain ⟨g', cap', rfl⟩ : ∃ g' cap', v' = .slice (some ⟨g', 0, none⟩) L cap' := by
                       rcases hown'.2 with ⟨h0, _⟩ | ⟨g', cap', _, h0, _⟩
                       · have := (hnil.1 h0).1
                         cases this
                       · rw [Nat.zero_add] at h0; exact ⟨g', cap', h0⟩
                     have hb3 : Below w5.heap.size w5 w3 := hba.grown hgrow (by simp; omega) (fun k h => by have h' : wr.heap.size = k := (by simpa [Value.ownBlock] using h); omega)
                     have ho3 : OwnA w3 w5.heap.size (some ⟨g', 0, none⟩) L cap' la := by
                       have h := hown'
                       rw [tokCells_nil, List.nil_append, Nat.zero_add] at h
                       exact h
                     have hz3 := hb3.size
                     clear hown' hgrow hnil ho0 hba)
                  | (refine wpList_append_own _ rfl (.tmp 63) (.tmp 64) 24 rfl w5.heap.size 30 i0 (.agg #[.int .i64 0, .int .i64 0]) 2 16 Try.underlying24 hi hz0 hz1 hz2 rfl (by decide) (.slice (some ⟨g', 0, none⟩) L cap') L (tokCells la) rfl ho3 q1 M c2 (tokCells lb) rfl HCL1.out (HQ1.out.below hb3).2 (tokCells_one lb) (by unfold maxLen; omega) (by omega) (by omega) ?_
                     intro v' w4 hown' hgrow hnil
                     obtain ⟨g2, cap2, rfl⟩ : ∃ g' cap', v' = .slice (some ⟨g', 0, none⟩) (L + M) cap' := by
                       rcases hown'.2 with ⟨h0, _⟩ | ⟨g', cap', _, h0, _⟩
                       · have := (hnil.1 h0).1
                         cases this
                       · exact ⟨g', cap', h0⟩
                     have HB4 : Hid (Below w5.heap.size w5 w4) := hb3.grown hgrow (by omega) (fun k h => (ho3.lt k h).1)
                     have e4 : w4.cell? ⟨g2, k * 2 + 1, none⟩ = some (.int .i64 u) := by
                       have ho4 : OwnA w4 w5.heap.size (some ⟨g2, 0, none⟩) (L + M) cap2 (la ++ lb) := by
                         unfold OwnA
                         rw [tokCells_append]
                         exact hown'
                       obtain ⟨b, off, hbo, _, hc⟩ := (OwnA.reads ho4).2 (by omega)
                       injection hbo with hbo
                       injection hbo with hbo1 hbo2
                       subst hbo1; subst hbo2
                       have h2 := (hc k hlt2).2
                       rw [HU.out, Nat.zero_add] at h2
                       exact h2
                     clear hown' hgrow hnil ho3 hb3))
                go_wp2
                go_ret
                exact ⟨rfl, hB5.trans (HB4.out.mono s5)⟩
              · go_wp2_with (at_builtin; first
                  | (refine wpList_append_own _ rfl (.tmp 61) (.tmp 62) 24 rfl w5.heap.size 30 i0 (.agg #[.int .i64 0, .int .i64 0]) 2 16 Try.underlying24 hi hz0 hz1 hz2 rfl (by decide) (.slice (some ⟨wr.heap.size, 0, none⟩) 0 0) 0 (tokCells []) rfl ho0 q0 L c1 (tokCells la) rfl HCL0.out (HQ0.out.below hba).2 (tokCells_one la) (by unfold maxLen; omega) (by omega) (by simp; omega) ?_
                     intro v' w3 hown' hgrow hnil
                     obtain ⟨g', cap', rfl⟩ : ∃ g' cap', v' = .slice (some ⟨g', 0, none⟩) L cap' := by
                       rcases hown'.2 with ⟨h0, _⟩ | ⟨g', cap', _, h0, _⟩
                       · have := (hnil.1 h0).1
                         cases this
                       · rw [Nat.zero_add] at h0; exact ⟨g', cap', h0⟩
                     have hb3 : Below w5.heap.size w5 w3 := hba.grown hgrow (by simp; omega) (fun k h => by have h' : wr.heap.size = k := (by simpa [Value.ownBlock] using h); omega)
                     have ho3 : OwnA w3 w5.heap.size (some ⟨g', 0, none⟩) L cap' la := by
                       have h := hown'
                       rw [tokCells_nil, List.nil_append, Nat.zero_add] at h
                       exact h
                     have hz3 := hb3.size
                     clear hown' hgrow hnil ho0 hba)
                  | (refine wpList_append_own _ rfl (.tmp 63) (.tmp 64) 24 rfl w5.heap.size 30 i0 (.agg #[.int .i64 0, .int .i64 0]) 2 16 Try.underlying24 hi hz0 hz1 hz2 rfl (by decide) (.slice (some ⟨g', 0, none⟩) L cap') L (tokCells la) rfl ho3 q1 M c2 (tokCells lb) rfl HCL1.out (HQ1.out.below hb3).2 (tokCells_one lb) (by unfold maxLen; omega) (by omega) (by omega) ?_
                     intro v' w4 hown' hgrow hnil
                     obtain ⟨g2, cap2, rfl⟩ : ∃ g' cap', v' = .slice (some ⟨g', 0, none⟩) (L + M) cap' := by
                       rcases hown'.2 with ⟨h0, _⟩ | ⟨g', cap', _, h0, _⟩
                       · have := (hnil.1 h0).1
                         cases this
                       · exact ⟨g', cap', h0⟩
                     have HB4 : Hid (Below w5.heap.size w5 w4) := hb3.grown hgrow (by omega) (fun k h => (ho3.lt k h).1)
                     have e4 : w4.cell? ⟨g2, k * 2 + 1, none⟩ = some (.int .i64 u) := by
                       have ho4 : OwnA w4 w5.heap.size (some ⟨g2, 0, none⟩) (L + M) cap2 (la ++ lb) := by
                         unfold OwnA
                         rw [tokCells_append]
                         exact hown'
                       obtain ⟨b, off, hbo, _, hc⟩ := (OwnA.reads ho4).2 (by omega)
                       injection hbo with hbo
                       injection hbo with hbo1 hbo2
                       subst hbo1; subst hbo2
                       have h2 := (hc k hlt2).2
                       rw [HU.out, Nat.zero_add] at h2
                       exact h2
                     clear hown' hgrow hnil ho3 hb3))
                go_wp2
                go_roundw
                case rel =>
                  refine ⟨k + 1, by omega, by go_num, fun j hj => ?_, HB4.out⟩
                  by_cases e : j = k
                  · subst e; rw [HU.out]; omega
                  · exact H5.out j (by omega)
                case measure => simp [intOf]; omega
            · have hkk : ¬ (k : Int) < (L : Int) + (M : Int) := by omega
              clear hlt2 hk
              have HBL := Lib.hid hbel
              clear hbel
              go_wp2
              go_loopw [8] (fun i wr => ∃ p : Int, -1 ≤ p ∧ p ≤ 5 ∧ i = .int .i64 p ∧ Below w5.heap.size w5 wr) (fun i _ => (5 - intOf i).toNat)
              case atStart => exact ⟨-1, by omega, by omega, rfl, HBL.out⟩
              case round =>
                obtain ⟨p, hp1, hp5, rfl, hbel2⟩ := hrel
                clear HBL
                have hs2 := hbel2.size
                by_cases hp : p < 5
                · have ho0 : OwnI (wr.alloc (.cells #[] 3)) w5.heap.size (some ⟨wr.heap.size, 0, none⟩) 0 0 [] := World.ownsRow_made wr #[] 0 hs2 (by simp [maxLen]) (by simp)
                  have HO0 := Lib.hid ho0
                  have HB0 := Lib.hid (hbel2.alloc hs2 (.cells #[] 3))
                  clear ho0 hbel2
                  go_wp2
                  go_loopw [9, 10] (fun v i wr => ∃ (q g cap : Nat) (env : List Int), q ≤ 5 ∧ i = .int .i64 q ∧ v = .slice (some ⟨g, 0, none⟩) q cap ∧ Hid (Nm.Part s p true q env) ∧ OwnI wr w5.heap.size (some ⟨g, 0, none⟩) q cap env ∧ Below w5.heap.size w5 wr) (fun _ i _ => 5 - (intOf i).toNat)
                  case atStart => exact ⟨0, _, 0, [], by omega, rfl, rfl, Nm.Part.nil _ _ _, HO0.out, HB0.out⟩
                  case round =>
                    rename_i wo
                    obtain ⟨q, g, cap, env, hq, rfl, rfl, HPT, hown, hbel⟩ := hrel
                    have hszr := hbel.size
                    by_cases hq5 : q < 5
                    · have hq5' : (q : Int) < 5 := by omega
                      go_wp2_with fail
                      refine (implSignHas_any wr s q).mono ?_
                      rintro e wx ⟨rfl, rfl⟩
                      cases hh : Sg.has s q with
                      | false =>
                        have HPN := Lib.hid (Nm.Part.snoc HPT.out 0 (fun h => by rw [hh] at h; cases h) (fun _ => rfl) (fun h => by cases h))
                        clear hh
                        go_wp2_with (at_builtin; refine wpList_append_own _ rfl (.tmp 102) (.tmp 104) 31 rfl w5.heap.size 3 j0 (.int .i64 0) 1 8 Try.underlying31 hj hy0 hy1 hy2 rfl (by decide) (.slice (some ⟨g, 0, none⟩) q cap) q (env.map (Value.int .i64)) rfl (hown.alloc _) ⟨wx.heap.size, 0, none⟩ 1 1 [.int .i64 0] rfl rfl (cell_one_new _ _ _) (fun u hu => by simp at hu; subst hu; rfl) (by unfold maxLen; omega) (by omega) (by simp; omega) ?_; intro v' w3 hown' hgrow hnil)
                        obtain ⟨g2, cap2, rfl⟩ : ∃ g' cap', v' = .slice (some ⟨g', 0, none⟩) (q + 1) cap' := by
                          rcases hown'.2 with ⟨h0, _⟩ | ⟨g', cap', _, h0, _⟩
                          · have := (hnil.1 h0).1
                            cases this
                          · exact ⟨g', cap', h0⟩
                        have HB1 : Hid (Below w5.heap.size w5 w3) := (hbel.alloc hszr _).grown hgrow (by simp; omega) (fun k h => (hown.lt k h).1)
                        have HW : Hid (OwnI w3 w5.heap.size (some ⟨g2, 0, none⟩) (q + 1) cap2 (env ++ [(0 : Int)])) := by
                          show OwnI _ _ _ _ _ _
                          simpa [OwnI] using hown'
                        clear hown hown' hgrow hbel hnil
                        go_wp2
                        go_roundw
                        case rel => exact ⟨q + 1, g2, cap2, env ++ [(0 : Int)], by omega, by go_num, rfl, HPN.out, HW.out, HB1.out⟩
                        case measure => simp [intOf]; omega
                      | true =>
                        by_cases epq : p = (q : Int)
                        · have HPN := Lib.hid (Nm.Part.snoc HPT.out 1000 (fun _ => by omega) (fun h => by rw [hh] at h; cases h) (fun h => by cases h))
                          subst epq
                          clear hh
                          go_wp2_with (at_builtin; refine wpList_append_own _ rfl (.tmp 102) (.tmp 104) 31 rfl w5.heap.size 3 j0 (.int .i64 0) 1 8 Try.underlying31 hj hy0 hy1 hy2 rfl (by decide) (.slice (some ⟨g, 0, none⟩) q cap) q (env.map (Value.int .i64)) rfl (hown.alloc _) ⟨wx.heap.size, 0, none⟩ 1 1 [.int .i64 1000] rfl rfl (cell_one_new _ _ _) (fun u hu => by simp at hu; subst hu; rfl) (by unfold maxLen; omega) (by omega) (by simp; omega) ?_; intro v' w3 hown' hgrow hnil)
                          obtain ⟨g2, cap2, rfl⟩ : ∃ g' cap', v' = .slice (some ⟨g', 0, none⟩) (q + 1) cap' := by
                            rcases hown'.2 with ⟨h0, _⟩ | ⟨g', cap', _, h0, _⟩
                            · have := (hnil.1 h0).1
                              cases this
                            · exact ⟨g', cap', h0⟩
                          have HB1 : Hid (Below w5.heap.size w5 w3) := (hbel.alloc hszr _).grown hgrow (by simp; omega) (fun k h => (hown.lt k h).1)
                          have HW : Hid (OwnI w3 w5.heap.size (some ⟨g2, 0, none⟩) (q + 1) cap2 (env ++ [(1000 : Int)])) := by
                            show OwnI _ _ _ _ _ _
                            simpa [OwnI] using hown'
                          clear hown hown' hgrow hbel hnil
                          go_wp2
                          go_roundw
                          case rel => exact ⟨q + 1, g2, cap2, env ++ [(1000 : Int)], by omega, by go_num, rfl, HPN.out, HW.out, HB1.out⟩
                          case measure => simp [intOf]; omega
                        · have d1 : (p == (q : Int)) = false := by simpa using epq
                          by_cases em : p = -1
                          · subst em
                            have HPN := Lib.hid (Nm.Part.snoc HPT.out 1 (fun _ => by omega) (fun h => by rw [hh] at h; cases h) (fun h => by cases h))
                            have hpk := lawPick_any wx B A n c q 2 (hb.below ((hB5.trans (hbel.mono s5)).mono hB)) hn (by omega) (by omega)
                            have HPK := Lib.hid hpk
                            clear hpk epq
                            go_wp2_with fail
                            refine HPK.out.mono ?_
                            rintro e w1 ⟨r, rfl, hr, hw1⟩
                            subst hw1
                            clear HPK
                            by_cases r0 : r = 0
                            · subst r0
                              have hpk := lawPick_any wx B A n c (q + 3) 5 (hb.below ((hB5.trans (hbel.mono s5)).mono hB)) hn (by omega) (by omega)
                              rw [show (((q + 3 : Nat) : Nat) : Int) = (q : Int) + 3 by omega] at hpk
                              have HPK := Lib.hid hpk
                              clear hpk HPN
                              go_wp2_with fail
                              refine HPK.out.mono ?_
                              rintro e w2 ⟨r2, rfl, hr2, hw2⟩
                              subst hw2
                              clear HPK hr
                              have HPN := Lib.hid (Nm.Part.snoc HPT.out (1 + (r2 : Int)) (fun _ => by omega) (fun h => by rw [hh] at h; cases h) (fun h => by cases h))
                              have hr3 : r2 < 5 := by omega
                              clear hh hr2
                              go_wp2_with (at_builtin; refine wpList_append_own _ rfl (.tmp 102) (.tmp 104) 31 rfl w5.heap.size 3 j0 (.int .i64 0) 1 8 Try.underlying31 hj hy0 hy1 hy2 rfl (by decide) (.slice (some ⟨g, 0, none⟩) q cap) q (env.map (Value.int .i64)) rfl (hown.alloc _) ⟨wx.heap.size, 0, none⟩ 1 1 [.int .i64 (1 + (r2 : Int))] rfl rfl (cell_one_new _ _ _) (fun u hu => by simp at hu; subst hu; rfl) (by unfold maxLen; omega) (by omega) (by simp; omega) ?_; intro v' w3 hown' hgrow hnil)
                              obtain ⟨g2, cap2, rfl⟩ : ∃ g' cap', v' = .slice (some ⟨g', 0, none⟩) (q + 1) cap' := by
                                rcases hown'.2 with ⟨h0, _⟩ | ⟨g', cap', _, h0, _⟩
                                · have := (hnil.1 h0).1
                                  cases this
                                · exact ⟨g', cap', h0⟩
                              have HB1 : Hid (Below w5.heap.size w5 w3) := (hbel.alloc hszr _).grown hgrow (by simp; omega) (fun k h => (hown.lt k h).1)
                              have HW : Hid (OwnI w3 w5.heap.size (some ⟨g2, 0, none⟩) (q + 1) cap2 (env ++ [((1 + (r2 : Int)) : Int)])) := by
                                show OwnI _ _ _ _ _ _
                                simpa [OwnI] using hown'
                              clear hown hown' hgrow hbel hnil
                              go_wp2
                              go_roundw
                              case rel => exact ⟨q + 1, g2, cap2, env ++ [((1 + (r2 : Int)) : Int)], by omega, by go_num, rfl, HPN.out, HW.out, HB1.out⟩
                              case measure => simp [intOf]; omega
                            · have d2 : ((r : Int) == 0) = false := by simp; omega
                              clear hh hr r0
                              go_wp2_with (at_builtin; refine wpList_append_own _ rfl (.tmp 102) (.tmp 104) 31 rfl w5.heap.size 3 j0 (.int .i64 0) 1 8 Try.underlying31 hj hy0 hy1 hy2 rfl (by decide) (.slice (some ⟨g, 0, none⟩) q cap) q (env.map (Value.int .i64)) rfl (hown.alloc _) ⟨wx.heap.size, 0, none⟩ 1 1 [.int .i64 1] rfl rfl (cell_one_new _ _ _) (fun u hu => by simp at hu; subst hu; rfl) (by unfold maxLen; omega) (by omega) (by simp; omega) ?_; intro v' w3 hown' hgrow hnil)
                              obtain ⟨g2, cap2, rfl⟩ : ∃ g' cap', v' = .slice (some ⟨g', 0, none⟩) (q + 1) cap' := by
                                rcases hown'.2 with ⟨h0, _⟩ | ⟨g', cap', _, h0, _⟩
                                · have := (hnil.1 h0).1
                                  cases this
                                · exact ⟨g', cap', h0⟩
                              have HB1 : Hid (Below w5.heap.size w5 w3) := (hbel.alloc hszr _).grown hgrow (by simp; omega) (fun k h => (hown.lt k h).1)
                              have HW : Hid (OwnI w3 w5.heap.size (some ⟨g2, 0, none⟩) (q + 1) cap2 (env ++ [(1 : Int)])) := by
                                show OwnI _ _ _ _ _ _
                                simpa [OwnI] using hown'
                              clear hown hown' hgrow hbel hnil
                              go_wp2
                              go_roundw
                              case rel => exact ⟨q + 1, g2, cap2, env ++ [(1 : Int)], by omega, by go_num, rfl, HPN.out, HW.out, HB1.out⟩
                              case measure => simp [intOf]; omega
                          · have d3 : (p == -1) = false := by simpa using em
                            have HPN := Lib.hid (Nm.Part.snoc HPT.out 1 (fun _ => by omega) (fun h => by rw [hh] at h; cases h) (fun h => by cases h))
                            clear hh em epq
                            go_wp2_with (at_builtin; refine wpList_append_own _ rfl (.tmp 102) (.tmp 104) 31 rfl w5.heap.size 3 j0 (.int .i64 0) 1 8 Try.underlying31 hj hy0 hy1 hy2 rfl (by decide) (.slice (some ⟨g, 0, none⟩) q cap) q (env.map (Value.int .i64)) rfl (hown.alloc _) ⟨wx.heap.size, 0, none⟩ 1 1 [.int .i64 1] rfl rfl (cell_one_new _ _ _) (fun u hu => by simp at hu; subst hu; rfl) (by unfold maxLen; omega) (by omega) (by simp; omega) ?_; intro v' w3 hown' hgrow hnil)
                            obtain ⟨g2, cap2, rfl⟩ : ∃ g' cap', v' = .slice (some ⟨g', 0, none⟩) (q + 1) cap' := by
                              rcases hown'.2 with ⟨h0, _⟩ | ⟨g', cap', _, h0, _⟩
                              · have := (hnil.1 h0).1
                                cases this
                              · exact ⟨g', cap', h0⟩
                            have HB1 : Hid (Below w5.heap.size w5 w3) := (hbel.alloc hszr _).grown hgrow (by simp; omega) (fun k h => (hown.lt k h).1)
                            have HW : Hid (OwnI w3 w5.heap.size (some ⟨g2, 0, none⟩) (q + 1) cap2 (env ++ [(1 : Int)])) := by
                              show OwnI _ _ _ _ _ _
                              simpa [OwnI] using hown'
                            clear hown hown' hgrow hbel hnil
                            go_wp2
                            go_roundw
                            case rel => exact ⟨q + 1, g2, cap2, env ++ [(1 : Int)], by omega, by go_num, rfl, HPN.out, HW.out, HB1.out⟩
                            case measure => simp [intOf]; omega
                    · obtain rfl : q = 5 := by omega
                      have HSG := Lib.hid (sgR_of' HRA.out HPT.out)
                      have HEV := Lib.hid HPT.out.env.1
                      have oaw := at_below' oa5 hbel
                      have obw := at_below' ob5 hbel
                      go_wp2_with fail
                      refine (implResidEval_any wr wr.heap.size _ L c1 la _ 5 cap env (Nat.le_refl _) (at_reads oaw) (by omega) ca (OwnI.reads hown) (by omega)).mono ?_
                      rintro e v1 ⟨rfl, hv1⟩
                      rw [rev_form HO1.out HSG.out]
                      have obv := at_below' obw hv1
                      have oev := own_below' hown hv1
                      have hbv := hbel.trans (hv1.mono hszr)
                      have sv1 := hbv.size
                      clear hv1 oaw obw hown
                      go_wp2_with fail
                      refine (implResidEval_any v1 v1.heap.size _ M c2 lb _ 5 cap env (Nat.le_refl _) (at_reads obv) (by omega) cb (OwnI.reads oev) (by omega)).mono ?_
                      rintro e v2 ⟨rfl, hv2⟩
                      rw [rev_form HO2.out HSG.out]
                      have HBV := Lib.hid (hbv.trans (hv2.mono sv1))
                      clear hv2 obv oev hbv
                      have hle := Nm.rle_value HEV.out HK2.out HFIT.out
                      generalize Nm.value env la = x at hle ⊢
                      generalize Nm.value env lb = y at hle ⊢
                      have hxy : ¬ y < x := by omega
                      clear hle hbel
                      go_wp2
                      go_roundw
                      case rel => exact ⟨p + 1, by omega, by omega, by go_num, HBV.out⟩
                      case measure => simp [intOf]; omega
                · obtain rfl : p = 5 := by omega
                  have HBd := Lib.hid (hB5.trans (hbel2.mono s5))
                  clear hbel2
                  go_wp2
                  go_ret
                  exact ⟨rfl, HBd.out⟩
    | false =>
      have HY := Lib.hid hY
      clear hY
      go_wp2_with fail
      refine (specResidLe_any w2 w2.heap.size A1 L c1 la A2 M c2 lb s (Nat.le_refl _) (at_reads oa2) (by omega) (at_reads ob2) (by omega)).mono ?_
      rintro e w3 ⟨rfl, hb3⟩
      rw [HY.out]
      have hB3 := hB2.trans (hb3.mono s2)
      have s3 := hB3.size
      have oa3 := at_below' oa2 hb3
      have ob3 := at_below' ob2 hb3
      clear oa2 ob2 hb3
      go_wp2_with fail
      refine (specResidOk_any w3 w3.heap.size A1 L c1 la s (Nat.le_refl _) (at_reads oa3) (by omega)).mono ?_
      rintro e w4 ⟨rfl, hb4⟩
      have hB4 := hB3.trans (hb4.mono s3)
      have s4 := hB4.size
      have oa4 := at_below' oa3 hb4
      have ob4 := at_below' ob3 hb4
      clear oa3 ob3 hb4
      cases h1 : Nm.residOk s la with
      | false =>
        clear h1
        go_wp2_with fail
        refine (specResidLe_any w4 w4.heap.size A1 L c1 la A2 M c2 lb s (Nat.le_refl _) (at_reads oa4) (by omega) (at_reads ob4) (by omega)).mono ?_
        rintro e w5 ⟨rfl, hb5⟩
        rw [HY.out]
        have HBZ := Lib.hid (hB4.trans (hb5.mono s4))
        clear hb5
        go_wp2
        go_ret
        exact ⟨rfl, HBZ.out⟩
      | true =>
        have HO1 := Lib.hid h1
        clear h1
        go_wp2_with fail
        refine (specResidOk_any w4 w4.heap.size A2 M c2 lb s (Nat.le_refl _) (at_reads ob4) (by omega)).mono ?_
        rintro e w5 ⟨rfl, hb5⟩
        have hB5 := hB4.trans (hb5.mono s4)
        have s5 := hB5.size
        have oa5 := at_below' oa4 hb5
        have ob5 := at_below' ob4 hb5
        clear oa4 ob4 hb5
        cases h2 : Nm.residOk s lb with
        | false =>
          clear h2
          go_wp2_with fail
          refine (specResidLe_any w5 w5.heap.size A1 L c1 la A2 M c2 lb s (Nat.le_refl _) (at_reads oa5) (by omega) (at_reads ob5) (by omega)).mono ?_
          rintro e w6 ⟨rfl, hb6⟩
          rw [HY.out]
          have HBZ := Lib.hid (hB5.trans (hb6.mono s5))
          clear hb6
          go_wp2
          go_ret
          exact ⟨rfl, HBZ.out⟩
        | true =>
          have HO2 := Lib.hid h2
          clear h2
          have ok1 := (Nm.residOk_iff s la).1 HO1.out
          have ok2 := (Nm.residOk_iff s lb).1 HO2.out
          have HNL : Hid (¬ ∀ k, k < la.length → Nm.ratomLe (la.getD k (0, 0)) lb) := fun h => by have h2 := (Nm.residLe_iff s la lb).2 ⟨ok1, ok2, h⟩; rw [HY.out] at h2; cases h2
          have HRA := Lib.hid ok1
          have HK2 := Lib.hid ok2
          have HCL0 : Hid ((tokCells la).length = L * 2) := by show _ = _; rw [tokCells_len, hL]
          have HCL1 : Hid ((tokCells lb).length = M * 2) := by show _ = _; rw [tokCells_len, hM]
          have HLL := Lib.hid hL
          have HLM := Lib.hid hM
          obtain ⟨q0, rfl, hq0⟩ := (at_reads oa5).tokA (by omega)
          obtain ⟨q1, rfl, hq1⟩ := (at_reads ob5).tokA (by omega)
          have HQ0 := Lib.hid hq0
          have HQ1 := Lib.hid hq1
          clear hq0 hq1 ok1 ok2 hL hM
          go_wp2
          go_loopw [7] (fun i wr => ∃ k : Nat, k ≤ L + M ∧ i = .int .i64 k ∧ (∀ j, j < k → ((la ++ lb).getD j (0, 0)).2 ≤ 500) ∧ Below w5.heap.size w5 wr) (fun i _ => L + M - (intOf i).toNat)
          case atStart => exact ⟨0, Nat.zero_le _, rfl, (fun j hj => absurd hj (by omega)), Below.refl _ _⟩
          case round =>
            obtain ⟨k, hk, rfl, h5, hbel⟩ := hrel
            have H5 := Lib.hid h5
            clear h5
            have hsr := hbel.size
            by_cases hlt2 : k < L + M
            · have hki : (k : Int) < (L : Int) + (M : Int) := by omega
              obtain ⟨u, hu⟩ : ∃ u, ((la ++ lb).getD k (0, 0)).2 = u := ⟨_, rfl⟩
              have HU := Lib.hid hu
              clear hu
              have ho0 : OwnA (wr.alloc (.cells #[] 30)) w5.heap.size (some ⟨wr.heap.size, 0, none⟩) 0 0 [] := World.ownsRow_made wr #[] 0 hsr (by simp [maxLen]) (by simp)
              have hba : Below w5.heap.size w5 (wr.alloc (.cells #[] 30)) := hbel.alloc hsr _
              clear hbel
              by_cases hu5 : 500 < u
              · go_wp2_with (at_builtin; first
                  | (refine wpList_append_own _ rfl (.tmp 61) (.tmp 62) 24 rfl w5.heap.size 30 i0 (.agg #[.int .i64 0, .int .i64 0]) 2 16 Try.underlying24 hi hz0 hz1 hz2 rfl (by decide) (.slice (some ⟨wr.heap.size, 0, none⟩) 0 0) 0 (tokCells []) rfl ho0 q0 L c1 (tokCells la) rfl HCL0.out (HQ0.out.below hba).2 (tokCells_one la) (by unfold maxLen; omega) (by omega) (by simp; omega) ?_
                     intro v' w3 hown' hgrow hnil
                     obtain ⟨g', cap', rfl⟩ : ∃ g' cap', v' = .slice (some ⟨g', 0, none⟩) L cap' := by
                       rcases hown'.2 with ⟨h0, _⟩ | ⟨g', cap', _, h0, _⟩
                       · have := (hnil.1 h0).1
                         cases this
                       · rw [Nat.zero_add] at h0; exact ⟨g', cap', h0⟩
                     have hb3 : Below w5.heap.size w5 w3 := hba.grown hgrow (by simp; omega) (fun k h => by have h' : wr.heap.size = k := (by simpa [Value.ownBlock] using h); omega)
                     have ho3 : OwnA w3 w5.heap.size (some ⟨g', 0, none⟩) L cap' la := by
                       have h := hown'
                       rw [tokCells_nil, List.nil_append, Nat.zero_add] at h
                       exact h
                     have hz3 := hb3.size
                     clear hown' hgrow hnil ho0 hba)
                  | (refine wpList_append_own _ rfl (.tmp 63) (.tmp 64) 24 rfl w5.heap.size 30 i0 (.agg #[.int .i64 0, .int .i64 0]) 2 16 Try.underlying24 hi hz0 hz1 hz2 rfl (by decide) (.slice (some ⟨g', 0, none⟩) L cap') L (tokCells la) rfl ho3 q1 M c2 (tokCells lb) rfl HCL1.out (HQ1.out.below hb3).2 (tokCells_one lb) (by unfold maxLen; omega) (by omega) (by omega) ?_
                     intro v' w4 hown' hgrow hnil
                     obtain ⟨g2, cap2, rfl⟩ : ∃ g' cap', v' = .slice (some ⟨g', 0, none⟩) (L + M) cap' := by
                       rcases hown'.2 with ⟨h0, _⟩ | ⟨g', cap', _, h0, _⟩
                       · have := (hnil.1 h0).1
                         cases this
                       · exact ⟨g', cap', h0⟩
                     have HB4 : Hid (Below w5.heap.size w5 w4) := hb3.grown hgrow (by omega) (fun k h => (ho3.lt k h).1)
                     have e4 : w4.cell? ⟨g2, k * 2 + 1, none⟩ = some (.int .i64 u) := by
                       have ho4 : OwnA w4 w5.heap.size (some ⟨g2, 0, none⟩) (L + M) cap2 (la ++ lb) := by
                         unfold OwnA
                         rw [tokCells_append]
                         exact hown'
                       obtain ⟨b, off, hbo, _, hc⟩ := (OwnA.reads ho4).2 (by omega)
                       injection hbo with hbo
                       injection hbo with hbo1 hbo2
                       subst hbo1; subst hbo2
                       have h2 := (hc k hlt2).2
                       rw [HU.out, Nat.zero_add] at h2
                       exact h2
                     clear hown' hgrow hnil ho3 hb3))
                go_wp2
                go_ret
                exact ⟨rfl, hB5.trans (HB4.out.mono s5)⟩
              · go_wp2_with (at_builtin; first
                  | (refine wpList_append_own _ rfl (.tmp 61) (.tmp 62) 24 rfl w5.heap.size 30 i0 (.agg #[.int .i64 0, .int .i64 0]) 2 16 Try.underlying24 hi hz0 hz1 hz2 rfl (by decide) (.slice (some ⟨wr.heap.size, 0, none⟩) 0 0) 0 (tokCells []) rfl ho0 q0 L c1 (tokCells la) rfl HCL0.out (HQ0.out.below hba).2 (tokCells_one la) (by unfold maxLen; omega) (by omega) (by simp; omega) ?_
                     intro v' w3 hown' hgrow hnil
                     obtain ⟨g', cap', rfl⟩ : ∃ g' cap', v' = .slice (some ⟨g', 0, none⟩) L cap' := by
                       rcases hown'.2 with ⟨h0, _⟩ | ⟨g', cap', _, h0, _⟩
                       · have := (hnil.1 h0).1
                         cases this
                       · rw [Nat.zero_add] at h0; exact ⟨g', cap', h0⟩
                     have hb3 : Below w5.heap.size w5 w3 := hba.grown hgrow (by simp; omega) (fun k h => by have h' : wr.heap.size = k := (by simpa [Value.ownBlock] using h); omega)
                     have ho3 : OwnA w3 w5.heap.size (some ⟨g', 0, none⟩) L cap' la := by
                       have h := hown'
                       rw [tokCells_nil, List.nil_append, Nat.zero_add] at h
                       exact h
                     have hz3 := hb3.size
                     clear hown' hgrow hnil ho0 hba)
                  | (refine wpList_append_own _ rfl (.tmp 63) (.tmp 64) 24 rfl w5.heap.size 30 i0 (.agg #[.int .i64 0, .int .i64 0]) 2 16 Try.underlying24 hi hz0 hz1 hz2 rfl (by decide) (.slice (some ⟨g', 0, none⟩) L cap') L (tokCells la) rfl ho3 q1 M c2 (tokCells lb) rfl HCL1.out (HQ1.out.below hb3).2 (tokCells_one lb) (by unfold maxLen; omega) (by omega) (by omega) ?_
                     intro v' w4 hown' hgrow hnil
                     obtain ⟨g2, cap2, rfl⟩ : ∃ g' cap', v' = .slice (some ⟨g', 0, none⟩) (L + M) cap' := by
                       rcases hown'.2 with ⟨h0, _⟩ | ⟨g', cap', _, h0, _⟩
                       · have := (hnil.1 h0).1
                         cases this
                       · exact ⟨g', cap', h0⟩
                     have HB4 : Hid (Below w5.heap.size w5 w4) := hb3.grown hgrow (by omega) (fun k h => (ho3.lt k h).1)
                     have e4 : w4.cell? ⟨g2, k * 2 + 1, none⟩ = some (.int .i64 u) := by
                       have ho4 : OwnA w4 w5.heap.size (some ⟨g2, 0, none⟩) (L + M) cap2 (la ++ lb) := by
                         unfold OwnA
                         rw [tokCells_append]
                         exact hown'
                       obtain ⟨b, off, hbo, _, hc⟩ := (OwnA.reads ho4).2 (by omega)
                       injection hbo with hbo
                       injection hbo with hbo1 hbo2
                       subst hbo1; subst hbo2
                       have h2 := (hc k hlt2).2
                       rw [HU.out, Nat.zero_add] at h2
                       exact h2
                     clear hown' hgrow hnil ho3 hb3))
                go_wp2
                go_roundw
                case rel =>
                  refine ⟨k + 1, by omega, by go_num, fun j hj => ?_, HB4.out⟩
                  by_cases e : j = k
                  · subst e; rw [HU.out]; omega
                  · exact H5.out j (by omega)
                case measure => simp [intOf]; omega
            · have hkk : ¬ (k : Int) < (L : Int) + (M : Int) := by omega
              have HALL := Lib.hid (all500' (la := la) (lb := lb) (fun j hj => H5.out j (by rw [HLL.out, HLM.out] at hj; omega)))
              clear hlt2 hk
              have HBL := Lib.hid hbel
              clear hbel
              go_wp2
              go_loopw [8] (fun i wr => ∃ p : Int, -1 ≤ p ∧ p ≤ 5 ∧ i = .int .i64 p ∧ (∀ q : Int, -1 ≤ q → q < p → ¬ Nm.value (Nm.rpeak s q) lb < Nm.value (Nm.rpeak s q) la) ∧ Below w5.heap.size w5 wr) (fun i _ => (5 - intOf i).toNat)
              case atStart => exact ⟨-1, by omega, by omega, rfl, fun q h1 h2 => absurd h1 (by omega), HBL.out⟩
              case round =>
                obtain ⟨p, hp1, hp5, rfl, hqq, hbel2⟩ := hrel
                have HQ := Lib.hid hqq
                clear hqq
                clear HBL
                have hs2 := hbel2.size
                by_cases hp : p < 5
                · have ho0 : OwnI (wr.alloc (.cells #[] 3)) w5.heap.size (some ⟨wr.heap.size, 0, none⟩) 0 0 [] := World.ownsRow_made wr #[] 0 hs2 (by simp [maxLen]) (by simp)
                  have HO0 := Lib.hid ho0
                  have HB0 := Lib.hid (hbel2.alloc hs2 (.cells #[] 3))
                  clear ho0 hbel2
                  go_wp2
                  go_loopw [9, 10] (fun v i wr => ∃ (q g cap : Nat) (env : List Int), q ≤ 5 ∧ i = .int .i64 q ∧ v = .slice (some ⟨g, 0, none⟩) q cap ∧ Hid (Nm.Part s p false q env) ∧ OwnI wr w5.heap.size (some ⟨g, 0, none⟩) q cap env ∧ Below w5.heap.size w5 wr) (fun _ i _ => 5 - (intOf i).toNat)
                  case atStart => exact ⟨0, _, 0, [], by omega, rfl, rfl, Nm.Part.nil _ _ _, HO0.out, HB0.out⟩
                  case round =>
                    rename_i wo
                    obtain ⟨q, g, cap, env, hq, rfl, rfl, HPT, hown, hbel⟩ := hrel
                    have hszr := hbel.size
                    by_cases hq5 : q < 5
                    · have hq5' : (q : Int) < 5 := by omega
                      go_wp2_with fail
                      refine (implSignHas_any wr s q).mono ?_
                      rintro e wx ⟨rfl, rfl⟩
                      cases hh : Sg.has s q with
                      | false =>
                        have HPN := Lib.hid (Nm.Part.snoc HPT.out 0 (fun h => by rw [hh] at h; cases h) (fun _ => rfl) (fun _ => by rw [Nm.rpeak_get _ _ _ hq5, if_neg (by rw [hh]; decide)]))
                        clear hh
                        go_wp2_with (at_builtin; refine wpList_append_own _ rfl (.tmp 102) (.tmp 104) 31 rfl w5.heap.size 3 j0 (.int .i64 0) 1 8 Try.underlying31 hj hy0 hy1 hy2 rfl (by decide) (.slice (some ⟨g, 0, none⟩) q cap) q (env.map (Value.int .i64)) rfl (hown.alloc _) ⟨wx.heap.size, 0, none⟩ 1 1 [.int .i64 0] rfl rfl (cell_one_new _ _ _) (fun u hu => by simp at hu; subst hu; rfl) (by unfold maxLen; omega) (by omega) (by simp; omega) ?_; intro v' w3 hown' hgrow hnil)
                        obtain ⟨g2, cap2, rfl⟩ : ∃ g' cap', v' = .slice (some ⟨g', 0, none⟩) (q + 1) cap' := by
                          rcases hown'.2 with ⟨h0, _⟩ | ⟨g', cap', _, h0, _⟩
                          · have := (hnil.1 h0).1
                            cases this
                          · exact ⟨g', cap', h0⟩
                        have HB1 : Hid (Below w5.heap.size w5 w3) := (hbel.alloc hszr _).grown hgrow (by simp; omega) (fun k h => (hown.lt k h).1)
                        have HW : Hid (OwnI w3 w5.heap.size (some ⟨g2, 0, none⟩) (q + 1) cap2 (env ++ [(0 : Int)])) := by
                          show OwnI _ _ _ _ _ _
                          simpa [OwnI] using hown'
                        clear hown hown' hgrow hbel hnil
                        go_wp2
                        go_roundw
                        case rel => exact ⟨q + 1, g2, cap2, env ++ [(0 : Int)], by omega, by go_num, rfl, HPN.out, HW.out, HB1.out⟩
                        case measure => simp [intOf]; omega
                      | true =>
                        by_cases epq : p = (q : Int)
                        · have HPN := Lib.hid (Nm.Part.snoc HPT.out 1000 (fun _ => by omega) (fun h => by rw [hh] at h; cases h) (fun _ => by rw [Nm.rpeak_get _ _ _ hq5, if_pos hh, if_pos epq.symm]))
                          subst epq
                          clear hh
                          go_wp2_with (at_builtin; refine wpList_append_own _ rfl (.tmp 102) (.tmp 104) 31 rfl w5.heap.size 3 j0 (.int .i64 0) 1 8 Try.underlying31 hj hy0 hy1 hy2 rfl (by decide) (.slice (some ⟨g, 0, none⟩) q cap) q (env.map (Value.int .i64)) rfl (hown.alloc _) ⟨wx.heap.size, 0, none⟩ 1 1 [.int .i64 1000] rfl rfl (cell_one_new _ _ _) (fun u hu => by simp at hu; subst hu; rfl) (by unfold maxLen; omega) (by omega) (by simp; omega) ?_; intro v' w3 hown' hgrow hnil)
                          obtain ⟨g2, cap2, rfl⟩ : ∃ g' cap', v' = .slice (some ⟨g', 0, none⟩) (q + 1) cap' := by
                            rcases hown'.2 with ⟨h0, _⟩ | ⟨g', cap', _, h0, _⟩
                            · have := (hnil.1 h0).1
                              cases this
                            · exact ⟨g', cap', h0⟩
                          have HB1 : Hid (Below w5.heap.size w5 w3) := (hbel.alloc hszr _).grown hgrow (by simp; omega) (fun k h => (hown.lt k h).1)
                          have HW : Hid (OwnI w3 w5.heap.size (some ⟨g2, 0, none⟩) (q + 1) cap2 (env ++ [(1000 : Int)])) := by
                            show OwnI _ _ _ _ _ _
                            simpa [OwnI] using hown'
                          clear hown hown' hgrow hbel hnil
                          go_wp2
                          go_roundw
                          case rel => exact ⟨q + 1, g2, cap2, env ++ [(1000 : Int)], by omega, by go_num, rfl, HPN.out, HW.out, HB1.out⟩
                          case measure => simp [intOf]; omega
                        · have d1 : (p == (q : Int)) = false := by simpa using epq
                          by_cases em : p = -1
                          · subst em
                            have HPN := Lib.hid (Nm.Part.snoc HPT.out 1 (fun _ => by omega) (fun h => by rw [hh] at h; cases h) (fun _ => by rw [Nm.rpeak_get _ _ _ hq5, if_pos hh, if_neg (fun e => epq e.symm)]))
                            have hpk := lawPick_any wx B A n c q 2 (hb.below ((hB5.trans (hbel.mono s5)).mono hB)) hn (by omega) (by omega)
                            have HPK := Lib.hid hpk
                            clear hpk epq
                            go_wp2_with fail
                            refine HPK.out.mono ?_
                            rintro e w1 ⟨r, rfl, hr, hw1⟩
                            subst hw1
                            clear HPK
                            by_cases r0 : r = 0
                            · subst r0
                              clear hh hr
                              go_wp2_with (at_builtin; refine wpList_append_own _ rfl (.tmp 102) (.tmp 104) 31 rfl w5.heap.size 3 j0 (.int .i64 0) 1 8 Try.underlying31 hj hy0 hy1 hy2 rfl (by decide) (.slice (some ⟨g, 0, none⟩) q cap) q (env.map (Value.int .i64)) rfl (hown.alloc _) ⟨wx.heap.size, 0, none⟩ 1 1 [.int .i64 1] rfl rfl (cell_one_new _ _ _) (fun u hu => by simp at hu; subst hu; rfl) (by unfold maxLen; omega) (by omega) (by simp; omega) ?_; intro v' w3 hown' hgrow hnil)
                              obtain ⟨g2, cap2, rfl⟩ : ∃ g' cap', v' = .slice (some ⟨g', 0, none⟩) (q + 1) cap' := by
                                rcases hown'.2 with ⟨h0, _⟩ | ⟨g', cap', _, h0, _⟩
                                · have := (hnil.1 h0).1
                                  cases this
                                · exact ⟨g', cap', h0⟩
                              have HB1 : Hid (Below w5.heap.size w5 w3) := (hbel.alloc hszr _).grown hgrow (by simp; omega) (fun k h => (hown.lt k h).1)
                              have HW : Hid (OwnI w3 w5.heap.size (some ⟨g2, 0, none⟩) (q + 1) cap2 (env ++ [(1 : Int)])) := by
                                show OwnI _ _ _ _ _ _
                                simpa [OwnI] using hown'
                              clear hown hown' hgrow hbel hnil
                              go_wp2
                              go_roundw
                              case rel => exact ⟨q + 1, g2, cap2, env ++ [(1 : Int)], by omega, by go_num, rfl, HPN.out, HW.out, HB1.out⟩
                              case measure => simp [intOf]; omega
                            · have d2 : ((r : Int) == 0) = false := by simp; omega
                              clear hh hr r0
                              go_wp2_with (at_builtin; refine wpList_append_own _ rfl (.tmp 102) (.tmp 104) 31 rfl w5.heap.size 3 j0 (.int .i64 0) 1 8 Try.underlying31 hj hy0 hy1 hy2 rfl (by decide) (.slice (some ⟨g, 0, none⟩) q cap) q (env.map (Value.int .i64)) rfl (hown.alloc _) ⟨wx.heap.size, 0, none⟩ 1 1 [.int .i64 1] rfl rfl (cell_one_new _ _ _) (fun u hu => by simp at hu; subst hu; rfl) (by unfold maxLen; omega) (by omega) (by simp; omega) ?_; intro v' w3 hown' hgrow hnil)
                              obtain ⟨g2, cap2, rfl⟩ : ∃ g' cap', v' = .slice (some ⟨g', 0, none⟩) (q + 1) cap' := by
                                rcases hown'.2 with ⟨h0, _⟩ | ⟨g', cap', _, h0, _⟩
                                · have := (hnil.1 h0).1
                                  cases this
                                · exact ⟨g', cap', h0⟩
                              have HB1 : Hid (Below w5.heap.size w5 w3) := (hbel.alloc hszr _).grown hgrow (by simp; omega) (fun k h => (hown.lt k h).1)
                              have HW : Hid (OwnI w3 w5.heap.size (some ⟨g2, 0, none⟩) (q + 1) cap2 (env ++ [(1 : Int)])) := by
                                show OwnI _ _ _ _ _ _
                                simpa [OwnI] using hown'
                              clear hown hown' hgrow hbel hnil
                              go_wp2
                              go_roundw
                              case rel => exact ⟨q + 1, g2, cap2, env ++ [(1 : Int)], by omega, by go_num, rfl, HPN.out, HW.out, HB1.out⟩
                              case measure => simp [intOf]; omega
                          · have d3 : (p == -1) = false := by simpa using em
                            have HPN := Lib.hid (Nm.Part.snoc HPT.out 1 (fun _ => by omega) (fun h => by rw [hh] at h; cases h) (fun _ => by rw [Nm.rpeak_get _ _ _ hq5, if_pos hh, if_neg (fun e => epq e.symm)]))
                            clear hh em epq
                            go_wp2_with (at_builtin; refine wpList_append_own _ rfl (.tmp 102) (.tmp 104) 31 rfl w5.heap.size 3 j0 (.int .i64 0) 1 8 Try.underlying31 hj hy0 hy1 hy2 rfl (by decide) (.slice (some ⟨g, 0, none⟩) q cap) q (env.map (Value.int .i64)) rfl (hown.alloc _) ⟨wx.heap.size, 0, none⟩ 1 1 [.int .i64 1] rfl rfl (cell_one_new _ _ _) (fun u hu => by simp at hu; subst hu; rfl) (by unfold maxLen; omega) (by omega) (by simp; omega) ?_; intro v' w3 hown' hgrow hnil)
                            obtain ⟨g2, cap2, rfl⟩ : ∃ g' cap', v' = .slice (some ⟨g', 0, none⟩) (q + 1) cap' := by
                              rcases hown'.2 with ⟨h0, _⟩ | ⟨g', cap', _, h0, _⟩
                              · have := (hnil.1 h0).1
                                cases this
                              · exact ⟨g', cap', h0⟩
                            have HB1 : Hid (Below w5.heap.size w5 w3) := (hbel.alloc hszr _).grown hgrow (by simp; omega) (fun k h => (hown.lt k h).1)
                            have HW : Hid (OwnI w3 w5.heap.size (some ⟨g2, 0, none⟩) (q + 1) cap2 (env ++ [(1 : Int)])) := by
                              show OwnI _ _ _ _ _ _
                              simpa [OwnI] using hown'
                            clear hown hown' hgrow hbel hnil
                            go_wp2
                            go_roundw
                            case rel => exact ⟨q + 1, g2, cap2, env ++ [(1 : Int)], by omega, by go_num, rfl, HPN.out, HW.out, HB1.out⟩
                            case measure => simp [intOf]; omega
                    · obtain rfl : q = 5 := by omega
                      have HSG := Lib.hid (sgR_of' HRA.out HPT.out)
                      have HEV := Lib.hid HPT.out.env.1
                      have HPE := Lib.hid (Nm.Part.peak HPT.out)
                      have oaw := at_below' oa5 hbel
                      have obw := at_below' ob5 hbel
                      go_wp2_with fail
                      refine (implResidEval_any wr wr.heap.size _ L c1 la _ 5 cap env (Nat.le_refl _) (at_reads oaw) (by omega) ca (OwnI.reads hown) (by omega)).mono ?_
                      rintro e v1 ⟨rfl, hv1⟩
                      rw [rev_form HO1.out HSG.out]
                      have obv := at_below' obw hv1
                      have oev := own_below' hown hv1
                      have hbv := hbel.trans (hv1.mono hszr)
                      have sv1 := hbv.size
                      clear hv1 oaw obw hown
                      go_wp2_with fail
                      refine (implResidEval_any v1 v1.heap.size _ M c2 lb _ 5 cap env (Nat.le_refl _) (at_reads obv) (by omega) cb (OwnI.reads oev) (by omega)).mono ?_
                      rintro e v2 ⟨rfl, hv2⟩
                      rw [rev_form HO2.out HSG.out]
                      have HBV := Lib.hid (hbv.trans (hv2.mono sv1))
                      clear hv2 obv oev hbv
                      by_cases hv : Nm.value env lb < Nm.value env la
                      · generalize Nm.value env la = x at hv ⊢
                        generalize Nm.value env lb = y at hv ⊢
                        have HBd := Lib.hid (hB5.trans (HBV.out.mono s5))
                        clear hbel
                        go_wp2
                        go_ret
                        exact ⟨rfl, HBd.out⟩
                      · have HV := Lib.hid hv
                        rw [HPE.out] at HV
                        generalize Nm.value env la = x at hv ⊢
                        generalize Nm.value env lb = y at hv ⊢
                        clear hbel
                        go_wp2
                        go_roundw
                        case rel =>
                          refine ⟨p + 1, by omega, by omega, by go_num, fun q h1 h2 => ?_, HBV.out⟩
                          by_cases e : q = p
                          · subst e; exact Int.not_lt.2 HV.out
                          · exact Int.not_lt.2 (HQ.out q h1 (by omega))
                        case measure => simp [intOf]; omega
                · exfalso
                  obtain rfl : p = 5 := by omega
                  obtain ⟨q, h1, h2, h3⟩ := Nm.not_rle HRA.out HK2.out HNL.out HALL.out
                  exact HQ.out q h1 h2 h3
end Go.Proofs.Ytijiohdddfdjfaa
