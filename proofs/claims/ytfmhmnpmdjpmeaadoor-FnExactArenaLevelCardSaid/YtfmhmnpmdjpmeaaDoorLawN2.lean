/- ArenaLevel of the model: l08Toks calls itself. -/
/- The laws' marks upon slices of nodes. -/
import Derived.Test.YtfmhmnpmdjpmeaaDoorApMath
import Derived.Test.YtfmhmnpmdjpmeaaDoorNdKeep
import Derived.Test.YtfmhmnpmdjpmeaaDoorApI
import Derived.Test.YtfmhmnpmdjpmeaaDoorSpec
import Derived.Test.YtfmhmnpmdjpmeaaDoorMeth
import Derived.Test.YtfmhmnpmdjpmeaaDoorEvalLaw
import Derived.Test.YtfmhmnpmdjpmeaaDoorRegInv

namespace Go.Proofs.YtfmhmnpmdjpmeaaDoor
open Go.RowKit

def TkOut (w : World) (f : Tks) (most : Int) (e : Ending) (w' : World) : Prop :=
  ∃ A c t, e = .returned (.tuple #[.slice A t.length c, .bool (decide ((f.length : Int) ≤ most))]) ∧ OwnT w' w.heap.size A t.length c t ∧ Below w.heap.size w w' ∧ ((f.length : Int) ≤ most → t = f)
theorem tkOut_no {w w' : World} {f : Tks} {most : Int} (hm : most < (f.length : Int)) (hb : Below w.heap.size w w') : TkOut w f most (.returned (.tuple #[.slice none 0 0, .bool false])) w' :=
  ⟨none, 0, [], by rw [decide_eq_false (by omega)]; rfl, World.ownsRow_nil _ _ _ _, hb, fun x => absurd x (by omega)⟩

set_option maxRecDepth 100000 in
set_option maxHeartbeats 8000000 in
theorem l08Toks_any (B : Nat) (A : Option Addr) (n c : Nat) (l : List Nd) (hall : NdAll l n) (hn : n ≤ 200) : ∀ (m i : Nat) (w : World) (most : Int), i < m → i < n → 0 ≤ most → most ≤ 24 → B ≤ w.heap.size → NodR w B A n l →
    Calls Tryd.prog 62 #[.slice A n c, .int .i64 (i : Int), .int .i64 most] w (TkOut w (flN l i) most)
  | 0, _, _, _, h, _, _, _, _, _ => absurd h (by omega)
  | m + 1, i, w, most, him, hin, hm0, hm24, hB, hl => by
    have hok := (hall i hin).1
    obtain ⟨b, off, rfl, hb, hc⟩ := hl.2 (by omega)
    obtain ⟨x1, x2, x3, x4⟩ := hc i hin
    obtain ⟨t, ht⟩ : ∃ t, l.getD i nd0 = t := ⟨_, rfl⟩
    have hfl := flN_eq l i
    rw [ht] at x1 x2 x3 x4 hok hfl
    obtain ⟨o, u, a, z⟩ := t
    simp only at hfl
    obtain ⟨Wx, hW⟩ : ∃ X, w.alloc (.cells #[.int .i64 o, .int .i64 u, .int .i64 a, .int .i64 z] 72) = X := ⟨_, rfl⟩
    have hbx : Blk Wx w.heap.size 72 #[.int .i64 o, .int .i64 u, .int .i64 a, .int .i64 z] := by rw [← hW]; exact Blk.made _ _ _
    have hbw : Below w.heap.size w Wx := by rw [← hW]; exact (Below.refl _ _).alloc (Nat.le_refl _) _
    have hlx : w.heap.size < Wx.heap.size := hbx.lt
    obtain ⟨W2, hW2⟩ : ∃ X, Wx.alloc (.cells #[] 70) = X := ⟨_, rfl⟩
    have hb2 : Below Wx.heap.size Wx W2 := by rw [← hW2]; exact (Below.refl _ _).alloc (Nat.le_refl _) _
    have HO2 : Hid (OwnT W2 w.heap.size (some ⟨Wx.heap.size, 0, none⟩) 0 0 []) := by
      show OwnT _ _ _ _ _ _
      rw [← hW2]
      exact World.ownsRow_made Wx #[] 0 (by omega) (by simp [maxLen]) (by simp)
    have HBX : Hid (Blk W2 w.heap.size 72 #[.int .i64 o, .int .i64 u, .int .i64 a, .int .i64 z]) := hbx.below hb2 hlx
    have HB2 : Hid (Below w.heap.size w W2) := hbw.trans (hb2.mono (by omega))
    have hs2 : w.heap.size ≤ W2.heap.size := HB2.out.size
    have q0 := hbx.cell 0
    have q1 := hbx.cell 1
    have q2 := hbx.cell 2
    have q3 := hbx.cell 3
    simp at q0 q1 q2 q3
    have hb2x := HBX.out
    have y0 := hb2x.cell 0
    have y1 := hb2x.cell 1
    have y2 := hb2x.cell 2
    have y3 := hb2x.cell 3
    simp at y0 y1 y2 y3
    have HL := Lib.hid hl
    have HALL := Lib.hid hall
    obtain ⟨i0, hi, hz0, hz1, hz2⟩ := info_parts info_tok
    have hcases := lvlT_cases (vals := flR l i) hok
    have hnd := ndOk_cases hok
    clear hbx hbw hb2 hb2x hc ht hok hl
    rcases hcases with ⟨ho, e1, htk⟩ | ⟨rfl, rfl, hzk, e1⟩ | ⟨ho, rfl, hak, hzk, e1⟩
    · have hax : a = -1 ∧ z = -1 := by omega
      obtain ⟨rfl, rfl⟩ := hax
      rw [e1] at hfl
      have HF := Lib.hid hfl
      have hown := HO2.out
      clear e1 hfl hnd ho htk
      go_enter Tryd.func62, Tryd.ntmps62
      go_wp2_with (at_builtin; first
        | (refine wpList_append_own _ rfl (.tmp 54) (.tmp 60) 30 rfl w.heap.size 70 i0 (.agg #[.int .i64 0, .int .i64 0]) 2 16 Tryd.underlying30 hi hz0 hz1 hz2 rfl (by decide) (.slice (some ⟨Wx.heap.size, 0, none⟩) 0 0) 0 (tokCells []) rfl (World.ownsRow.alloc hown _) ⟨W2.heap.size, 0, none⟩ 1 1 (tokCells [(o, u)]) rfl rfl (Blk.tokA2 W2 o u) (tokCells_one _) (by unfold maxLen; omega) (by omega) (by simp; omega) ?_
           intro v7 w7 hown7 hgrow7 _
           obtain ⟨A7, c7, rfl⟩ := tks_more hown7))
      go_ret2
      refine ⟨A7, c7, [(o, u)], ?_, ?_, (HB2.out.alloc hs2 _).grown hgrow7 (by simp; omega) (fun k h => (hown.lt k h).1), fun _ => HF.out.symm⟩
      · rw [HF.out]; rfl
      · exact hown7
    · have hax : a = -1 ∧ 0 ≤ z ∧ z < i := by omega
      obtain ⟨rfl, hz0', hz1'⟩ := hax
      obtain ⟨r, rfl⟩ : ∃ r : Nat, z = r := ⟨z.toNat, by omega⟩
      rw [Int.toNat_natCast] at e1 hzk
      rw [flR_get l r i hzk] at e1
      rw [e1] at hfl
      have HF := Lib.hid hfl
      have hsub : most - 0 = most := by omega
      clear e1 hfl hnd hz0' hz1'
      go_enter Tryd.func62, Tryd.ntmps62
      go_wp2_with fail
      refine (l08Toks_any B (some ⟨b, off, none⟩) n c l HALL.out hn m r W2 most (by omega) (by omega) (by omega) (by omega) (by omega) (HL.out.below (HB2.out.mono hB))).mono ?_
      rintro e w3 ⟨A5, c5, t5, rfl, ho5, hb5, ht5⟩
      obtain ⟨F5, hF5⟩ : ∃ F, t5.length = F := ⟨_, rfl⟩
      rw [hF5] at ho5 ⊢
      have HB5 := Lib.hid (HB2.out.trans (hb5.mono (by omega)))
      have hs5 : w.heap.size ≤ w3.heap.size := HB5.out.size
      have hob5 := own_base ho5 (show w.heap.size ≤ W2.heap.size by omega)
      have HQ5 : Hid (OwnT w3 w.heap.size (some ⟨Wx.heap.size, 0, none⟩) 0 0 []) := own_below' HO2.out hb5
      have HX5 : Hid (Blk w3 w.heap.size 72 #[.int .i64 1, .int .i64 0, .int .i64 (-1), .int .i64 (r : Int)]) := HBX.out.below hb5 HBX.out.lt
      cases hd5 : decide (((flN l r).length : Int) ≤ most) with
      | false =>
        have hno := of_decide_eq_false hd5
        have HNO : Hid (most < ((flN l i).length : Int)) := by
          show _ < _
          rw [HF.out]
          simp only [List.length_append, List.length_cons, List.length_nil]
          omega
        clear hd5 hno ho5 hob5 hb5 ht5
        go_wp2
        go_ret2
        exact tkOut_no HNO.out HB5.out
      | true =>
        have hyes := of_decide_eq_true hd5
        have hte := ht5 hyes
        have HTE := Lib.hid hte
        have hge := (fl_lv HALL.out r (by omega)).2.1
        rw [← hte, hF5] at hyes hge
        have HF5 := Lib.hid hF5
        obtain ⟨g5, rfl⟩ : ∃ g, A5 = some ⟨g, 0, none⟩ := by
          rcases tks_nil ho5 with ⟨_, h, _⟩ | h
          · omega
          · exact h
        have news5 := tks_news ho5
        clear hd5 hte ht5 hob5 hb5
        have hown := HQ5.out
        go_wp2_with (at_builtin; first
          | (refine wpList_append_own _ rfl (.tmp 51) (.tmp 52) 30 rfl w.heap.size 70 i0 (.agg #[.int .i64 0, .int .i64 0]) 2 16 Tryd.underlying30 hi hz0 hz1 hz2 rfl (by decide) (.slice (some ⟨Wx.heap.size, 0, none⟩) 0 0) 0 (tokCells []) rfl hown ⟨g5, 0, none⟩ F5 c5 (tokCells t5) rfl (by rw [tokCells_len]; omega) news5 (tokCells_one _) (by unfold maxLen; omega) (by omega) hs5 ?_
             intro v6 w6 hown6 hgrow6 _
             rw [Nat.zero_add] at hown6
             obtain ⟨A6, c6, rfl⟩ := tks_more hown6
             have HX6 : Blk w6 w.heap.size 72 #[.int .i64 1, .int .i64 0, .int .i64 (-1), .int .i64 (r : Int)] := HX5.out.grown hgrow6 (fun x => own_apart hown HX5.out (by decide) x.symm)
             have hbq6 := HX6
             have y0 := hbq6.cell 0
             have y1 := hbq6.cell 1
             have y2 := hbq6.cell 2
             have y3 := hbq6.cell 3
             simp at y0 y1 y2 y3
             clear hbq6
             have HB6 : Below w.heap.size w w6 := HB5.out.grown hgrow6 hs5 (fun k h => (hown.lt k h).1)
             have hs6 : w.heap.size ≤ w6.heap.size := HB6.size)
          | (refine wpList_append_own _ rfl (.tmp 54) (.tmp 60) 30 rfl w.heap.size 70 i0 (.agg #[.int .i64 0, .int .i64 0]) 2 16 Tryd.underlying30 hi hz0 hz1 hz2 rfl (by decide) (.slice A6 F5 c6) F5 (tokCells t5) rfl (World.ownsRow.alloc (show OwnT w6 w.heap.size A6 F5 c6 t5 from by simpa [tokCells_nil] using hown6) _) ⟨w6.heap.size, 0, none⟩ 1 1 (tokCells [(1, 0)]) rfl rfl (Blk.tokA2 w6 1 0) (tokCells_one _) (by unfold maxLen; omega) (by omega) (by simp; omega) ?_
             intro v7 w7 hown7 hgrow7 _
             obtain ⟨A7, c7, rfl⟩ := tks_more hown7))
        go_ret2
        refine ⟨A7, c7, t5 ++ [(1, 0)], ?_, ?_, (HB6.alloc hs6 _).grown hgrow7 (by simp; omega) (fun k h => (hown6.lt k h).1), fun _ => by rw [HTE.out, HF.out]⟩
        · rw [HF.out, ← HTE.out, List.length_append, HF5.out]
          simp [go_sem]
        · show World.ownsRow _ _ _ _ _ _ _
          rw [tokCells_append, List.length_append, HF5.out]
          exact hown7
    · have hax : 0 ≤ a ∧ a < i ∧ 0 ≤ z ∧ z < i := by omega
      obtain ⟨ha0', ha1', hz0', hz1'⟩ := hax
      obtain ⟨r, rfl⟩ : ∃ r : Nat, z = r := ⟨z.toNat, by omega⟩
      obtain ⟨s, rfl⟩ : ∃ s : Nat, a = s := ⟨a.toNat, by omega⟩
      rw [Int.toNat_natCast] at hak hzk
      rw [Int.toNat_natCast, Int.toNat_natCast, flR_get l r i hzk, flR_get l s i hak] at e1
      rw [e1] at hfl
      have HF := Lib.hid hfl
      clear e1 hfl hnd ha0' ha1' hz0' hz1' ho
      go_enter Tryd.func62, Tryd.ntmps62
      go_wp2_with fail
      refine (l08Toks_any B (some ⟨b, off, none⟩) n c l HALL.out hn m s W2 most (by omega) (by omega) (by omega) (by omega) (by omega) (HL.out.below (HB2.out.mono hB))).mono ?_
      rintro e w3 ⟨A5, c5, t5, rfl, ho5, hb5, ht5⟩
      obtain ⟨F5, hF5⟩ : ∃ F, t5.length = F := ⟨_, rfl⟩
      rw [hF5] at ho5 ⊢
      have HB5 := Lib.hid (HB2.out.trans (hb5.mono (by omega)))
      have hs5 : w.heap.size ≤ w3.heap.size := HB5.out.size
      have hob5 := own_base ho5 (show w.heap.size ≤ W2.heap.size by omega)
      have HQ5 : Hid (OwnT w3 w.heap.size (some ⟨Wx.heap.size, 0, none⟩) 0 0 []) := own_below' HO2.out hb5
      have HX5 : Hid (Blk w3 w.heap.size 72 #[.int .i64 o, .int .i64 0, .int .i64 (s : Int), .int .i64 (r : Int)]) := HBX.out.below hb5 HBX.out.lt
      cases hd5 : decide (((flN l s).length : Int) ≤ most) with
      | false =>
        have hno := of_decide_eq_false hd5
        have HNO : Hid (most < ((flN l i).length : Int)) := by
          show _ < _
          rw [HF.out]
          simp only [List.length_append, List.length_cons, List.length_nil]
          omega
        clear hd5 hno ho5 hob5 hb5 ht5
        go_wp2
        go_ret2
        exact tkOut_no HNO.out HB5.out
      | true =>
        have hyes := of_decide_eq_true hd5
        have hte := ht5 hyes
        have HTE := Lib.hid hte
        have hge := (fl_lv HALL.out s (by omega)).2.1
        rw [← hte, hF5] at hyes hge
        have HF5 := Lib.hid hF5
        obtain ⟨g5, rfl⟩ : ∃ g, A5 = some ⟨g, 0, none⟩ := by
          rcases tks_nil ho5 with ⟨_, h, _⟩ | h
          · omega
          · exact h
        have news5 := tks_news ho5
        clear hd5 hte ht5 hob5 hb5
        have HTE5 := HTE
        have hown := HQ5.out
        obtain ⟨m2, hm2⟩ : ∃ m2, most - (F5 : Int) = m2 := ⟨_, rfl⟩
        have hm20 : 0 ≤ m2 := by omega
        have hm21 : m2 ≤ 24 := by omega
        have HM2 := Lib.hid hm2
        go_wp2_with (at_builtin; first
          | (refine wpList_append_own _ rfl (.tmp 32) (.tmp 33) 30 rfl w.heap.size 70 i0 (.agg #[.int .i64 0, .int .i64 0]) 2 16 Tryd.underlying30 hi hz0 hz1 hz2 rfl (by decide) (.slice (some ⟨Wx.heap.size, 0, none⟩) 0 0) 0 (tokCells []) rfl hown ⟨g5, 0, none⟩ F5 c5 (tokCells t5) rfl (by rw [tokCells_len]; omega) news5 (tokCells_one _) (by unfold maxLen; omega) (by omega) hs5 ?_
             intro v6 w6 hown6 hgrow6 _
             rw [Nat.zero_add] at hown6
             obtain ⟨A6, c6, rfl⟩ := tks_more hown6
             have HX6 : Hid (Blk w6 w.heap.size 72 #[.int .i64 o, .int .i64 0, .int .i64 (s : Int), .int .i64 (r : Int)]) := HX5.out.grown hgrow6 (fun x => own_apart hown HX5.out (by decide) x.symm)
             have hbq6 := HX6.out
             have y0 := hbq6.cell 0
             have y1 := hbq6.cell 1
             have y2 := hbq6.cell 2
             have y3 := hbq6.cell 3
             simp at y0 y1 y2 y3
             clear hbq6
             have HB6 : Hid (Below w.heap.size w w6) := HB5.out.grown hgrow6 hs5 (fun k h => (hown.lt k h).1)
             have hs6 : w.heap.size ≤ w6.heap.size := HB6.out.size
             have HO6 : Hid (OwnT w6 w.heap.size A6 F5 c6 t5) := by
               show OwnT _ _ _ _ _ _
               simpa [tokCells_nil] using hown6
             clear hown hgrow6))
        clear hm2
        refine (l08Toks_any B (some ⟨b, off, none⟩) n c l HALL.out hn m r w6 m2 (by omega) (by omega) (by omega) (by omega) (by omega) (HL.out.below (HB6.out.mono hB))).mono ?_
        rintro e w8 ⟨A8, c8, t8, rfl, ho8, hb8, ht8⟩
        obtain ⟨F8, hF8⟩ : ∃ F, t8.length = F := ⟨_, rfl⟩
        rw [hF8] at ho8 ⊢
        have HB8 := Lib.hid (HB6.out.trans (hb8.mono (by omega)))
        have hs8 : w.heap.size ≤ w8.heap.size := HB8.out.size
        have hob8 := own_base ho8 (show w.heap.size ≤ w6.heap.size by omega)
        have HQ8 : Hid (OwnT w8 w.heap.size A6 F5 c6 t5) := own_below' HO6.out hb8
        have HX8 : Hid (Blk w8 w.heap.size 72 #[.int .i64 o, .int .i64 0, .int .i64 (s : Int), .int .i64 (r : Int)]) := HX6.out.below hb8 HX6.out.lt
        cases hd8 : decide (((flN l r).length : Int) ≤ m2) with
        | false =>
          have hno := of_decide_eq_false hd8
          have hl5 : (flN l s).length = F5 := by rw [← HTE5.out]; exact HF5.out
          have hm2 := HM2.out
          have HNO : Hid (most < ((flN l i).length : Int)) := by
            show _ < _
            rw [HF.out]
            simp only [List.length_append, List.length_cons, List.length_nil]
            omega
          clear hd8 hno ho8 hob8 hb8 ht8
          go_wp2
          go_ret2
          exact tkOut_no HNO.out HB8.out
        | true =>
          have hyes := of_decide_eq_true hd8
          have hte := ht8 hyes
          have HTE := Lib.hid hte
          have hge := (fl_lv HALL.out r (by omega)).2.1
          rw [← hte, hF8] at hyes hge
          have HF8 := Lib.hid hF8
          obtain ⟨g8, rfl⟩ : ∃ g, A8 = some ⟨g, 0, none⟩ := by
            rcases tks_nil ho8 with ⟨_, h, _⟩ | h
            · omega
            · exact h
          have news8 := tks_news ho8
          clear hd8 hte ht8 hob8 hb8
          have hown := HQ8.out
          go_wp2_with (at_builtin; first
            | (refine wpList_append_own _ rfl (.tmp 51) (.tmp 52) 30 rfl w.heap.size 70 i0 (.agg #[.int .i64 0, .int .i64 0]) 2 16 Tryd.underlying30 hi hz0 hz1 hz2 rfl (by decide) (.slice A6 F5 c6) F5 (tokCells t5) rfl hown ⟨g8, 0, none⟩ F8 c8 (tokCells t8) rfl (by rw [tokCells_len]; omega) news8 (tokCells_one _) (by unfold maxLen; omega) (by omega) hs8 ?_
               intro v9 w9 hown9 hgrow9 _
               obtain ⟨A9, c9, rfl⟩ := tks_more hown9
               have HX9 : Blk w9 w.heap.size 72 #[.int .i64 o, .int .i64 0, .int .i64 (s : Int), .int .i64 (r : Int)] := HX8.out.grown hgrow9 (fun x => own_apart hown HX8.out (by decide) x.symm)
               have hbq9 := HX9
               have y0 := hbq9.cell 0
               have y1 := hbq9.cell 1
               have y2 := hbq9.cell 2
               have y3 := hbq9.cell 3
               simp at y0 y1 y2 y3
               clear hbq9
               have HB9 : Below w.heap.size w w9 := HB8.out.grown hgrow9 hs8 (fun k h => (hown.lt k h).1)
               have hs9 : w.heap.size ≤ w9.heap.size := HB9.size)
            | (refine wpList_append_own _ rfl (.tmp 54) (.tmp 60) 30 rfl w.heap.size 70 i0 (.agg #[.int .i64 0, .int .i64 0]) 2 16 Tryd.underlying30 hi hz0 hz1 hz2 rfl (by decide) (.slice A9 (F5 + F8) c9) (F5 + F8) (tokCells (t5 ++ t8)) rfl (World.ownsRow.alloc (show OwnT w9 w.heap.size A9 (F5 + F8) c9 (t5 ++ t8) from by show World.ownsRow _ _ _ _ _ _ _; rw [tokCells_append]; exact hown9) _) ⟨w9.heap.size, 0, none⟩ 1 1 (tokCells [(o, 0)]) rfl rfl (Blk.tokA2 w9 o 0) (tokCells_one _) (by unfold maxLen; omega) (by omega) (by simp; omega) ?_
               intro v7 w7 hown7 hgrow7 _
               obtain ⟨A7, c7, rfl⟩ := tks_more hown7))
          go_ret2
          refine ⟨A7, c7, (t5 ++ t8) ++ [(o, 0)], ?_, ?_, (HB9.alloc hs9 _).grown hgrow7 (by simp; omega) (fun k h => (hown9.lt k h).1), fun _ => by rw [HTE5.out, HTE.out, HF.out, List.append_assoc]⟩
          · rw [HF.out, ← HTE5.out, ← HTE.out, ← List.append_assoc, List.length_append, List.length_append, HF5.out, HF8.out]
            simp [go_sem]
          · show World.ownsRow _ _ _ _ _ _ _
            rw [tokCells_append (t5 ++ t8), List.length_append, List.length_append, HF5.out, HF8.out]
            exact hown7

set_option maxRecDepth 100000 in
set_option maxHeartbeats 4000000 in
theorem specALevel_any (w : World) (B : Nat) (A : Option Addr) (n c : Nat) (l : List Nd) (x : Int) (hB : B ≤ w.heap.size) (hl : NodR w B A n l) (hn : n ≤ 1048576) :
    Calls Tryd.prog 22 #[.slice A n c, .int .i64 x] w (ResP w (alvR l n x)) := by
  have HL := Lib.hid hl
  have hl0 := hl
  clear hl
  go_enter Tryd.func22, Tryd.ntmps22
  go_wp2_with fail
  refine (l08Has_any w B A n c l x hB hl0 hn).mono ?_
  rintro e w1 ⟨rfl, hb1⟩
  have HB1 := Lib.hid hb1
  have hs1 := hb1.size
  clear hl0 hb1
  cases hok : (arenaOkR l && idxR n [x]) with
  | false =>
    have HZ : Hid (alvR l n x = none) := by show _ = _; unfold alvR; rw [if_neg (by rw [hok]; decide)]
    clear hok
    go_wp2
    go_ret2
    rw [HZ.out]
    exact resP_none HB1.out
  | true =>
    have HZ : Hid (alvR l n x = if (flN l x.toNat).length ≤ 24 then some (flN l x.toNat) else none) := by show _ = _; unfold alvR; rw [if_pos hok]
    rw [Bool.and_eq_true, idx_one, Bool.and_eq_true, decide_eq_true_eq, decide_eq_true_eq] at hok
    obtain ⟨ha, h0, h1⟩ := hok
    unfold arenaOkR at ha
    rw [Bool.and_eq_true, decide_eq_true_eq, decide_eq_true_eq, HL.out.1] at ha
    obtain ⟨hn3, hall⟩ := ha
    obtain ⟨i, rfl⟩ : ∃ i : Nat, x = i := ⟨x.toNat, by omega⟩
    rw [Int.toNat_natCast] at HZ
    have hin : i < n := by omega
    have HALL := Lib.hid hall
    have hr := HL.out.below (HB1.out.mono hB)
    clear hall h0 h1
    go_wp2_with fail
    refine (l08Toks_any B A n c l HALL.out hn3 (i + 1) i w1 24 (by omega) hin (by omega) (by omega) (by omega) hr).mono ?_
    rintro e w2 ⟨A2, c2, t2, rfl, ho2, hb2, ht2⟩
    have HB2 := Lib.hid (HB1.out.trans (hb2.mono hs1))
    cases hd : decide (((flN l i).length : Int) ≤ 24) with
    | false =>
      have HZ2 : Hid (alvR l n (i : Int) = none) := by show _ = _; rw [HZ.out, if_neg (by have := of_decide_eq_false hd; omega)]
      clear hd ho2 hb2 ht2 hr
      go_wp2
      go_ret2
      rw [HZ2.out]
      exact resP_none HB2.out
    | true =>
      have hle := of_decide_eq_true hd
      have hte := ht2 hle
      have HZ2 : Hid (alvR l n (i : Int) = ifR t2) := by
        show _ = _
        obtain ⟨e1, e2, _⟩ := fl_lv HALL.out i hin
        rw [HZ.out, if_pos (by omega), hte]
        unfold ifR
        rw [if_pos ((lvlOk_iff _).2 ⟨e2, by omega, e1⟩)]
      have hlen : t2.length ≤ 24 := by rw [hte]; omega
      have hob := own_base ho2 hs1
      have hs2 : w.heap.size ≤ w2.heap.size := HB2.out.size
      clear hd ho2 hb2 ht2 hr hte hle
      go_wp2_with fail
      refine (l01If_any w2 w.heap.size A2 t2.length c2 t2 (by omega) hob).mono ?_
      rintro e w3 ⟨⟨A3, c3, rfl, ho3⟩, hb3⟩
      have HO3 := Lib.hid ho3
      have HB3 := Lib.hid (HB2.out.trans (hb3.mono hs2))
      clear hob ho3 hb3
      go_wp2
      go_ret2
      rw [HZ2.out]
      exact ⟨A3, c3, rfl, HO3.out, HB3.out⟩
end Go.Proofs.YtfmhmnpmdjpmeaaDoor

namespace Go.Proofs.YtfmhmnpmdjpmeaaDoor
open Go.RowKit

set_option maxHeartbeats 800000 in
theorem markNodeS_any (w : World) (base : Nat) (A : Option Addr) (n c : Nat) (xs : List Value) (hown : w.ownsRow base 72 4 (.slice A n c) n xs) (k : Nat) (hn : n ≤ 3000000) (hk : k ≤ 3000000) :
    Calls Tryd.prog 19 #[.slice A n c, .int .i64 k] w fun e w' => e = .returned (.int .i64 ((k + n * 4 : Nat) : Int)) ∧ MarkOut w base 72 4 (.slice A n c) n k w' := by
  by_cases h0 : n = 0
  · subst h0
    have HO := Lib.hid (own_empty hown k)
    clear hown
    go_enter Tryd.func19, Tryd.ntmps19
    go_wp2
    go_loop [1, 5] (fun m i => m = .int .i64 k ∧ i = .int .i64 0) (fun _ _ => 0)
    case atStart => exact ⟨rfl, rfl⟩
    case round =>
      obtain ⟨rfl, rfl⟩ := hrel
      go_wp2
      go_ret
      exact ⟨rfl, World.grownBy.refl _ _, rfl, HO.out⟩
  · rcases hown.2 with ⟨_, h⟩ | ⟨g, cap, cur, hv, hb, hgg, h1, h2, h3, h4⟩
    · omega
    · injection hv with e1 e2 e3
      subst e1; subst e3
      have hblk : Blk w g 72 cur := hgg
      have HS : Hid (Marking w g 72 (c * 4) k 0 w) := ⟨World.grownBy.refl _ _, rfl, cur, hblk, h3, by intro i hi; omega⟩
      have HW := Lib.hid hown
      clear hgg hblk h3 h4 hown
      go_enter Tryd.func19, Tryd.ntmps19
      go_wp2
      go_loopw [1, 5] (fun m i wr => ∃ j : Nat, j ≤ n ∧ i = .int .i64 j ∧ m = .int .i64 ((k + j * 4 : Nat) : Int) ∧ Marking w g 72 (c * 4) k (j * 4) wr) (fun _ i _ => n - (intOf i).toNat)
      case atStart => exact ⟨0, Nat.zero_le _, rfl, rfl, HS.out⟩
      case round =>
        obtain ⟨j, hj, rfl, rfl, hM⟩ := hrel
        by_cases hlt : j < n
        · have hM1 := marking_step hM (by omega)
          have hM2 := marking_step hM1 (by omega)
          have hM3 := marking_step hM2 (by omega)
          have HN := Lib.hid (marking_step hM3 (by omega))
          obtain ⟨_, _, cs, hblk, hs, _⟩ := hM
          have f1 := hblk.thawed (j * 4)
          have f2 := hblk.thawed (j * 4 + 1)
          have f3 := hblk.thawed (j * 4 + 2)
          have f4 := hblk.thawed (j * 4 + 3)
          obtain ⟨v1, d1⟩ : ∃ v1, wr.cell? ⟨g, j * 4, none⟩ = some v1 := ⟨_, (hblk.cell _).trans (Array.getElem?_eq_getElem (by omega))⟩
          obtain ⟨v2, d2⟩ : ∃ v2, wr.cell? ⟨g, j * 4 + 1, none⟩ = some v2 := ⟨_, (hblk.cell _).trans (Array.getElem?_eq_getElem (by omega))⟩
          obtain ⟨v3, d3⟩ : ∃ v3, wr.cell? ⟨g, j * 4 + 2, none⟩ = some v3 := ⟨_, (hblk.cell _).trans (Array.getElem?_eq_getElem (by omega))⟩
          obtain ⟨v4, d4⟩ : ∃ v4, wr.cell? ⟨g, j * 4 + 3, none⟩ = some v4 := ⟨_, (hblk.cell _).trans (Array.getElem?_eq_getElem (by omega))⟩
          clear hblk hs hM1 hM2 hM3
          go_wp2
          go_roundw
          case rel => exact ⟨j + 1, by omega, by go_num, by go_num, by
            have h := HN.out
            rw [show (j + 1) * 4 = j * 4 + 1 + 1 + 1 + 1 by omega]
            simpa [Nat.add_assoc, Int.add_assoc] using h⟩
          case measure => simp [intOf]; omega
        · obtain rfl : j = n := by omega
          have HM := Lib.hid hM
          clear hM
          go_wp2
          go_ret
          have hM := HM.out
          exact ⟨rfl, hM.1, hM.2.1, marked (size := 4) HW.out hM⟩

theorem NodOwn.mark {w w' : World} {g n base m k size : Nat} {e : TypeId} {v : Value} {l : List Nd} {lo hi : Nat} (h : NodOwn w g n l) (hm : MarkOut w base e size v m k w') (hv : InR v lo hi) (hd : g < lo ∨ hi ≤ g) : NodOwn w' g n l := by
  obtain ⟨hl, cs, hblk, rest⟩ := h
  refine ⟨hl, cs, ?_, rest⟩
  exact (hm.1.block g hblk.lt (fun he => by have := hv g he.symm; omega)).trans hblk
end Go.Proofs.YtfmhmnpmdjpmeaaDoor
