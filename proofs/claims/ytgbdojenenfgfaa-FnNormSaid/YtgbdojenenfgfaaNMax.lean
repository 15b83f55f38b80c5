/- NormMax of the program and of the reference model. -/
import Derived.Test.YtgbdojenenfgfaaNOf
namespace Go.Proofs.Ytgbdojenenfgfaa
open Go.RowKit

theorem normMax_no {a b : List (Int × Int)} (h : ¬ (Nm.normOk a = true ∧ Nm.normOk b = true)) : Nm.normMax a b = none := if_neg h
theorem normMax_yes {a b : List (Int × Int)} (h : Nm.normOk a = true ∧ Nm.normOk b = true) : Nm.normMax a b = some (Nm.norm (a ++ b)) := if_pos h

theorem partsA {w2 : World} {B : Nat} {q0 q1 : Addr} {n0 c0 n1 c1 : Nat} {l0 l1 : List (Int × Int)} (hB : B ≤ w2.heap.size) (h0 : TokA w2 B q0 l0) (h1 : TokA w2 B q1 l1) (e0 : l0.length = n0) (e1 : l1.length = n1) :
    Parts (w2.alloc (.cells #[.slice (some q0) n0 c0, .slice (some q1) n1 c1] 24)) (w2.heap.size + 1) w2.heap.size (fun i => if i = 0 then q0 else q1) (fun i => if i = 0 then c0 else c1) [l0, l1] := by
  have hba : Below B w2 (w2.alloc (.cells #[.slice (some q0) n0 c0, .slice (some q1) n1 c1] 24)) := (Below.refl _ _).alloc hB _
  have hbk := Blk.made w2 24 #[.slice (some q0) n0 c0, .slice (some q1) n1 c1]
  refine ⟨by omega, fun i hi => ?_⟩
  have hi2 : i = 0 ∨ i = 1 := by simp at hi; omega
  rcases hi2 with rfl | rfl
  · exact ⟨(hbk.cell 0).trans (by simp [e0]), ((h0.below hba).more (B' := w2.heap.size + 1) (by omega)).1, (h0.below hba).2⟩
  · exact ⟨(hbk.cell 1).trans (by simp [e1]), ((h1.below hba).more (B' := w2.heap.size + 1) (by omega)).1, (h1.below hba).2⟩

set_option maxRecDepth 100000 in
set_option maxHeartbeats 1600000 in
theorem implNormMax_any (w : World) (B : Nat) (A0 : Option Addr) (n0 c0 : Nat) (l0 : List (Int × Int)) (A1 : Option Addr) (n1 c1 : Nat) (l1 : List (Int × Int)) (hB : B ≤ w.heap.size) (hl0 : TokR w B A0 n0 l0) (hn0 : (n0 : Int) ≤ 140737488355328) (hc0 : n0 ≤ c0)
    (hl1 : TokR w B A1 n1 l1) (hn1 : (n1 : Int) ≤ 140737488355328) (hc1 : n1 ≤ c1) :
    Calls Try.prog 25 #[.slice A0 n0 c0, .slice A1 n1 c1] w (ResA w (Nm.normMax l0 l1)) := by
  cases h1 : Nm.normOk l0 with
  | false =>
    have HF : Hid (Nm.normMax l0 l1 = none) := normMax_no (fun h => by rw [h1] at h; cases h.1)
    have HO := Lib.hid h1
    clear h1
    go_enter Try.func25, Try.ntmps25
    go_wp2_with fail
    refine (implNormOk_any w B A0 n0 c0 l0 hB hl0 hn0 hc0).mono ?_
    rintro e w1 ⟨rfl, hb1⟩
    rw [HO.out]
    go_wp2
    go_ret2
    rw [HF.out]
    exact resA_none hb1
  | true =>
    have HO := Lib.hid h1
    cases h2 : Nm.normOk l1 with
    | false =>
      have HF : Hid (Nm.normMax l0 l1 = none) := normMax_no (fun h => by rw [h2] at h; cases h.2)
      have HO2 := Lib.hid h2
      clear h1 h2
      go_enter Try.func25, Try.ntmps25
      go_wp2_with fail
      refine (implNormOk_any w B A0 n0 c0 l0 hB hl0 hn0 hc0).mono ?_
      rintro e w1 ⟨rfl, hb1⟩
      rw [HO.out]
      go_wp2_with fail
      refine (implNormOk_any w1 B A1 n1 c1 l1 (Nat.le_trans hB hb1.size) (hl1.below (hb1.mono hB)) hn1 hc1).mono ?_
      rintro e w2 ⟨rfl, hb2⟩
      rw [HO2.out]
      have HB := Lib.hid (hb1.trans (hb2.mono hb1.size))
      clear hb1 hb2
      go_wp2
      go_ret2
      rw [HF.out]
      exact resA_none HB.out
    | true =>
      have HF : Hid (Nm.normMax l0 l1 = some (Nm.norm (l0 ++ l1))) := normMax_yes ⟨h1, h2⟩
      have HO2 := Lib.hid h2
      have ok0 := (Nm.normOk_iff l0).1 h1
      have ok1 := (Nm.normOk_iff l1).1 h2
      have b0 := ok0.len
      have b1 := ok1.len
      have p0 := ok0.1
      have p1 := ok1.1
      rw [hl0.1] at b0 p0
      rw [hl1.1] at b1 p1
      have HNO : Hid (Nm.normOf (l0 ++ l1) = some (Nm.norm (l0 ++ l1))) := normOf_yes ⟨by rw [List.length_append, hl0.1]; omega, by rw [List.length_append, hl0.1, hl1.1]; omega, ok0.2.1.append ok1.2.1⟩
      clear h1 h2 ok0 ok1
      go_enter Try.func25, Try.ntmps25
      go_wp2_with fail
      refine (implNormOk_any w B A0 n0 c0 l0 hB hl0 hn0 hc0).mono ?_
      rintro e w1 ⟨rfl, hb1⟩
      rw [HO.out]
      go_wp2_with fail
      refine (implNormOk_any w1 B A1 n1 c1 l1 (Nat.le_trans hB hb1.size) (hl1.below (hb1.mono hB)) hn1 hc1).mono ?_
      rintro e w2 ⟨rfl, hb2⟩
      rw [HO2.out]
      have hb12 := hb1.trans (hb2.mono hb1.size)
      obtain ⟨q0, rfl, hq0⟩ := (hl0.below (hb12.mono hB)).tokA (by omega)
      obtain ⟨q1, rfl, hq1⟩ := (hl1.below (hb12.mono hB)).tokA (by omega)
      have HPt := Lib.hid (partsA (c0 := c0) (c1 := c1) (Nat.le_trans hB hb12.size) hq0 hq1 hl0.1 hl1.1)
      have HBA := Lib.hid (hb12.alloc hb12.size (.cells #[.slice (some q0) n0 c0, .slice (some q1) n1 c1] 24))
      have HFL : Hid ([l0, l1].flatten = l0 ++ l1) := by show _ = _; simp
      have HFn : Hid ([l0, l1].flatten.length = n0 + n1) := by show _ = _; simp [hl0.1, hl1.1]
      have HS2 := Lib.hid hb12.size
      clear hb1 hb2 hb12 hq0 hq1 hl0 hl1
      go_wp2_with fail
      refine (concatA_any _ (w2.heap.size + 1) w2.heap.size 2 _ _ [l0, l1] (by simp) HPt.out (by simp) (by rw [HFn.out]; omega) (by rw [HFn.out]; omega)).mono ?_
      rintro e w3 ⟨g3, c3, rfl, ho3, hb3⟩
      rw [HFn.out, HFL.out] at ho3
      rw [HFn.out]
      have hr3 := OwnA.reads ho3
      have HB3 := Lib.hid (HBA.out.trans (hb3.mono (by have := HS2.out; simp; omega)))
      clear ho3 hb3
      go_wp2_with fail
      refine (implNormOf_any w3 w3.heap.size _ (n0 + n1) c3 (l0 ++ l1) (Nat.le_refl _) hr3 (by omega)).mono ?_
      rintro e w4 ⟨A4, c4, rfl, ho4, hb4⟩
      rw [HNO.out] at ho4 ⊢
      have HO4 := Lib.hid (own_base ho4 HB3.out.size)
      have HB4 := Lib.hid (HB3.out.trans (hb4.mono HB3.out.size))
      clear ho4 hb4 hr3
      go_wp2
      go_ret2
      rw [HF.out]
      exact ⟨A4, c4, rfl, HO4.out, HB4.out⟩

set_option maxRecDepth 100000 in
set_option maxHeartbeats 1600000 in
theorem specNormMax_any (w : World) (B : Nat) (A0 : Option Addr) (n0 c0 : Nat) (l0 : List (Int × Int)) (A1 : Option Addr) (n1 c1 : Nat) (l1 : List (Int × Int)) (hB : B ≤ w.heap.size) (hl0 : TokR w B A0 n0 l0) (hn0 : (n0 : Int) ≤ 140737488355328)
    (hl1 : TokR w B A1 n1 l1) (hn1 : (n1 : Int) ≤ 140737488355328) :
    Calls Try.prog 31 #[.slice A0 n0 c0, .slice A1 n1 c1] w (ResA w (Nm.normMax l0 l1)) := by
  obtain ⟨i0, hi, hz0, hz1, hz2⟩ := info_parts info_atom
  cases h1 : Nm.normOk l0 with
  | false =>
    have HF : Hid (Nm.normMax l0 l1 = none) := normMax_no (fun h => by rw [h1] at h; cases h.1)
    have HO := Lib.hid h1
    clear h1
    go_enter Try.func31, Try.ntmps31
    go_wp2_with fail
    refine (specNormOk_any w B A0 n0 c0 l0 hB hl0 hn0).mono ?_
    rintro e w1 ⟨rfl, hb1⟩
    rw [HO.out]
    go_wp2
    go_ret2
    rw [HF.out]
    exact resA_none hb1
  | true =>
    have HO := Lib.hid h1
    cases h2 : Nm.normOk l1 with
    | false =>
      have HF : Hid (Nm.normMax l0 l1 = none) := normMax_no (fun h => by rw [h2] at h; cases h.2)
      have HO2 := Lib.hid h2
      clear h1 h2
      go_enter Try.func31, Try.ntmps31
      go_wp2_with fail
      refine (specNormOk_any w B A0 n0 c0 l0 hB hl0 hn0).mono ?_
      rintro e w1 ⟨rfl, hb1⟩
      rw [HO.out]
      go_wp2_with fail
      refine (specNormOk_any w1 B A1 n1 c1 l1 (Nat.le_trans hB hb1.size) (hl1.below (hb1.mono hB)) hn1).mono ?_
      rintro e w2 ⟨rfl, hb2⟩
      rw [HO2.out]
      have HB := Lib.hid (hb1.trans (hb2.mono hb1.size))
      clear hb1 hb2
      go_wp2
      go_ret2
      rw [HF.out]
      exact resA_none HB.out
    | true =>
      have HF : Hid (Nm.normMax l0 l1 = some (Nm.norm (l0 ++ l1))) := normMax_yes ⟨h1, h2⟩
      have HO2 := Lib.hid h2
      have ok0 := (Nm.normOk_iff l0).1 h1
      have ok1 := (Nm.normOk_iff l1).1 h2
      have b0 := ok0.len
      have b1 := ok1.len
      have p0 := ok0.1
      have p1 := ok1.1
      rw [hl0.1] at b0 p0
      rw [hl1.1] at b1 p1
      have hcl0 := tokCells_len l0
      have hcl1 := tokCells_len l1
      rw [hl0.1] at hcl0
      rw [hl1.1] at hcl1
      have HCL0 := Lib.hid hcl0
      have HCL1 := Lib.hid hcl1
      clear h1 h2 ok0 ok1 hcl0 hcl1
      go_enter Try.func31, Try.ntmps31
      go_wp2_with fail
      refine (specNormOk_any w B A0 n0 c0 l0 hB hl0 hn0).mono ?_
      rintro e w1 ⟨rfl, hb1⟩
      rw [HO.out]
      go_wp2_with fail
      refine (specNormOk_any w1 B A1 n1 c1 l1 (Nat.le_trans hB hb1.size) (hl1.below (hb1.mono hB)) hn1).mono ?_
      rintro e w2 ⟨rfl, hb2⟩
      rw [HO2.out]
      have hb12 := hb1.trans (hb2.mono hb1.size)
      have hz2s := hb12.size
      have hb2a := hb12.alloc hb12.size (.cells #[] 32)
      have ho0 : OwnA (w2.alloc (.cells #[] 32)) w.heap.size (some ⟨w2.heap.size, 0, none⟩) 0 0 [] := World.ownsRow_made w2 #[] 0 hb12.size (by simp [maxLen]) (by simp)
      obtain ⟨q0, rfl, hq0⟩ := (hl0.below (hb2a.mono hB)).tokA (by omega)
      clear hb1 hb2 hb12
      go_wp2_with (at_builtin; first
        | (refine wpList_append_own _ rfl (.tmp 14) (.tmp 15) 24 rfl w.heap.size 32 i0 (.agg #[.int .i64 0, .int .i64 0]) 2 16 Try.underlying24 hi hz0 hz1 hz2 rfl (by decide) (.slice (some ⟨w2.heap.size, 0, none⟩) 0 0) 0 (tokCells []) rfl ho0 q0 n0 c0 (tokCells l0) rfl HCL0.out hq0.2 (tokCells_one l0) (by unfold maxLen; omega) (by omega) (by simp; omega) ?_
           intro v' w3 hown' hgrow hnil
           obtain ⟨g', cap', rfl⟩ : ∃ g' cap', v' = .slice (some ⟨g', 0, none⟩) n0 cap' := by
             rcases hown'.2 with ⟨h0, _⟩ | ⟨g', cap', _, h0, _⟩
             · have := (hnil.1 h0).1
               cases this
             · rw [Nat.zero_add] at h0; exact ⟨g', cap', h0⟩
           have hb3 : Below w.heap.size w w3 := hb2a.grown hgrow (by simp; omega) (fun k h => by have h' : w2.heap.size = k := (by simpa [Value.ownBlock] using h); omega)
           have ho3 : OwnA w3 w.heap.size (some ⟨g', 0, none⟩) n0 cap' l0 := by
             have h := hown'
             rw [tokCells_nil, List.nil_append, Nat.zero_add] at h
             exact h
           have hz3 := hb3.size
           clear hown' hgrow hnil ho0 hq0 hb2a
           obtain ⟨q1, rfl, hq1⟩ := (hl1.below (hb3.mono hB)).tokA (by omega))
        | (refine wpList_append_own _ rfl (.tmp 16) (.tmp 17) 24 rfl w.heap.size 32 i0 (.agg #[.int .i64 0, .int .i64 0]) 2 16 Try.underlying24 hi hz0 hz1 hz2 rfl (by decide) (.slice (some ⟨g', 0, none⟩) n0 cap') n0 (tokCells l0) rfl ho3 q1 n1 c1 (tokCells l1) rfl HCL1.out hq1.2 (tokCells_one l1) (by unfold maxLen; omega) (by omega) (by omega) ?_
           intro v' w4 hown' hgrow hnil
           obtain ⟨g2, cap2, rfl⟩ : ∃ g' cap', v' = .slice (some ⟨g', 0, none⟩) (n0 + n1) cap' := by
             rcases hown'.2 with ⟨h0, _⟩ | ⟨g', cap', _, h0, _⟩
             · have := (hnil.1 h0).1
               cases this
             · exact ⟨g', cap', h0⟩
           have hb4 : Below w.heap.size w w4 := hb3.grown hgrow (by omega) (fun k h => (ho3.lt k h).1)
           have ho4 : OwnA w4 w.heap.size (some ⟨g2, 0, none⟩) (n0 + n1) cap2 (l0 ++ l1) := by
             unfold OwnA
             rw [tokCells_append]
             exact hown'
           have hr4 := OwnA.reads ho4
           clear hown' hgrow hnil ho3 hq1 hb3 ho4))
      refine (specNorm_any w4 w4.heap.size _ (n0 + n1) cap2 (l0 ++ l1) (Nat.le_refl _) hr4 (by omega)).mono ?_
      rintro e w5 ⟨g5, cap5, rfl, ho5, hb5⟩
      have HO5 := Lib.hid (own_base ho5 hb4.size)
      have HB5 := Lib.hid (hb4.trans (hb5.mono hb4.size))
      clear ho5 hb5 hr4 hb4
      go_wp2
      go_ret2
      rw [HF.out]
      exact ⟨some ⟨g5, 0, none⟩, cap5, rfl, HO5.out, HB5.out⟩
end Go.Proofs.Ytgbdojenenfgfaa
