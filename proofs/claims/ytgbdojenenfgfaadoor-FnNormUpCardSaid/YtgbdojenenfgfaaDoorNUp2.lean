/- NormUp, put together. -/
import Derived.Test.YtgbdojenenfgfaaDoorNUp
namespace Go.Proofs.YtgbdojenenfgfaaDoor
open Go.RowKit

theorem ok_small {l : List (Int × Int)} (h : Nm.AllOk l) : Small l := fun j hj => by have := (Nm.atOk_iff _).1 (h j hj); omega
theorem normUp_no {l : List (Int × Int)} {x : Int} (h : ¬ (Nm.normOk l = true ∧ 0 ≤ x ∧ x ≤ 1000 ∧ Nm.normOk (Nm.up x l) = true)) : Nm.normUp l x = none := if_neg h
theorem normUp_yes {l : List (Int × Int)} {x : Int} (h : Nm.normOk l = true ∧ 0 ≤ x ∧ x ≤ 1000 ∧ Nm.normOk (Nm.up x l) = true) : Nm.normUp l x = some (Nm.up x l) := if_pos h
theorem up_len (l : List (Int × Int)) (x : Int) : (Nm.up x l).length = l.length := by simp [Nm.up]

set_option maxRecDepth 100000 in
set_option maxHeartbeats 1600000 in
theorem specNormUp_any (w : World) (B : Nat) (A : Option Addr) (n c : Nat) (l : List (Int × Int)) (x : Int) (hB : B ≤ w.heap.size) (hl : TokR w B A n l) (hn : (n : Int) ≤ 140737488355328) :
    Calls Tryd.prog 19 #[.slice A n c, .int .i64 x] w (ResA w (Nm.normUp l x)) := by
  cases h1 : Nm.normOk l with
  | false =>
    have HF : Hid (Nm.normUp l x = none) := normUp_no (fun h => by rw [h1] at h; cases h.1)
    have HO := Lib.hid h1
    clear h1
    go_enter Tryd.func19, Tryd.ntmps19
    go_wp2_with fail
    refine (specNormOk_any w B A n c l hB hl hn).mono ?_
    rintro e w1 ⟨rfl, hb1⟩
    rw [HO.out]
    go_wp2
    go_ret2
    rw [HF.out]
    exact resA_none hb1
  | true =>
    have HO := Lib.hid h1
    have hokl := (Nm.normOk_iff l).1 h1
    have h6 := hokl.len
    have HSM := Lib.hid (ok_small hokl.2.1)
    have hn6 : n ≤ 6 := by rw [← hl.1]; exact h6
    clear h1
    by_cases hx : 0 ≤ x ∧ x ≤ 1000
    · obtain ⟨hx0, hx1⟩ := hx
      have d1 : decide (x < 0) = false := by simp; omega
      have d2 : decide (1000 < x) = false := by simp; omega
      have HULN : Hid ((Nm.up x l).length = n) := by show _ = _; rw [up_len]; exact hl.1
      cases h2 : Nm.normOk (Nm.up x l) with
      | false =>
        have HF : Hid (Nm.normUp l x = none) := normUp_no (fun h => by rw [h2] at h; cases h.2.2.2)
        have HO2 := Lib.hid h2
        clear h2 hokl h6
        go_enter Tryd.func19, Tryd.ntmps19
        go_wp2_with fail
        refine (specNormOk_any w B A n c l hB hl hn).mono ?_
        rintro e w1 ⟨rfl, hb1⟩
        rw [HO.out]
        go_wp2_with fail
        refine (specUp_any w1 B A n c l x (Nat.le_trans hB hb1.size) (hl.below (hb1.mono hB)) (by omega) HSM.out hx0 (by omega)).mono ?_
        rintro e w2 ⟨g, cap, rfl, ho2, hb2⟩
        have hr2 := OwnA.reads ho2
        have HB2 := Lib.hid (hb1.trans (hb2.mono hb1.size))
        clear hb1 hb2 ho2
        go_wp2_with fail
        refine (specNormOk_any w2 w2.heap.size _ n cap (Nm.up x l) (Nat.le_refl _) hr2 (by omega)).mono ?_
        rintro e w3 ⟨rfl, hb3⟩
        rw [HO2.out]
        have HB3 := Lib.hid (HB2.out.trans (hb3.mono HB2.out.size))
        clear hb3 hr2
        go_wp2
        go_ret2
        rw [HF.out]
        exact resA_none HB3.out
      | true =>
        have HF : Hid (Nm.normUp l x = some (Nm.up x l)) := normUp_yes ⟨HO.out, hx0, hx1, h2⟩
        have HO2 := Lib.hid h2
        clear h2 hokl h6
        go_enter Tryd.func19, Tryd.ntmps19
        go_wp2_with fail
        refine (specNormOk_any w B A n c l hB hl hn).mono ?_
        rintro e w1 ⟨rfl, hb1⟩
        rw [HO.out]
        go_wp2_with fail
        refine (specUp_any w1 B A n c l x (Nat.le_trans hB hb1.size) (hl.below (hb1.mono hB)) (by omega) HSM.out hx0 (by omega)).mono ?_
        rintro e w2 ⟨g, cap, rfl, ho2, hb2⟩
        have hr2 := OwnA.reads ho2
        have HB2 := Lib.hid (hb1.trans (hb2.mono hb1.size))
        have HO3 := Lib.hid (own_base ho2 hb1.size)
        clear hb1 hb2 ho2
        go_wp2_with fail
        refine (specNormOk_any w2 w2.heap.size _ n cap (Nm.up x l) (Nat.le_refl _) hr2 (by omega)).mono ?_
        rintro e w3 ⟨rfl, hb3⟩
        rw [HO2.out]
        have HB3 := Lib.hid (HB2.out.trans (hb3.mono HB2.out.size))
        have HO4 := Lib.hid (own_below' HO3.out hb3)
        clear hb3 hr2
        go_wp2
        go_ret2
        rw [HF.out]
        refine ⟨some ⟨g, 0, none⟩, cap, ?_, ?_, HB3.out⟩
        · simp only [Option.getD_some, HULN.out]; rfl
        · simp only [Option.getD_some, HULN.out]; exact HO4.out
    · have HF : Hid (Nm.normUp l x = none) := normUp_no (fun h => hx ⟨h.2.1, h.2.2.1⟩)
      clear hokl h6
      by_cases hx0 : x < 0
      · clear hx
        go_enter Tryd.func19, Tryd.ntmps19
        go_wp2_with fail
        refine (specNormOk_any w B A n c l hB hl hn).mono ?_
        rintro e w1 ⟨rfl, hb1⟩
        rw [HO.out]
        go_wp2
        go_ret2
        rw [HF.out]
        exact resA_none hb1
      · have hx1 : 1000 < x := by omega
        have d1 : decide (x < 0) = false := by simp; omega
        clear hx hx0
        go_enter Tryd.func19, Tryd.ntmps19
        go_wp2_with fail
        refine (specNormOk_any w B A n c l hB hl hn).mono ?_
        rintro e w1 ⟨rfl, hb1⟩
        rw [HO.out]
        go_wp2
        go_ret2
        rw [HF.out]
        exact resA_none hb1

/-- the first j of the atoms are raised -/
def Half (l m : List (Int × Int)) (x : Int) (j : Nat) : Prop := m.length = l.length ∧ ∀ i, i < l.length → m.getD i (0, 0) = if i < j then ((l.getD i (0, 0)).1, (l.getD i (0, 0)).2 + x) else l.getD i (0, 0)
theorem half_start (l : List (Int × Int)) (x : Int) : Half l l x 0 := ⟨rfl, fun i _ => by simp⟩
theorem half_step {l m : List (Int × Int)} {x : Int} {j : Nat} (h : Half l m x j) (hj : j < l.length) {p y : Int} (hp : l.getD j (0, 0) = (p, y)) : Half l (m.set j (p, y + x)) x (j + 1) := by
  refine ⟨by rw [List.length_set]; exact h.1, fun i hi => ?_⟩
  by_cases e : i = j
  · subst e
    rw [if_pos (by omega), hp]
    simp [List.getD_eq_getElem?_getD, h.1, hj]
  · have := h.2 i hi
    rw [List.getD_eq_getElem?_getD, List.getElem?_set_ne (by omega), ← List.getD_eq_getElem?_getD, this]
    by_cases hij : i < j
    · rw [if_pos hij, if_pos (by omega)]
    · rw [if_neg hij, if_neg (by omega)]
theorem half_end {l m : List (Int × Int)} {x : Int} (h : Half l m x l.length) : m = Nm.up x l := by
  apply List.ext_getElem (by rw [up_len]; exact h.1)
  intro i h1 h2
  have := h.2 i (by rw [← h.1]; exact h1)
  rw [if_pos (by rw [← h.1]; exact h1)] at this
  have hl : i < l.length := by rw [← h.1]; exact h1
  simpa [Nm.up, List.getD_eq_getElem?_getD, List.getElem?_eq_getElem h1, List.getElem?_eq_getElem hl] using this
theorem half_at {l m : List (Int × Int)} {x : Int} {j : Nat} (h : Half l m x j) (hj : j < l.length) : m[j]? = some (l.getD j (0, 0)) := by
  have := h.2 j hj
  rw [if_neg (by omega)] at this
  rw [← this, List.getD_eq_getElem?_getD, List.getElem?_eq_getElem (by rw [h.1]; exact hj)]
  rfl

set_option maxRecDepth 100000 in
set_option maxHeartbeats 3200000 in
theorem implNormUp_any (w : World) (B : Nat) (A : Option Addr) (n c : Nat) (l : List (Int × Int)) (x : Int) (hB : B ≤ w.heap.size) (hl : TokR w B A n l) (hn : (n : Int) ≤ 140737488355328) (hc : n ≤ c) :
    Calls Tryd.prog 20 #[.slice A n c, .int .i64 x] w (ResA w (Nm.normUp l x)) := by
  cases h1 : Nm.normOk l with
  | false =>
    have HF : Hid (Nm.normUp l x = none) := normUp_no (fun h => by rw [h1] at h; cases h.1)
    have HO := Lib.hid h1
    clear h1
    go_enter Tryd.func20, Tryd.ntmps20
    go_wp2_with fail
    refine (implNormOk_any w B A n c l hB hl hn hc).mono ?_
    rintro e w1 ⟨rfl, hb1⟩
    rw [HO.out]
    go_wp2
    go_ret2
    rw [HF.out]
    exact resA_none hb1
  | true =>
    have HO := Lib.hid h1
    have hokl := (Nm.normOk_iff l).1 h1
    have h6 := hokl.len
    have HSM := Lib.hid (ok_small hokl.2.1)
    have hn6 : n ≤ 6 := by rw [← hl.1]; exact h6
    have hn1 : 1 ≤ n := by rw [← hl.1]; exact hokl.1
    clear h1
    by_cases hx : 0 ≤ x ∧ x ≤ 1000
    · obtain ⟨hx0, hx1⟩ := hx
      have d1 : decide (x < 0) = false := by simp; omega
      have d2 : decide (1000 < x) = false := by simp; omega
      have HULN : Hid ((Nm.up x l).length = n) := by show _ = _; rw [up_len]; exact hl.1
      have HLN := Lib.hid hl.1
      clear hokl h6
      go_enter Tryd.func20, Tryd.ntmps20
      go_wp2_with fail
      refine (implNormOk_any w B A n c l hB hl hn hc).mono ?_
      rintro e w1 ⟨rfl, hb1⟩
      rw [HO.out]
      go_wp2_with fail
      refine (cloneA_any w1 B A n c l (Nat.le_trans hB hb1.size) (hl.below (hb1.mono hB)) hn1 (by omega)).mono ?_
      rintro e w2 ⟨g, cap, rfl, ho2, hb2⟩
      have HB2 := Lib.hid (hb1.trans (hb2.mono hb1.size))
      have HO3 := Lib.hid (own_base ho2 hb1.size)
      have HGE : Hid (w.heap.size ≤ g) := Nat.le_trans hb1.size (ho2.lt g rfl).1
      clear hb1 hb2 ho2 hl
      go_wp2
      go_loopw [23] (fun i wr => ∃ (j : Nat) (m : List (Int × Int)), j ≤ n ∧ i = .int .i64 j ∧ Hid (Half l m x j) ∧ OwnA wr w.heap.size (some ⟨g, 0, none⟩) n cap m ∧ Below w.heap.size w wr) (fun i _ => n - (intOf i).toNat)
      case atStart => exact ⟨0, l, Nat.zero_le _, rfl, half_start l x, HO3.out, HB2.out⟩
      case round =>
        obtain ⟨j, m, hj, rfl, HH, hown, hbel⟩ := hrel
        by_cases hlt : j < n
        · have hjl : j < l.length := by rw [HLN.out]; exact hlt
          have hat := half_at HH.out hjl
          have hsm := HSM.out j hjl
          obtain ⟨t, ht⟩ : ∃ t, l.getD j (0, 0) = t := ⟨_, rfl⟩
          rw [ht] at hat hsm
          obtain ⟨p, y⟩ := t
          simp only at hsm
          obtain ⟨y0, y1⟩ := hsm
          have HN := Lib.hid (half_step HH.out hjl ht)
          have hcl := tokCells_at m j (by rw [HH.out.1]; exact hjl)
          have hgd : m.getD j (0, 0) = (p, y) := by rw [List.getD_eq_getElem?_getD, hat]; rfl
          rw [hgd] at hcl
          have k2 := hown.cells (g := g) rfl (j * 2 + 1) _ hcl.2
          rw [own_adds] at k2
          have hput := own_put hown (j * 2 + 1) (.int .i64 (y + x))
          rw [← tokCells_set m j p y (y + x) hat] at hput
          have HP := Lib.hid hput
          have HB := Lib.hid (hbel.setCell (p := ⟨g, j * 2 + 1, none⟩) HGE.out (.int .i64 (y + x)))
          obtain ⟨cs, hblk⟩ := own_blk hown g rfl
          have f1 := hblk.thawed (j * 2 + 1)
          clear hput hat ht hcl hgd hown hblk
          go_wp2
          go_roundw
          case rel => exact ⟨j + 1, m.set j (p, y + x), by omega, by go_num, HN.out, HP.out, HB.out⟩
          case measure => simp [intOf]; omega
        · obtain rfl : j = n := by omega
          have hup : m = Nm.up x l := half_end (by have h := HH.out; rw [HLN.out]; exact h)
          subst hup
          have hr2 := OwnA.reads hown
          have hcap : j ≤ cap := by
            rcases hown.2 with ⟨h0, _⟩ | ⟨g', cap', cur, hv, hb, hgg, q1, q2, q3, q4⟩
            · cases h0
            · injection hv with e1 e2 e3
              omega
          have HW := Lib.hid hown
          clear hown
          cases h2 : Nm.normOk (Nm.up x l) with
          | false =>
            have HF : Hid (Nm.normUp l x = none) := normUp_no (fun h => by rw [h2] at h; cases h.2.2.2)
            have HO2 := Lib.hid h2
            clear h2
            go_wp2_with fail
            refine (implNormOk_any wr wr.heap.size _ j cap (Nm.up x l) (Nat.le_refl _) hr2 (by omega) hcap).mono ?_
            rintro e w3 ⟨rfl, hb3⟩
            rw [HO2.out]
            have HB3 := Lib.hid (hbel.trans (hb3.mono hbel.size))
            clear hb3 hr2
            go_wp2
            go_ret2
            rw [HF.out]
            exact resA_none HB3.out
          | true =>
            have HF : Hid (Nm.normUp l x = some (Nm.up x l)) := normUp_yes ⟨HO.out, hx0, hx1, h2⟩
            have HO2 := Lib.hid h2
            clear h2
            go_wp2_with fail
            refine (implNormOk_any wr wr.heap.size _ j cap (Nm.up x l) (Nat.le_refl _) hr2 (by omega) hcap).mono ?_
            rintro e w3 ⟨rfl, hb3⟩
            rw [HO2.out]
            have HB3 := Lib.hid (hbel.trans (hb3.mono hbel.size))
            have HO4 := Lib.hid (own_below' HW.out hb3)
            clear hb3 hr2
            go_wp2
            go_ret2
            rw [HF.out]
            refine ⟨some ⟨g, 0, none⟩, cap, ?_, ?_, HB3.out⟩
            · simp only [Option.getD_some, HULN.out]; rfl
            · simp only [Option.getD_some, HULN.out]; exact HO4.out
    · have HF : Hid (Nm.normUp l x = none) := normUp_no (fun h => hx ⟨h.2.1, h.2.2.1⟩)
      clear hokl h6
      by_cases hx0 : x < 0
      · clear hx
        go_enter Tryd.func20, Tryd.ntmps20
        go_wp2_with fail
        refine (implNormOk_any w B A n c l hB hl hn hc).mono ?_
        rintro e w1 ⟨rfl, hb1⟩
        rw [HO.out]
        go_wp2
        go_ret2
        rw [HF.out]
        exact resA_none hb1
      · have hx1 : 1000 < x := by omega
        have d1 : decide (x < 0) = false := by simp; omega
        clear hx hx0
        go_enter Tryd.func20, Tryd.ntmps20
        go_wp2_with fail
        refine (implNormOk_any w B A n c l hB hl hn hc).mono ?_
        rintro e w1 ⟨rfl, hb1⟩
        rw [HO.out]
        go_wp2
        go_ret2
        rw [HF.out]
        exact resA_none hb1
end Go.Proofs.YtgbdojenenfgfaaDoor
