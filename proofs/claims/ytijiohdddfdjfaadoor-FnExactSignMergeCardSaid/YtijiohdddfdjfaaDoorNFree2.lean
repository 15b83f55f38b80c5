/- NormFree of the program. -/
import Derived.Test.YtijiohdddfdjfaaDoorNFree
import Derived.Test.YtijiohdddfdjfaaDoorLOk
namespace Go.Proofs.YtijiohdddfdjfaaDoor
open Go.RowKit

theorem hts_tk {l : List (Int × Int)} {n m : Int} (h : Lv.hts l n = some m) : ∀ t ∈ l, Lv.tkOk t = true := by
  induction l generalizing n with
  | nil => intro t ht; cases ht
  | cons a r ih =>
    simp only [Lv.hts] at h
    split at h
    · rename_i hc
      intro t ht
      rcases List.mem_cons.1 ht with rfl | ht
      · exact hc.1
      · exact ih h t ht
    · cases h
theorem no3_of {l : List (Int × Int)} (h : Lv.levelOk l = true) (hm : (3, 0) ∉ l) : ∀ t ∈ l, t.1 ≠ 3 := by
  simp only [Lv.levelOk, Bool.and_eq_true, decide_eq_true_eq] at h
  intro t ht e
  have hk := hts_tk h.2 t ht
  obtain ⟨a, b⟩ := t
  simp only at e
  subst e
  simp [Lv.tkOk] at hk
  have hb : b = 0 := by omega
  subst hb
  exact hm ht
theorem freeR_no {l : List (Int × Int)} (h : ¬ (Lv.levelOk l = true ∧ ∀ t ∈ l, t.1 ≠ 3)) : Nm.freeR l = none := if_neg h
theorem freeR_yes {l : List (Int × Int)} (h : Lv.levelOk l = true ∧ ∀ t ∈ l, t.1 ≠ 3) : Nm.freeR l = some (Nm.norm (Nm.leafs l)) := if_pos h
theorem ok_lenN {l : List (Int × Int)} (h : Lv.levelOk l = true) : 1 ≤ l.length ∧ l.length ≤ 24 := by
  simp only [Lv.levelOk, Bool.and_eq_true, decide_eq_true_eq] at h
  exact h.1
/-- the leaves of a right level without imax are few and right -/
theorem leafs_ok {l : List (Int × Int)} (h : Lv.levelOk l = true) (h3 : ∀ t ∈ l, t.1 ≠ 3) : 1 ≤ (Nm.leafs l).length ∧ (Nm.leafs l).length ≤ 24 ∧ Nm.AllOk (Nm.leafs l) := by
  obtain ⟨a, ha⟩ := Nm.prun_one h h3
  have hl := ok_lenN h
  have hf := Nm.fine_run ha
  have hn := Nm.flat_run ha
  rw [leafs_of ha]
  simp at hn
  refine ⟨List.length_pos_iff.2 (hf a (by simp)).1, by omega, hf.allOk (by omega) (by simp)⟩

set_option maxRecDepth 100000 in
set_option maxHeartbeats 3200000 in
theorem implNormFree_any (w : World) (B : Nat) (A : Option Addr) (n c : Nat) (l : List (Int × Int)) (T : TypeId) (pv : Value) (h0 : 0 < B) (hB : B ≤ w.heap.size) (hl : TokR w B A n l) (hn : (n : Int) ≤ 140737488355328) (hE : ErrAt w T pv) :
    Calls Tryd.prog 78 #[.slice A n c] w (ResA w (Nm.freeR l)) := by
  cases h1 : Lv.levelOk l with
  | false =>
    have HF : Hid (Nm.freeR l = none) := freeR_no (fun h => by rw [h1] at h; cases h.1)
    have HO := Lib.hid h1
    clear h1
    go_enter Tryd.func78, Tryd.ntmps78
    go_wp2_with fail
    refine (levelOk_any w B A n c l T pv h0 hB hl hn hE).mono ?_
    rintro e w1 ⟨rfl, hb1⟩
    rw [HO.out]
    go_wp2
    go_ret2
    rw [HF.out]
    exact resA_none hb1
  | true =>
    have HO := Lib.hid h1
    have hn24 : n ≤ 24 := by rw [← hl.1]; exact (ok_lenN h1).2
    clear h1
    by_cases hm : (3, 0) ∈ l
    · have HF : Hid (Nm.freeR l = none) := freeR_no (fun h => h.2 _ hm rfl)
      have HM : Hid (decide (((3 : Int), (0 : Int)) ∈ l) = true) := by show _ = _; simp [hm]
      clear hm
      go_enter Tryd.func78, Tryd.ntmps78
      go_wp2_with fail
      refine (levelOk_any w B A n c l T pv h0 hB hl hn hE).mono ?_
      rintro e w1 ⟨rfl, hb1⟩
      rw [HO.out]
      go_wp2_with fail
      refine (contains_any w1 B A n c l 3 0 (Nat.le_trans hB hb1.size) (hl.below (hb1.mono hB)) (by omega)).mono ?_
      rintro e w2 ⟨rfl, hb2⟩
      rw [HM.out]
      have HB := Lib.hid (hb1.trans (hb2.mono hb1.size))
      clear hb1 hb2
      go_wp2
      go_ret2
      rw [HF.out]
      exact resA_none HB.out
    · have h3 := no3_of HO.out hm
      have HF : Hid (Nm.freeR l = some (Nm.norm (Nm.leafs l))) := freeR_yes ⟨HO.out, h3⟩
      have HM : Hid (decide (((3 : Int), (0 : Int)) ∈ l) = false) := by show _ = _; simp [hm]
      have hlo := leafs_ok HO.out h3
      have HNO : Hid (Nm.normOf (Nm.leafs l) = some (Nm.norm (Nm.leafs l))) := normOf_yes ⟨hlo.1, by omega, hlo.2.2⟩
      have hl24 := hlo.2.1
      have H3 := Lib.hid h3
      clear hm h3 hlo
      go_enter Tryd.func78, Tryd.ntmps78
      go_wp2_with fail
      refine (levelOk_any w B A n c l T pv h0 hB hl hn hE).mono ?_
      rintro e w1 ⟨rfl, hb1⟩
      rw [HO.out]
      go_wp2_with fail
      refine (contains_any w1 B A n c l 3 0 (Nat.le_trans hB hb1.size) (hl.below (hb1.mono hB)) (by omega)).mono ?_
      rintro e w2 ⟨rfl, hb2⟩
      rw [HM.out]
      have hb12 := hb1.trans (hb2.mono hb1.size)
      clear hb1 hb2
      go_wp2_with fail
      refine (leafAtoms_any w2 B A n c l (Nat.le_trans hB hb12.size) (hl.below (hb12.mono hB)) hn24 HO.out H3.out).mono ?_
      rintro e w3 ⟨A3, c3, rfl, ho3, hb3⟩
      have hb13 := hb12.trans (hb3.mono hb12.size)
      obtain ⟨L, hL⟩ : ∃ L, (Nm.leafs l).length = L := ⟨_, rfl⟩
      rw [hL] at ho3 hl24 ⊢
      clear hb12 hb3
      go_wp2_with fail
      refine (implNormOf_any w3 w3.heap.size A3 L c3 (Nm.leafs l) (Nat.le_refl _) (OwnA.reads ho3) (by omega)).mono ?_
      rintro e w4 ⟨A4, c4, rfl, ho4, hb4⟩
      rw [HNO.out] at ho4 ⊢
      have HO4 := Lib.hid (own_base ho4 hb13.size)
      have HB4 := Lib.hid (hb13.trans (hb4.mono hb13.size))
      clear ho4 hb4 ho3 hb13
      go_wp2
      go_ret2
      rw [HF.out]
      exact ⟨A4, c4, rfl, HO4.out, HB4.out⟩
end Go.Proofs.YtijiohdddfdjfaaDoor
