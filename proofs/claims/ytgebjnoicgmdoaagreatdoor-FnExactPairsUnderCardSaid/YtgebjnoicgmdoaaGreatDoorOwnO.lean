/- NormFree of the program. -/
/- The program's leaf and join for a sign. -/
/- Plain facts: levels without imax that stand for lists of atoms, and how the program's joins for a sign keep to them. -/
/- Rows of atoms of the call's own that may begin inside their block: what they read, what keeps them, and the laws' marks on them. -/
import Derived.Test.YtgebjnoicgmdoaaGreatDoorNFree
import Derived.Test.YtgebjnoicgmdoaaGreatDoorSpec
import Derived.Test.YtgebjnoicgmdoaaGreatDoorSlc
import Derived.Test.YtgebjnoicgmdoaaGreatDoorNMath4
import Derived.Test.YtgebjnoicgmdoaaGreatDoorNOk1

namespace Go.Proofs.YtgebjnoicgmdoaaGreatDoor
open Go.RowKit

theorem hts_tk {l : List (Int × Int)} {n m : Int} (h : Lv.hts l n = some m) : ∀ t ∈ l, Lv.tkOk t = true := by
  induction l generalizing n with
  | nil => intro t ht; cases ht
  | cons a r ih =>
    simp only [Lv.hts] at h
    split at h
    · rename_i hc
      intro t ht
      rcases List.mem_cons.1 ht with rfl | ht
      · exact hc.1
      · exact ih h t ht
    · cases h
theorem no3_of {l : List (Int × Int)} (h : Lv.levelOk l = true) (hm : (3, 0) ∉ l) : ∀ t ∈ l, t.1 ≠ 3 := by
  simp only [Lv.levelOk, Bool.and_eq_true, decide_eq_true_eq] at h
  intro t ht e
  have hk := hts_tk h.2 t ht
  obtain ⟨a, b⟩ := t
  simp only at e
  subst e
  simp [Lv.tkOk] at hk
  have hb : b = 0 := by omega
  subst hb
  exact hm ht
theorem freeR_no {l : List (Int × Int)} (h : ¬ (Lv.levelOk l = true ∧ ∀ t ∈ l, t.1 ≠ 3)) : Nm.freeR l = none := if_neg h
theorem freeR_yes {l : List (Int × Int)} (h : Lv.levelOk l = true ∧ ∀ t ∈ l, t.1 ≠ 3) : Nm.freeR l = some (Nm.norm (Nm.leafs l)) := if_pos h
theorem ok_lenN {l : List (Int × Int)} (h : Lv.levelOk l = true) : 1 ≤ l.length ∧ l.length ≤ 24 := by
  simp only [Lv.levelOk, Bool.and_eq_true, decide_eq_true_eq] at h
  exact h.1
/-- the leaves of a right level without imax are few and right -/
theorem leafs_ok {l : List (Int × Int)} (h : Lv.levelOk l = true) (h3 : ∀ t ∈ l, t.1 ≠ 3) : 1 ≤ (Nm.leafs l).length ∧ (Nm.leafs l).length ≤ 24 ∧ Nm.AllOk (Nm.leafs l) := by
  obtain ⟨a, ha⟩ := Nm.prun_one h h3
  have hl := ok_lenN h
  have hf := Nm.fine_run ha
  have hn := Nm.flat_run ha
  rw [leafs_of ha]
  simp at hn
  refine ⟨List.length_pos_iff.2 (hf a (by simp)).1, by omega, hf.allOk (by omega) (by simp)⟩

set_option maxRecDepth 100000 in
set_option maxHeartbeats 3200000 in
theorem implNormFree_any (w : World) (B : Nat) (A : Option Addr) (n c : Nat) (l : List (Int × Int)) (T : TypeId) (pv : Value) (h0 : 1 < B) (hB : B ≤ w.heap.size) (hl : TokR w B A n l) (hn : (n : Int) ≤ 140737488355328) (hE : ErrAt w T pv) :
    Calls Tryz.prog 123 #[.slice A n c] w (ResA w (Nm.freeR l)) := by
  cases h1 : Lv.levelOk l with
  | false =>
    have HF : Hid (Nm.freeR l = none) := freeR_no (fun h => by rw [h1] at h; cases h.1)
    have HO := Lib.hid h1
    clear h1
    go_enter Tryz.func123, Tryz.ntmps123
    go_wp2_with fail
    refine (levelOk_any w B A n c l T pv h0 hB hl hn hE).mono ?_
    rintro e w1 ⟨rfl, hb1⟩
    rw [HO.out]
    go_wp2
    go_ret2
    rw [HF.out]
    exact resA_none hb1
  | true =>
    have HO := Lib.hid h1
    have hn24 : n ≤ 24 := by rw [← hl.1]; exact (ok_lenN h1).2
    clear h1
    by_cases hm : (3, 0) ∈ l
    · have HF : Hid (Nm.freeR l = none) := freeR_no (fun h => h.2 _ hm rfl)
      have HM : Hid (decide (((3 : Int), (0 : Int)) ∈ l) = true) := by show _ = _; simp [hm]
      clear hm
      go_enter Tryz.func123, Tryz.ntmps123
      go_wp2_with fail
      refine (levelOk_any w B A n c l T pv h0 hB hl hn hE).mono ?_
      rintro e w1 ⟨rfl, hb1⟩
      rw [HO.out]
      go_wp2_with fail
      refine (contains_any w1 B A n c l 3 0 (Nat.le_trans hB hb1.size) (hl.below (hb1.mono hB)) (by omega)).mono ?_
      rintro e w2 ⟨rfl, hb2⟩
      rw [HM.out]
      have HB := Lib.hid (hb1.trans (hb2.mono hb1.size))
      clear hb1 hb2
      go_wp2
      go_ret2
      rw [HF.out]
      exact resA_none HB.out
    · have h3 := no3_of HO.out hm
      have HF : Hid (Nm.freeR l = some (Nm.norm (Nm.leafs l))) := freeR_yes ⟨HO.out, h3⟩
      have HM : Hid (decide (((3 : Int), (0 : Int)) ∈ l) = false) := by show _ = _; simp [hm]
      have hlo := leafs_ok HO.out h3
      have HNO : Hid (Nm.normOf (Nm.leafs l) = some (Nm.norm (Nm.leafs l))) := normOf_yes ⟨hlo.1, by omega, hlo.2.2⟩
      have hl24 := hlo.2.1
      have H3 := Lib.hid h3
      clear hm h3 hlo
      go_enter Tryz.func123, Tryz.ntmps123
      go_wp2_with fail
      refine (levelOk_any w B A n c l T pv h0 hB hl hn hE).mono ?_
      rintro e w1 ⟨rfl, hb1⟩
      rw [HO.out]
      go_wp2_with fail
      refine (contains_any w1 B A n c l 3 0 (Nat.le_trans hB hb1.size) (hl.below (hb1.mono hB)) (by omega)).mono ?_
      rintro e w2 ⟨rfl, hb2⟩
      rw [HM.out]
      have hb12 := hb1.trans (hb2.mono hb1.size)
      clear hb1 hb2
      go_wp2_with fail
      refine (leafAtoms_any w2 B A n c l (Nat.le_trans hB hb12.size) (hl.below (hb12.mono hB)) hn24 HO.out H3.out).mono ?_
      rintro e w3 ⟨A3, c3, rfl, ho3, hb3⟩
      have hb13 := hb12.trans (hb3.mono hb12.size)
      obtain ⟨L, hL⟩ : ∃ L, (Nm.leafs l).length = L := ⟨_, rfl⟩
      rw [hL] at ho3 hl24 ⊢
      clear hb12 hb3
      go_wp2_with fail
      refine (implNormOf_any w3 w3.heap.size A3 L c3 (Nm.leafs l) (Nat.le_refl _) (OwnA.reads ho3) (by omega)).mono ?_
      rintro e w4 ⟨A4, c4, rfl, ho4, hb4⟩
      rw [HNO.out] at ho4 ⊢
      have HO4 := Lib.hid (own_base ho4 hb13.size)
      have HB4 := Lib.hid (hb13.trans (hb4.mono hb13.size))
      clear ho4 hb4 ho3 hb13
      go_wp2
      go_ret2
      rw [HF.out]
      exact ⟨A4, c4, rfl, HO4.out, HB4.out⟩
end Go.Proofs.YtgebjnoicgmdoaaGreatDoor

namespace Go.Proofs.YtgebjnoicgmdoaaGreatDoor
open Go.RowKit

/-- a leaf for a sign -/
def leafT (s : Int) (t : Int × Int) : Int × Int := if t.1 = 4 ∧ Sg.has s t.2 = false then (0, 0) else t
/-- a join for a sign -/
def joinT (s op : Int) (a b : List (Int × Int)) : List (Int × Int) := if op = 3 ∧ lsgR b s = 0 then [(0, 0)] else a ++ (b ++ [(2, 0)])

set_option maxHeartbeats 800000 in
theorem leafFor_any (w : World) (op y s : Int) :
    Calls Tryz.prog 150 #[.agg #[.int .i64 op, .int .i64 y], .int .i64 s] w fun e w' => e = .returned (.agg #[.int .i64 (leafT s (op, y)).1, .int .i64 (leafT s (op, y)).2]) ∧ Below w.heap.size w w' := by
  have HB : ∀ o : Obj, Below w.heap.size w ((w.alloc (.cells #[.int .i64 op, .int .i64 y] 51)).alloc o) := fun o => ((Below.refl _ _).alloc (Nat.le_refl _) _).alloc (by simp) _
  by_cases h4 : op = 4
  · subst h4
    cases hh : Sg.has s y with
    | true =>
      have HL : Hid (leafT s (4, y) = (4, y)) := by unfold Hid leafT; simp [hh]
      go_enter Tryz.func150, Tryz.ntmps150
      go_wp2_with fail
      refine (implSignHas_any _ s y).mono ?_
      rintro e w1 ⟨rfl, rfl⟩
      rw [hh]
      go_wp2
      exact bodyPost_ret (v := .agg #[.int .i64 4, .int .i64 y]) (by simp [results, Tryz.results150, go_sem]) rfl ⟨by rw [HL.out], HB _⟩
    | false =>
      have HL : Hid (leafT s (4, y) = (0, 0)) := by unfold Hid leafT; simp [hh]
      go_enter Tryz.func150, Tryz.ntmps150
      go_wp2_with fail
      refine (implSignHas_any _ s y).mono ?_
      rintro e w1 ⟨rfl, rfl⟩
      rw [hh]
      go_wp2
      exact bodyPost_ret (v := .agg #[.int .i64 0, .int .i64 0]) (by simp [results, Tryz.results150, go_sem]) rfl ⟨by rw [HL.out], HB _⟩
  · have HL : Hid (leafT s (op, y) = (op, y)) := by unfold Hid leafT; simp [h4]
    have d4 : (op == 4) = false := by simpa using h4
    clear h4
    go_enter Tryz.func150, Tryz.ntmps150
    go_wp2
    exact bodyPost_ret (v := .agg #[.int .i64 op, .int .i64 y]) (by simp [results, Tryz.results150, go_sem]) rfl ⟨by rw [HL.out], HB _⟩

theorem own_litJ {w : World} {g base : Nat} {a b : Int} (h : Blk w g 51 #[.int .i64 a, .int .i64 b]) (hb : base ≤ g) : OwnT w base (some ⟨g, 0, none⟩) 1 1 [(a, b)] :=
  ⟨rfl, .inr ⟨g, 1, #[.int .i64 a, .int .i64 b], rfl, hb, h, Nat.le_refl _, by simp [maxLen], rfl, rfl⟩⟩

set_option maxRecDepth 100000 in
set_option maxHeartbeats 1600000 in
theorem joinFor_any (w : World) (B : Nat) (op s : Int) (A0 : Option Addr) (n0 c0 : Nat) (l0 : List (Int × Int)) (A1 : Option Addr) (n1 c1 : Nat) (l1 : List (Int × Int)) (T : TypeId) (pv : Value) (h0 : 1 < B) (hB : B ≤ w.heap.size)
    (hl0 : TokR w B A0 n0 l0) (hn0 : n0 ≤ 100) (h10 : 1 ≤ n0) (hl1 : TokR w B A1 n1 l1) (hn1 : n1 ≤ 100) (h11 : 1 ≤ n1) (hE : ErrAt w T pv) :
    Calls Tryz.prog 151 #[.int .i64 op, .slice A0 n0 c0, .slice A1 n1 c1, .int .i64 s] w (ResT w (joinT s op l0 l1)) := by
  by_cases hz : op = 3 ∧ lsgR l1 s = 0
  · obtain ⟨rfl, hz⟩ := hz
    have HJ : Hid (joinT s 3 l0 l1 = [(0, 0)]) := by unfold Hid joinT; rw [if_pos ⟨rfl, hz⟩]
    have HZ := Lib.hid hz
    clear hz
    go_enter Tryz.func151, Tryz.ntmps151
    go_wp2_with fail
    refine (implLevelSign_any w B A1 n1 c1 l1 s T pv h0 hB hl1 (by omega) hE).mono ?_
    rintro e w1 ⟨rfl, hb1⟩
    rw [HZ.out]
    have HO : Hid (OwnT (w1.alloc (.cells #[.int .i64 0, .int .i64 0] 51)) w.heap.size (some ⟨w1.heap.size, 0, none⟩) 1 1 [(0, 0)]) := own_litJ (Blk.made w1 _ _) hb1.size
    have HB1 := Lib.hid (hb1.alloc hb1.size (.cells #[.int .i64 0, .int .i64 0] 51))
    clear hb1
    go_wp2
    go_ret
    rw [HJ.out]
    exact ⟨_, _, rfl, HO.out, HB1.out⟩
  · have HJ : Hid (joinT s op l0 l1 = l0 ++ (l1 ++ [(2, 0)])) := by unfold Hid joinT; rw [if_neg hz]
    have HFn : Hid ([l0, l1, [((2 : Int), (0 : Int))]].flatten.length = n0 + n1 + 1) := by show _ = _; simp [hl0.1, hl1.1]; omega
    have HFL : Hid ([l0, l1, [((2 : Int), (0 : Int))]].flatten = l0 ++ (l1 ++ [(2, 0)])) := by show _ = _; simp
    have HFN2 : Hid ((l0 ++ (l1 ++ [((2 : Int), (0 : Int))])).length = n0 + n1 + 1) := by show _ = _; simp [hl0.1, hl1.1]; omega
    by_cases h3 : op = 3
    · subst h3
      have hz' : (lsgR l1 s == 0) = false := by simp; exact fun h => hz ⟨rfl, h⟩
      obtain ⟨v, hv⟩ : ∃ v, lsgR l1 s = v := ⟨_, rfl⟩
      rw [hv] at hz'
      have HV := Lib.hid hv
      clear hz hv
      go_enter Tryz.func151, Tryz.ntmps151
      go_wp2_with fail
      refine (implLevelSign_any w B A1 n1 c1 l1 s T pv h0 hB hl1 (by omega) hE).mono ?_
      rintro e w2 ⟨rfl, hb12⟩
      rw [HV.out]
      have HS2 := Lib.hid hb12.size
      obtain ⟨q0, rfl, hq0⟩ := (hl0.below (hb12.mono hB)).tokA (by omega)
      obtain ⟨q1, rfl, hq1⟩ := (hl1.below (hb12.mono hB)).tokA (by omega)
      have HPt := Lib.hid (parts3 (c0 := c0) (c1 := c1) 2 (Nat.le_trans hB hb12.size) hq0 hq1 hl0.1 hl1.1)
      have HBA := Lib.hid ((hb12.alloc hb12.size (.cells #[.int .i64 2, .int .i64 0] 51)).alloc (by simp; exact Nat.le_succ_of_le hb12.size) (.cells #[.slice (some q0) n0 c0, .slice (some q1) n1 c1, .slice (some ⟨w2.heap.size, 0, none⟩) 1 1] 25))
      clear hq0 hq1 hb12
      go_wp2_with fail
      refine (concat_any _ (w2.heap.size + 2) (w2.heap.size + 1) 3 _ _ [l0, l1, [(2, 0)]] (by simp) HPt.out (by simp) (by rw [HFn.out]; omega) (by rw [HFn.out]; omega)).mono ?_
      rintro e w3 ⟨g3, c3, rfl, ho3, hb3⟩
      rw [HFn.out] at ho3 ⊢
      rw [HFL.out] at ho3
      have HO3 := Lib.hid (own_base (base' := w.heap.size) ho3 (by have := HS2.out; simp; omega))
      have HB3 := Lib.hid (HBA.out.trans (hb3.mono (by have := HS2.out; simp; omega)))
      clear ho3 hb3 HBA HPt
      go_wp2
      go_ret
      rw [HJ.out]
      exact ⟨_, _, by rw [HFN2.out]; rfl, by rw [HFN2.out]; exact HO3.out, HB3.out⟩
    · have d3 : (op == 3) = false := by simpa using h3
      have HS2 : Hid (w.heap.size ≤ w.heap.size) := Nat.le_refl _
      obtain ⟨q0, rfl, hq0⟩ := hl0.tokA (by omega)
      obtain ⟨q1, rfl, hq1⟩ := hl1.tokA (by omega)
      have HPt := Lib.hid (parts3 (c0 := c0) (c1 := c1) 2 hB hq0 hq1 hl0.1 hl1.1)
      have HBA := Lib.hid (((Below.refl w.heap.size w).alloc (Nat.le_refl _) (.cells #[.int .i64 2, .int .i64 0] 51)).alloc (by simp) (.cells #[.slice (some q0) n0 c0, .slice (some q1) n1 c1, .slice (some ⟨w.heap.size, 0, none⟩) 1 1] 25))
      clear hq0 hq1 hz h3
      go_enter Tryz.func151, Tryz.ntmps151
      go_wp2_with fail
      refine (concat_any _ (w.heap.size + 2) (w.heap.size + 1) 3 _ _ [l0, l1, [(2, 0)]] (by simp) HPt.out (by simp) (by rw [HFn.out]; omega) (by rw [HFn.out]; omega)).mono ?_
      rintro e w3 ⟨g3, c3, rfl, ho3, hb3⟩
      rw [HFn.out] at ho3 ⊢
      rw [HFL.out] at ho3
      have HO3 := Lib.hid (own_base (base' := w.heap.size) ho3 (by simp; omega))
      have HB3 := Lib.hid (HBA.out.trans (hb3.mono (by simp; omega)))
      clear ho3 hb3 HBA HPt HS2
      go_wp2
      go_ret
      rw [HJ.out]
      exact ⟨_, _, by rw [HFN2.out]; rfl, by rw [HFN2.out]; exact HO3.out, HB3.out⟩
end Go.Proofs.YtgebjnoicgmdoaaGreatDoor

namespace Go.Proofs.YtgebjnoicgmdoaaGreatDoor
open Go.Proofs.YtgebjnoicgmdoaaGreatDoor.Lv

namespace Nm
theorem pstep_frame {t : Tk} {u x st : List (List At)} (h : pstep t u = some x) : pstep t (u ++ st) = some (x ++ st) := by
  unfold pstep at h ⊢
  by_cases hok : tkOk t = true
  · rw [if_pos hok] at h ⊢
    by_cases h0 : t.1 = 0
    · rw [if_pos h0] at h ⊢; injection h with h; subst h; rfl
    · rw [if_neg h0] at h ⊢
      by_cases h4 : t.1 = 4
      · rw [if_pos h4] at h ⊢; injection h with h; subst h; rfl
      · rw [if_neg h4] at h ⊢
        by_cases h1 : t.1 = 1
        · rw [if_pos h1] at h ⊢
          match u, h with
          | a :: r, h => simp only at h; injection h with h; subst h; rfl
          | [], h => simp at h
        · rw [if_neg h1] at h ⊢
          by_cases h2 : t.1 = 2
          · rw [if_pos h2] at h ⊢
            match u, h with
            | b :: a :: r, h => simp only at h; injection h with h; subst h; rfl
            | [b], h => simp at h
            | [], h => simp at h
          · rw [if_neg h2] at h; cases h
  · rw [if_neg hok] at h; cases h
theorem prun_frame {l : List Tk} (st : List (List At)) : ∀ {u x : List (List At)}, prun l u = some x → prun l (u ++ st) = some (x ++ st) := by
  induction l with
  | nil => intro u x h; simp only [prun] at h ⊢; injection h with h; subst h; rfl
  | cons t r ih =>
    intro u x h
    simp only [prun] at h ⊢
    cases hq : pstep t u with
    | none => rw [hq] at h; cases h
    | some y =>
      rw [hq, Option.bind_some] at h
      rw [pstep_frame hq, Option.bind_some]
      exact ih h
/-- a level without imax whose leaves are these atoms -/
def TRel (ts : List Tk) (a : List At) : Prop := prun ts [] = some [a] ∧ ∀ t ∈ ts, t.1 ≠ 3
theorem TRel.ok {ts : List Tk} {a : List At} (h : TRel ts a) (hl : ts.length ≤ 24) : levelOk ts = true := by
  have h1 := prun_height h.2 []
  rw [h.1] at h1
  have hn : 1 ≤ ts.length := by
    cases ts with
    | nil => have := h.1; simp [prun] at this
    | cons => simp
  simp only [levelOk, Bool.and_eq_true, decide_eq_true_eq]
  exact ⟨⟨hn, hl⟩, by simpa using h1.symm⟩
theorem TRel.pos {ts : List Tk} {a : List At} (h : TRel ts a) : 1 ≤ ts.length := by
  cases ts with
  | nil => have := h.1; simp [prun] at this
  | cons => simp
theorem trel_zero : TRel [(0, 0)] [(-1, 0)] := ⟨by decide, by simp⟩
theorem trel_leaf {s y : Int} (h0 : 0 ≤ y) (h5 : y < 5) : TRel [leafT s (4, y)] [pl s (y, 0)] := by
  unfold leafT pl
  cases hh : Sg.has s y with
  | true =>
    simp only [Bool.true_eq_false, and_false, if_false]
    refine ⟨?_, by simp⟩
    simp [prun, pstep, tkOk, h0, h5]
  | false =>
    simp only [and_self, if_true, h0]
    exact trel_zero
theorem trel_succ {ts : List Tk} {a : List At} (h : TRel ts a) : TRel (ts ++ [(1, 0)]) (up 1 a) := by
  refine ⟨?_, fun t ht => ?_⟩
  · rw [prun_append, h.1]; rfl
  · rcases List.mem_append.1 ht with ht | ht
    · exact h.2 t ht
    · obtain rfl : t = (1, 0) := by simpa using ht
      simp
theorem trel_join {ta tb : List Tk} {a b : List At} (ha : TRel ta a) (hb : TRel tb b) : TRel (ta ++ (tb ++ [(2, 0)])) (a ++ b) := by
  refine ⟨?_, fun t ht => ?_⟩
  · rw [prun_append, ha.1, Option.bind_some, prun_append]
    have := prun_frame [a] hb.1
    rw [List.nil_append] at this
    rw [this]; rfl
  · rcases List.mem_append.1 ht with ht | ht
    · exact ha.2 t ht
    · rcases List.mem_append.1 ht with ht | ht
      · exact hb.2 t ht
      · obtain rfl : t = (2, 0) := by simpa using ht
        simp
theorem least_pos (s : Int) : Pos (Sg.least s) := fun x hx => ((envOk_mem (Sg.least_ok s)).2 x hx).1
theorem least_has {s p : Int} (h : Sg.has s p = true) : (Sg.least s).getD p.toNat 0 = 1 := by
  have hp : 0 ≤ p ∧ p < 5 := by unfold Sg.has at h; simp at h; omega
  rw [Sg.least_get s p.toNat (by omega)]
  unfold Sg.bit
  rw [show ((p.toNat : Nat) : Int) = p by omega, h, if_pos rfl]
theorem value_zero {s : Int} {a : List At} (hp : Pst s a) (hok : AllOk a) : value (Sg.least s) a = 0 ↔ zeroL a = true := by
  rw [zeroL_iff]
  constructor
  · intro h x hx
    have hv := value_mem (env := Sg.least s) hx
    have hm := hok.mem hx
    rw [h] at hv
    obtain ⟨p, y⟩ := x
    unfold val at hv
    simp only at hv hm
    rcases hp _ hx with e | e
    · simp only at e
      subst e
      rw [if_pos rfl] at hv
      have : y = 0 := by omega
      rw [this]
    · simp only at e
      have hl := least_has e
      have hpp : p ≠ -1 := by intro h; subst h; simp [Sg.has] at e
      rw [if_neg hpp, hl] at hv
      omega
  · intro h
    have h1 := value_ge (Sg.least s) a
    have h2 := value_le (env := Sg.least s) (l := a) (v := 0) (by omega) (fun x hx => by rw [h x hx]; simp [val])
    omega
theorem lsg_zero {s : Int} {ts : List Tk} {a : List At} (h : TRel ts a) (hl : ts.length ≤ 24) (hs : Sg.isSign s = true) (hp : Pst s a) (hok : AllOk a) : lsgR ts s = 0 ↔ zeroL a = true := by
  have hlo := h.ok hl
  have he := eval_leafs (least_pos s) hlo h.2
  rw [leafs_of h.1, value_norm (least_pos s) hok] at he
  rw [lsgR_some hs (v := value (Sg.least s) a) (by simp [evalR, Sg.least_ok, he]), ← value_zero hp hok]
  have := value_ge (Sg.least s) a
  omega
/-- rows of tokens that stand for the pile, both with their tops first -/
def TS : List (List Tk) → List (List At) → Prop
  | [], [] => True
  | t :: ts, a :: st => TRel t a ∧ TS ts st
  | _, _ => False
theorem TS.len : ∀ {ts : List (List Tk)} {st : List (List At)}, TS ts st → ts.length = st.length
  | [], [], _ => rfl
  | _ :: ts, _ :: st, h => by rw [List.length_cons, List.length_cons, TS.len h.2]
  | [], _ :: _, h => h.elim
  | _ :: _, [], h => h.elim
/-- the program's pile behind a token -/
theorem ts_join {s op : Int} {ta tb : List Tk} {a b : List At} (ha : TRel ta a) (hb : TRel tb b) (hl : tb.length ≤ 24) (hs : Sg.isSign s = true) (hp : Pst s b) (hok : AllOk b) : TRel (joinT s op ta tb) (if op = 3 ∧ zeroL b = true then [(-1, 0)] else a ++ b) := by
  unfold joinT
  have hz := lsg_zero hb hl hs hp hok
  by_cases h : op = 3 ∧ zeroL b = true
  · rw [if_pos h, if_pos ⟨h.1, hz.2 h.2⟩]; exact trel_zero
  · rw [if_neg h, if_neg (fun hh => h ⟨hh.1, hz.1 hh.2⟩)]; exact trel_join ha hb
theorem joinT_len (s op : Int) (ta tb : List Tk) : (joinT s op ta tb).length ≤ ta.length + tb.length + 1 := by
  unfold joinT
  split <;> simp <;> omega
end Nm
end Go.Proofs.YtgebjnoicgmdoaaGreatDoor

namespace Go.Proofs.YtgebjnoicgmdoaaGreatDoor
open Go.RowKit

/-- a row of atoms of the call's own, wherever in its block it begins -/
def OwnO (w : World) (base : Nat) (A : Option Addr) (n c : Nat) (xs : List Value) : Prop :=
  xs.length = n * 2 ∧ ((A = none ∧ n = 0 ∧ c = 0) ∨ ∃ g o cur, A = some ⟨g, o, none⟩ ∧ base ≤ g ∧ Blk w g 92 cur ∧ n ≤ c ∧ o + c * 2 = cur.size ∧ ∀ j, j < n * 2 → cur[o + j]? = xs[j]?)
theorem OwnO.of {w : World} {base : Nat} {A : Option Addr} {n c : Nat} {xs : List Value} (h : w.ownsRow base 92 2 (.slice A n c) n xs) : OwnO w base A n c xs := by
  refine ⟨h.1, ?_⟩
  rcases h.2 with ⟨h0, h1⟩ | ⟨g, cap, cur, hv, hb, hgg, h1, h2, h3, h4⟩
  · injection h0 with e1 e2 e3
    exact .inl ⟨e1, h1, e3⟩
  · injection hv with e1 e2 e3
    subst e3
    refine .inr ⟨g, 0, cur, e1, hb, hgg, h1, by omega, fun j hj => ?_⟩
    rw [Nat.zero_add, ← h4, List.getElem?_take_of_lt hj, Array.getElem?_toList]
theorem OwnO.tail {w : World} {base g n c : Nat} {l : List (Int × Int)} (h : OwnA w base (some ⟨g, 0, none⟩) (n + 1) c l) : OwnO w base (some ⟨g, 2, none⟩) n (c - 1) (tokCells (l.drop 1)) := by
  have hl : l.length = n + 1 := by have := h.1; rw [tokCells_len] at this; omega
  rcases h.2 with ⟨h0, h1⟩ | ⟨g', cap, cur, hv, hb, hgg, h1, h2, h3, h4⟩
  · cases h0
  · injection hv with e1 e2 e3
    injection e1 with e1
    injection e1 with e1
    subst e1; subst e3
    refine ⟨by rw [tokCells_len, List.length_drop]; omega, .inr ⟨g, 2, cur, rfl, hb, hgg, by omega, by omega, fun j hj => ?_⟩⟩
    match l, hl with
    | a :: r, hl =>
      have ht : tokCells (a :: r) = .int .i64 a.1 :: .int .i64 a.2 :: tokCells r := rfl
      have h5 : (cur.toList.take ((n + 1) * 2))[2 + j]? = (tokCells (a :: r))[2 + j]? := by rw [h4]
      rw [List.getElem?_take_of_lt (by omega), Array.getElem?_toList, ht] at h5
      rw [h5, show 2 + j = j + 1 + 1 by omega, List.getElem?_cons_succ, List.getElem?_cons_succ, List.drop_one, List.tail_cons]
theorem OwnO.lt {w : World} {base : Nat} {A : Option Addr} {n c : Nat} {xs : List Value} (h : OwnO w base A n c xs) (k : Nat) (hk : (Value.slice A n c).ownBlock = some k) : base ≤ k ∧ k < w.heap.size := by
  rcases h.2 with ⟨rfl, _⟩ | ⟨g, o, cur, rfl, hb, hblk, _⟩
  · cases hk
  · have : g = k := by simpa [Value.ownBlock] using hk
    subst this
    exact ⟨hb, hblk.lt⟩
theorem at_below {w w' : World} {B base : Nat} {A : Option Addr} {n c : Nat} {xs : List Value} (h : OwnO w base A n c xs) (hb : Below B w w') (hB : ∀ k, (Value.slice A n c).ownBlock = some k → k < B) : OwnO w' base A n c xs := by
  refine ⟨h.1, ?_⟩
  rcases h.2 with hn | ⟨g, o, cur, rfl, hbg, hblk, rest⟩
  · exact .inl hn
  · exact .inr ⟨g, o, cur, rfl, hbg, (hb.block g (hB g rfl)).trans hblk, rest⟩
theorem at_below' {w w' : World} {base : Nat} {A : Option Addr} {n c : Nat} {xs : List Value} (h : OwnO w base A n c xs) (hb : Below w.heap.size w w') : OwnO w' base A n c xs :=
  at_below h hb (fun k hk => (h.lt k hk).2)
theorem at_base {w : World} {base base' : Nat} {A : Option Addr} {n c : Nat} {xs : List Value} (h : OwnO w base A n c xs) (hb : base' ≤ base) : OwnO w base' A n c xs := by
  refine ⟨h.1, ?_⟩
  rcases h.2 with hn | ⟨g, o, cur, rfl, hbg, rest⟩
  · exact .inl hn
  · exact .inr ⟨g, o, cur, rfl, by omega, rest⟩
theorem at_kept {w w' : World} {base : Nat} {A : Option Addr} {n c : Nat} {xs : List Value} {row : Option Nat} (h : OwnO w base A n c xs) (hg : w.grownBy w' row) (hne : ∀ k, (Value.slice A n c).ownBlock = some k → row ≠ some k) : OwnO w' base A n c xs := by
  refine ⟨h.1, ?_⟩
  rcases h.2 with hn | ⟨g, o, cur, rfl, hbg, hblk, rest⟩
  · exact .inl hn
  · exact .inr ⟨g, o, cur, rfl, hbg, (hg.block g hblk.lt (fun e => hne g rfl e.symm)).trans hblk, rest⟩
theorem at_reads {w : World} {base : Nat} {A : Option Addr} {n c : Nat} {l : List (Int × Int)} (h : OwnO w base A n c (tokCells l)) : TokR w w.heap.size A n l := by
  have hl : l.length = n := by have := h.1; rw [tokCells_len] at this; omega
  refine ⟨hl, fun hn => ?_⟩
  rcases h.2 with ⟨_, h0, _⟩ | ⟨g, o, cur, rfl, hb, hblk, h1, h2, h3⟩
  · omega
  · refine ⟨g, o, rfl, hblk.lt, fun k hk => ?_⟩
    have ht := tokCells_at l k (by omega)
    have h5 := (hblk.cell (o + k * 2)).trans ((h3 (k * 2) (by omega)).trans ht.1)
    have h6 := (hblk.cell (o + k * 2 + 1)).trans ((h3 (k * 2 + 1) (by omega)).trans ht.2)
    exact ⟨h5, h6⟩

end Go.Proofs.YtgebjnoicgmdoaaGreatDoor
