/- NormOf and NormMax of the program and of the reference model. -/
/- NormUp, put together. -/
/- slices.Contains over tokens; LevelParams of the program and of the reference model. -/
import Derived.Test.YtgebjnoicgmdoaaGreatDoorNNorm
import Derived.Test.YtgebjnoicgmdoaaGreatDoorRsMath
import Derived.Test.YtgebjnoicgmdoaaGreatDoorAtLaws
import Derived.Test.YtgebjnoicgmdoaaGreatDoorNMap
import Derived.Test.YtgebjnoicgmdoaaGreatDoorMarks
import Derived.Test.YtgebjnoicgmdoaaGreatDoorROk0

namespace Go.Proofs.YtgebjnoicgmdoaaGreatDoor
open Go.RowKit Go.Maps

theorem normOf_no {l : List (Int × Int)} (h : ¬ (1 ≤ l.length ∧ l.length ≤ 100 ∧ Nm.AllOk l)) : Nm.normOf l = none := by unfold Nm.normOf; rw [if_neg h]
theorem normOf_yes {l : List (Int × Int)} (h : 1 ≤ l.length ∧ l.length ≤ 100 ∧ Nm.AllOk l) : Nm.normOf l = some (Nm.norm l) := by unfold Nm.normOf; rw [if_pos h]

/-- the keys that are left, where the number is redundant -/
def cutB (l : List (Int × Int)) (p : Int) : Bool := if p = -1 then false else hasB l p
theorem cut_reads {D : DataW Unit} {l : List (Int × Int)} (h : GM D l) : Reads (D.del (ik (-1))) (cutB l) (fun p => Nm.best p l) := by
  intro p
  by_cases e : p = -1
  · subst e
    exact ⟨by rw [has_del_same]; simp [cutB], fun h => by simp [cutB] at h⟩
  · have h1 := h p
    refine ⟨by rw [has_del_other (ik_ne e), h1.1]; simp [cutB, e], fun hu z => ?_⟩
    rw [atKey_del_other (ik_ne e)]
    exact h1.2 (by simpa [cutB, e] using hu) z
theorem keep_of_red {l : List (Int × Int)} (h : redB l = true) : Nm.readOut (cutB l) (fun p => Nm.best p l) 6 = Nm.norm l := by
  rw [← Nm.readOut_norm]
  refine Nm.readOut_congr 6 fun p h1 h2 => ⟨?_, fun _ => rfl⟩
  simp only [redB, decide_eq_true_eq] at h
  unfold cutB Nm.keepB hasB
  split
  · symm; simp; omega
  · rfl
theorem keep_of_not {l : List (Int × Int)} (h : redB l = false) : Nm.readOut (hasB l) (fun p => Nm.best p l) 6 = Nm.norm l := by
  rw [← Nm.readOut_norm]
  refine Nm.readOut_congr 6 fun p h1 h2 => ⟨?_, fun _ => rfl⟩
  simp only [redB, decide_eq_false_iff_not] at h
  have g1 := Nm.most_ge l 5
  have g2 := Nm.best_ge (-1) l
  unfold Nm.keepB hasB
  split
  · rename_i e; subst e
    rw [decide_eq_decide]
    omega
  · rfl

set_option maxRecDepth 100000 in
set_option maxHeartbeats 1600000 in
theorem implNormOf_any (w : World) (B : Nat) (A : Option Addr) (n c : Nat) (l : List (Int × Int)) (hB : B ≤ w.heap.size) (hl : TokR w B A n l) (hn : (n : Int) ≤ 140737488355328) :
    Calls Tryz.prog 148 #[.slice A n c] w (ResA w (Nm.normOf l)) := by
  have hln := hl.1
  by_cases h1 : n = 0
  · subst h1
    have HF : Hid (Nm.normOf l = none) := normOf_no (fun h => by have := h.1; omega)
    clear hl
    go_enter Tryz.func148, Tryz.ntmps148
    go_wp2
    go_ret2
    rw [HF.out]
    exact resA_none (Below.refl _ _)
  · have d1 : ((n : Int) == 0) = false := by simp; omega
    by_cases h100 : 100 < n
    · have HF : Hid (Nm.normOf l = none) := normOf_no (fun h => by have := h.2.1; omega)
      have h100' : (100 : Int) < (n : Int) := by omega
      clear hl
      go_enter Tryz.func148, Tryz.ntmps148
      go_wp2
      go_ret2
      rw [HF.out]
      exact resA_none (Below.refl _ _)
    · have d2 : decide ((100 : Int) < (n : Int)) = false := by simp; omega
      cases hall : Nm.allOk l with
      | false =>
        have HF : Hid (Nm.normOf l = none) := normOf_no (fun h => by rw [(Nm.allOk_iff l).2 h.2.2] at hall; cases hall)
        have HA := Lib.hid hall
        clear hall
        go_enter Tryz.func148, Tryz.ntmps148
        go_wp2_with fail
        refine (atomsOk_any w B A n c l hB hl hn).mono ?_
        rintro e w1 ⟨rfl, hb1⟩
        rw [HA.out]
        go_wp2
        go_ret2
        rw [HF.out]
        exact resA_none hb1
      | true =>
        have hok := (Nm.allOk_iff l).1 hall
        have HF : Hid (Nm.normOf l = some (Nm.norm l)) := normOf_yes ⟨by omega, by omega, hok⟩
        have HA := Lib.hid hall
        have HOK := Lib.hid hok
        have hkey : keyOf Tryz.prog 3 (.int .i64 (-1)) = some (.int .i64 (-1)) := keyOf_int_mk Tryz.underlying3 (WalkArith.wf_i64 (by omega))
        clear hall hok
        go_enter Tryz.func148, Tryz.ntmps148
        go_wp2_with fail
        refine (atomsOk_any w B A n c l hB hl hn).mono ?_
        rintro e w1 ⟨rfl, hb1⟩
        rw [HA.out]
        go_wp2_with fail
        refine (greatestOffs_any w1 B A n c l (Nat.le_trans hB hb1.size) (hl.below (hb1.mono hB)) (by omega) HOK.out).mono ?_
        rintro e w2 ⟨D, rfl, hm2, hg2, hb2⟩
        have hB2 := hb1.trans (hb2.mono hb1.size)
        have HG := Lib.hid hg2
        have hw1 := hb1.size
        have hmlt := hm2.lt
        clear hb1 hb2 hg2 hl hln
        go_wp2_with fail
        refine (numberIsRedundant_any w2 w1.heap.size n D l hm2 HG.out HOK.out).mono ?_
        rintro e w3 ⟨rfl, hb3⟩
        have hm3 : w3.ownsMap Tryz.prog 3 (plainElem Tryz.prog 3) w1.heap.size n D := by
          obtain ⟨es, clock, hbb, rest⟩ := hm2
          exact ⟨es, clock, (hb3.block _ hmlt).trans hbb, rest⟩
        have hB3 := hB2.trans (hb3.mono hB2.size)
        clear hb3 hm2 hB2
        cases hred : redB l with
        | true =>
          have HK := Lib.hid (keep_of_red hred)
          clear hred
          go_wp2_with (at_delete; refine wpList_delete_own _ rfl _ _ 214 3 rfl 3 lawInt Tryz.underlying214 _ w1.heap.size n D rfl hm3 _ _ rfl hkey ?_; intro w4 hm4 ht4)
          have hB4 : Below w.heap.size w w4 := hB3.grown ht4.grown hB3.size (fun j hj => by cases hj; exact hw1)
          clear hm3 hB3 ht4
          go_wp2_with fail
          refine (sortedAtoms_any w4 w1.heap.size n _ (cutB l) (fun p => Nm.best p l) hm4 (cut_reads HG.out) (fun p hp => best_range HOK.out (by unfold cutB hasB at hp; split at hp; cases hp; simpa using hp))).mono ?_
          rintro e w5 ⟨A5, c5, rfl, ho5, hb5⟩
          rw [HK.out] at ho5 ⊢
          have HO := Lib.hid (own_base ho5 hB4.size)
          have HB := Lib.hid (hB4.trans (hb5.mono hB4.size))
          clear ho5 hb5
          go_wp2
          go_ret2
          rw [HF.out]
          exact ⟨A5, c5, rfl, HO.out, HB.out⟩
        | false =>
          have HK := Lib.hid (keep_of_not hred)
          clear hred
          go_wp2_with fail
          refine (sortedAtoms_any w3 w1.heap.size n _ (hasB l) (fun p => Nm.best p l) hm3 HG.out (fun p hp => best_range HOK.out (by unfold hasB at hp; simpa using hp))).mono ?_
          rintro e w5 ⟨A5, c5, rfl, ho5, hb5⟩
          rw [HK.out] at ho5 ⊢
          have HO := Lib.hid (own_base ho5 hB3.size)
          have HB := Lib.hid (hB3.trans (hb5.mono hB3.size))
          clear ho5 hb5
          go_wp2
          go_ret2
          rw [HF.out]
          exact ⟨A5, c5, rfl, HO.out, HB.out⟩
end Go.Proofs.YtgebjnoicgmdoaaGreatDoor

namespace Go.Proofs.YtgebjnoicgmdoaaGreatDoor
open Go.RowKit

theorem up_len (l : List (Int × Int)) (x : Int) : (Nm.up x l).length = l.length := by simp [Nm.up]

/-- the first j of the atoms are raised -/
def Half (l m : List (Int × Int)) (x : Int) (j : Nat) : Prop := m.length = l.length ∧ ∀ i, i < l.length → m.getD i (0, 0) = if i < j then ((l.getD i (0, 0)).1, (l.getD i (0, 0)).2 + x) else l.getD i (0, 0)
theorem half_start (l : List (Int × Int)) (x : Int) : Half l l x 0 := ⟨rfl, fun i _ => by simp⟩
theorem half_step {l m : List (Int × Int)} {x : Int} {j : Nat} (h : Half l m x j) (hj : j < l.length) {p y : Int} (hp : l.getD j (0, 0) = (p, y)) : Half l (m.set j (p, y + x)) x (j + 1) := by
  refine ⟨by rw [List.length_set]; exact h.1, fun i hi => ?_⟩
  by_cases e : i = j
  · subst e
    rw [if_pos (by omega), hp]
    simp [List.getD_eq_getElem?_getD, h.1, hj]
  · have := h.2 i hi
    rw [List.getD_eq_getElem?_getD, List.getElem?_set_ne (by omega), ← List.getD_eq_getElem?_getD, this]
    by_cases hij : i < j
    · rw [if_pos hij, if_pos (by omega)]
    · rw [if_neg hij, if_neg (by omega)]
theorem half_end {l m : List (Int × Int)} {x : Int} (h : Half l m x l.length) : m = Nm.up x l := by
  apply List.ext_getElem (by rw [up_len]; exact h.1)
  intro i h1 h2
  have := h.2 i (by rw [← h.1]; exact h1)
  rw [if_pos (by rw [← h.1]; exact h1)] at this
  have hl : i < l.length := by rw [← h.1]; exact h1
  simpa [Nm.up, List.getD_eq_getElem?_getD, List.getElem?_eq_getElem h1, List.getElem?_eq_getElem hl] using this
theorem half_at {l m : List (Int × Int)} {x : Int} {j : Nat} (h : Half l m x j) (hj : j < l.length) : m[j]? = some (l.getD j (0, 0)) := by
  have := h.2 j hj
  rw [if_neg (by omega)] at this
  rw [← this, List.getD_eq_getElem?_getD, List.getElem?_eq_getElem (by rw [h.1]; exact hj)]
  rfl

end Go.Proofs.YtgebjnoicgmdoaaGreatDoor

namespace Go.Proofs.YtgebjnoicgmdoaaGreatDoor
open Go.RowKit

theorem mem_getD {l : List (Int × Int)} {t : Int × Int} {k : Nat} (hk : k < l.length) (h : l.getD k (0, 0) = t) : t ∈ l := by
  rw [List.getD_eq_getElem?_getD, List.getElem?_eq_getElem hk, Option.getD_some] at h
  rw [← h]; exact List.getElem_mem hk
theorem not_mem_of {l : List (Int × Int)} {t : Int × Int} (h : ∀ j, j < l.length → l.getD j (0, 0) ≠ t) : t ∉ l := by
  intro hm
  obtain ⟨j, hj, e⟩ := List.mem_iff_getElem.1 hm
  apply h j hj
  rw [List.getD_eq_getElem?_getD, List.getElem?_eq_getElem hj, Option.getD_some, e]

/-- what Index answers: a place of t, or -1 -/
def IndexOut (w : World) (l : List (Int × Int)) (t : Int × Int) (e : Ending) (w' : World) : Prop :=
  ∃ r : Int, e = .returned (.int .i64 r) ∧ Below w.heap.size w w' ∧ (t ∈ l → 0 ≤ r) ∧ (t ∉ l → r = -1) ∧ -1 ≤ r ∧ r ≤ 1048576

set_option maxRecDepth 100000 in
set_option maxHeartbeats 800000 in
theorem index_any (w : World) (B : Nat) (A : Option Addr) (n c : Nat) (l : List (Int × Int)) (a b : Int) (hB : B ≤ w.heap.size) (hl : TokR w B A n l) (hn : n ≤ 1048576) :
    Calls Tryz.prog 160 #[.slice A n c, .agg #[.int .i64 a, .int .i64 b]] w (IndexOut w l (a, b)) := by
  have HB : Hid (Below w.heap.size w (w.alloc (.cells #[.int .i64 a, .int .i64 b] 51))) := (Below.refl _ _).alloc (Nat.le_refl _) _
  have HK : Hid (Blk (w.alloc (.cells #[.int .i64 a, .int .i64 b] 51)) w.heap.size 51 #[.int .i64 a, .int .i64 b]) := Blk.made _ _ _
  go_enter Tryz.func160, Tryz.ntmps160
  go_wp2
  go_loopw [8] (fun i wr => ∃ k : Nat, k ≤ n ∧ i = .int .i64 k ∧ Hid (∀ j, j < k → l.getD j (0, 0) ≠ (a, b)) ∧ Below w.heap.size w wr ∧ Blk wr w.heap.size 51 #[.int .i64 a, .int .i64 b]) (fun i _ => n - (intOf i).toNat)
  case atStart => exact ⟨0, Nat.zero_le _, rfl, (fun j hj => absurd hj (by omega)), HB.out, HK.out⟩
  case round =>
    obtain ⟨k, hk, rfl, HA, hbel, hblk⟩ := hrel
    by_cases hlt : k < n
    · obtain ⟨b1, off, rfl, hb1, hc⟩ := hl.2 (by omega)
      obtain ⟨x1, x2⟩ := hc k hlt
      obtain ⟨t, ht⟩ : ∃ t, l.getD k (0, 0) = t := ⟨_, rfl⟩
      rw [ht] at x1 x2
      obtain ⟨p, q⟩ := t
      have HT := Lib.hid ht
      have k1 := (hbel.cell (p := ⟨b1, off + k * 2, none⟩) (by show b1 < _; omega)).trans x1
      have k2 := (hbel.cell (p := ⟨b1, off + k * 2 + 1, none⟩) (by show b1 < _; omega)).trans x2
      have k3 : wr.cell? ⟨w.heap.size, 0, none⟩ = some (.int .i64 a) := hblk.cell 0
      have k4 : wr.cell? ⟨w.heap.size, 1, none⟩ = some (.int .i64 b) := hblk.cell 1
      have HD := Lib.hid hbel.drew
      have HKD : Hid (Blk wr.drew w.heap.size 51 #[.int .i64 a, .int .i64 b]) := hblk
      have HL := Lib.hid hl.1
      clear x1 x2 hc ht hl hblk
      by_cases heq : (p, q) = (a, b)
      · injection heq with e1 e2
        subst e1; subst e2
        have HM : Hid ((p, q) ∈ l) := mem_getD (by rw [HL.out]; exact hlt) HT.out
        go_wp2_with fail
        refine region_tail 5 (by kernel_rfl) (by kernel_rfl) ?_
        simp only [List.take_succ_cons, List.take_zero, List.drop_succ_cons, List.drop_zero]
        repeat still_step
        refine wpStill_nil ?_
        go_wp2
        go_ret
        exact ⟨k, rfl, HD.out, fun _ => by omega, fun h => absurd HM.out h, by omega, by omega⟩
      · have HA2 : Hid (∀ j, j < k + 1 → l.getD j (0, 0) ≠ (a, b)) := by
          intro j hj
          by_cases e : j = k
          · subst e; rw [HT.out]; exact heq
          · exact HA.out j (by omega)
        by_cases e1 : a = p
        · subst e1
          have e2 : (b == q) = false := by
            rw [beq_eq_false_iff_ne]
            intro h
            apply heq
            rw [h]
          clear heq
          go_wp2_with fail
          refine region_tail 5 (by kernel_rfl) (by kernel_rfl) ?_
          simp only [List.take_succ_cons, List.take_zero, List.drop_succ_cons, List.drop_zero]
          repeat still_step
          refine wpStill_nil ?_
          go_wp2
          go_roundw
          case rel => exact ⟨k + 1, by omega, by go_num, HA2.out, HD.out, HKD.out⟩
          case measure => simp [intOf]; omega
        · have e2 : (a == p) = false := by simpa using e1
          clear heq e1
          go_wp2_with fail
          refine region_tail 5 (by kernel_rfl) (by kernel_rfl) ?_
          simp only [List.take_succ_cons, List.take_zero, List.drop_succ_cons, List.drop_zero]
          repeat still_step
          refine wpStill_nil ?_
          go_wp2
          go_roundw
          case rel => exact ⟨k + 1, by omega, by go_num, HA2.out, HD.out, HKD.out⟩
          case measure => simp [intOf]; omega
    · obtain rfl : k = n := by omega
      have HM : Hid ((a, b) ∉ l) := not_mem_of (by rw [hl.1]; exact HA.out)
      clear hl
      go_wp2
      go_ret
      exact ⟨-1, rfl, hbel, fun h => absurd h HM.out, fun _ => rfl, by omega, by omega⟩

set_option maxHeartbeats 800000 in
theorem contains_any (w : World) (B : Nat) (A : Option Addr) (n c : Nat) (l : List (Int × Int)) (a b : Int) (hB : B ≤ w.heap.size) (hl : TokR w B A n l) (hn : n ≤ 1048576) :
    Calls Tryz.prog 147 #[.slice A n c, .agg #[.int .i64 a, .int .i64 b]] w fun e w' => e = .returned (.bool (decide ((a, b) ∈ l))) ∧ Below w.heap.size w w' := by
  have hb1 : Below w.heap.size w (w.alloc (.cells #[.int .i64 a, .int .i64 b] 51)) := (Below.refl _ _).alloc (Nat.le_refl _) _
  have HT := Lib.hid (hl.below (hb1.mono hB))
  have HB := Lib.hid hb1
  clear hb1
  go_enter Tryz.func147, Tryz.ntmps147
  go_wp2_with fail
  refine (index_any _ B A n c l a b (by simp; omega) HT.out hn).mono ?_
  rintro e w1 ⟨r, rfl, hb2, hr1, hr2, hr3, hr4⟩
  have HB2 := Lib.hid (HB.out.trans (hb2.mono (by simp)))
  by_cases hm : (a, b) ∈ l
  · have hr := hr1 hm
    have HD := Lib.hid (decide_eq_true hm)
    clear hr1 hr2 hm hb2
    go_wp2
    go_ret
    exact ⟨by rw [HD.out]; rfl, HB2.out⟩
  · have hr := hr2 hm
    subst hr
    have HD := Lib.hid (decide_eq_false hm)
    clear hr1 hr2 hm hb2 hr3 hr4
    go_wp2
    go_ret
    exact ⟨by rw [HD.out]; rfl, HB2.out⟩
end Go.Proofs.YtgebjnoicgmdoaaGreatDoor
