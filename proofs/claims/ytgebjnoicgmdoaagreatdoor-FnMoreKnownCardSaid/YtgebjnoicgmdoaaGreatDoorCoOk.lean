/- NormOf and NormMax of the program and of the reference model. -/
/- The cursor's size; the draw of NormMax. -/
/- Words for memory: a table of six rows of six numbers, each row a block of the call's own. -/
/- Constraints of the reference model: l05Node, ConOk, ConsOk, l05Val, ConHolds. -/
import Derived.Test.YtgebjnoicgmdoaaGreatDoorNSort
import Derived.Test.YtgebjnoicgmdoaaGreatDoorNNorm
import Derived.Test.YtgebjnoicgmdoaaGreatDoorMeth
import Derived.Test.YtgebjnoicgmdoaaGreatDoorNMath
import Derived.Test.YtgebjnoicgmdoaaGreatDoorCls
import Derived.Test.YtgebjnoicgmdoaaGreatDoorCoMem

namespace Go.Proofs.YtgebjnoicgmdoaaGreatDoor
open Go.RowKit Go.Maps

theorem normOf_no {l : List (Int × Int)} (h : ¬ (1 ≤ l.length ∧ l.length ≤ 100 ∧ Nm.AllOk l)) : Nm.normOf l = none := by unfold Nm.normOf; rw [if_neg h]
theorem normOf_yes {l : List (Int × Int)} (h : 1 ≤ l.length ∧ l.length ≤ 100 ∧ Nm.AllOk l) : Nm.normOf l = some (Nm.norm l) := by unfold Nm.normOf; rw [if_pos h]

/-- the keys that are left, where the number is redundant -/
def cutB (l : List (Int × Int)) (p : Int) : Bool := if p = -1 then false else hasB l p
theorem cut_reads {D : DataW Unit} {l : List (Int × Int)} (h : GM D l) : Reads (D.del (ik (-1))) (cutB l) (fun p => Nm.best p l) := by
  intro p
  by_cases e : p = -1
  · subst e
    exact ⟨by rw [has_del_same]; simp [cutB], fun h => by simp [cutB] at h⟩
  · have h1 := h p
    refine ⟨by rw [has_del_other (ik_ne e), h1.1]; simp [cutB, e], fun hu z => ?_⟩
    rw [atKey_del_other (ik_ne e)]
    exact h1.2 (by simpa [cutB, e] using hu) z
theorem keep_of_red {l : List (Int × Int)} (h : redB l = true) : Nm.readOut (cutB l) (fun p => Nm.best p l) 6 = Nm.norm l := by
  rw [← Nm.readOut_norm]
  refine Nm.readOut_congr 6 fun p h1 h2 => ⟨?_, fun _ => rfl⟩
  simp only [redB, decide_eq_true_eq] at h
  unfold cutB Nm.keepB hasB
  split
  · symm; simp; omega
  · rfl
theorem keep_of_not {l : List (Int × Int)} (h : redB l = false) : Nm.readOut (hasB l) (fun p => Nm.best p l) 6 = Nm.norm l := by
  rw [← Nm.readOut_norm]
  refine Nm.readOut_congr 6 fun p h1 h2 => ⟨?_, fun _ => rfl⟩
  simp only [redB, decide_eq_false_iff_not] at h
  have g1 := Nm.most_ge l 5
  have g2 := Nm.best_ge (-1) l
  unfold Nm.keepB hasB
  split
  · rename_i e; subst e
    rw [decide_eq_decide]
    omega
  · rfl

set_option maxRecDepth 100000 in
set_option maxHeartbeats 1600000 in
theorem implNormOf_any (w : World) (B : Nat) (A : Option Addr) (n c : Nat) (l : List (Int × Int)) (hB : B ≤ w.heap.size) (hl : TokR w B A n l) (hn : (n : Int) ≤ 140737488355328) :
    Calls Tryz.prog 148 #[.slice A n c] w (ResA w (Nm.normOf l)) := by
  have hln := hl.1
  by_cases h1 : n = 0
  · subst h1
    have HF : Hid (Nm.normOf l = none) := normOf_no (fun h => by have := h.1; omega)
    clear hl
    go_enter Tryz.func148, Tryz.ntmps148
    go_wp2
    go_ret2
    rw [HF.out]
    exact resA_none (Below.refl _ _)
  · have d1 : ((n : Int) == 0) = false := by simp; omega
    by_cases h100 : 100 < n
    · have HF : Hid (Nm.normOf l = none) := normOf_no (fun h => by have := h.2.1; omega)
      have h100' : (100 : Int) < (n : Int) := by omega
      clear hl
      go_enter Tryz.func148, Tryz.ntmps148
      go_wp2
      go_ret2
      rw [HF.out]
      exact resA_none (Below.refl _ _)
    · have d2 : decide ((100 : Int) < (n : Int)) = false := by simp; omega
      cases hall : Nm.allOk l with
      | false =>
        have HF : Hid (Nm.normOf l = none) := normOf_no (fun h => by rw [(Nm.allOk_iff l).2 h.2.2] at hall; cases hall)
        have HA := Lib.hid hall
        clear hall
        go_enter Tryz.func148, Tryz.ntmps148
        go_wp2_with fail
        refine (atomsOk_any w B A n c l hB hl hn).mono ?_
        rintro e w1 ⟨rfl, hb1⟩
        rw [HA.out]
        go_wp2
        go_ret2
        rw [HF.out]
        exact resA_none hb1
      | true =>
        have hok := (Nm.allOk_iff l).1 hall
        have HF : Hid (Nm.normOf l = some (Nm.norm l)) := normOf_yes ⟨by omega, by omega, hok⟩
        have HA := Lib.hid hall
        have HOK := Lib.hid hok
        have hkey : keyOf Tryz.prog 3 (.int .i64 (-1)) = some (.int .i64 (-1)) := keyOf_int_mk Tryz.underlying3 (WalkArith.wf_i64 (by omega))
        clear hall hok
        go_enter Tryz.func148, Tryz.ntmps148
        go_wp2_with fail
        refine (atomsOk_any w B A n c l hB hl hn).mono ?_
        rintro e w1 ⟨rfl, hb1⟩
        rw [HA.out]
        go_wp2_with fail
        refine (greatestOffs_any w1 B A n c l (Nat.le_trans hB hb1.size) (hl.below (hb1.mono hB)) (by omega) HOK.out).mono ?_
        rintro e w2 ⟨D, rfl, hm2, hg2, hb2⟩
        have hB2 := hb1.trans (hb2.mono hb1.size)
        have HG := Lib.hid hg2
        have hw1 := hb1.size
        have hmlt := hm2.lt
        clear hb1 hb2 hg2 hl hln
        go_wp2_with fail
        refine (numberIsRedundant_any w2 w1.heap.size n D l hm2 HG.out HOK.out).mono ?_
        rintro e w3 ⟨rfl, hb3⟩
        have hm3 : w3.ownsMap Tryz.prog 3 (plainElem Tryz.prog 3) w1.heap.size n D := by
          obtain ⟨es, clock, hbb, rest⟩ := hm2
          exact ⟨es, clock, (hb3.block _ hmlt).trans hbb, rest⟩
        have hB3 := hB2.trans (hb3.mono hB2.size)
        clear hb3 hm2 hB2
        cases hred : redB l with
        | true =>
          have HK := Lib.hid (keep_of_red hred)
          clear hred
          go_wp2_with (at_delete; refine wpList_delete_own _ rfl _ _ 214 3 rfl 3 lawInt Tryz.underlying214 _ w1.heap.size n D rfl hm3 _ _ rfl hkey ?_; intro w4 hm4 ht4)
          have hB4 : Below w.heap.size w w4 := hB3.grown ht4.grown hB3.size (fun j hj => by cases hj; exact hw1)
          clear hm3 hB3 ht4
          go_wp2_with fail
          refine (sortedAtoms_any w4 w1.heap.size n _ (cutB l) (fun p => Nm.best p l) hm4 (cut_reads HG.out) (fun p hp => best_range HOK.out (by unfold cutB hasB at hp; split at hp; cases hp; simpa using hp))).mono ?_
          rintro e w5 ⟨A5, c5, rfl, ho5, hb5⟩
          rw [HK.out] at ho5 ⊢
          have HO := Lib.hid (own_base ho5 hB4.size)
          have HB := Lib.hid (hB4.trans (hb5.mono hB4.size))
          clear ho5 hb5
          go_wp2
          go_ret2
          rw [HF.out]
          exact ⟨A5, c5, rfl, HO.out, HB.out⟩
        | false =>
          have HK := Lib.hid (keep_of_not hred)
          clear hred
          go_wp2_with fail
          refine (sortedAtoms_any w3 w1.heap.size n _ (hasB l) (fun p => Nm.best p l) hm3 HG.out (fun p hp => best_range HOK.out (by unfold hasB at hp; simpa using hp))).mono ?_
          rintro e w5 ⟨A5, c5, rfl, ho5, hb5⟩
          rw [HK.out] at ho5 ⊢
          have HO := Lib.hid (own_base ho5 hB3.size)
          have HB := Lib.hid (hB3.trans (hb5.mono hB3.size))
          clear ho5 hb5
          go_wp2
          go_ret2
          rw [HF.out]
          exact ⟨A5, c5, rfl, HO.out, HB.out⟩
end Go.Proofs.YtgebjnoicgmdoaaGreatDoor

namespace Go.Proofs.YtgebjnoicgmdoaaGreatDoor
open Go.RowKit

set_option maxRecDepth 100000 in
set_option maxHeartbeats 1600000 in
theorem size8_any (w : World) (bc : Nat) (A : Option Addr) (n c K : Nat) (hc : Cur w bc A n c K) (hK : K ≤ 900000) (hn : n ≤ 1048576) :
    Calls Tryz.prog 117 #[.pointer (some ⟨bc, 0, none⟩), .int .i64 8] w fun e w' => ∃ r : Nat, e = .returned (.int .i64 r) ∧ r ≤ 8 ∧ Cur w' bc A n c (K + 1) ∧ Kp bc w w' := by
  have hcast : (n : Int) / 8 = ((n / 8 : Nat) : Int) := by omega
  have hq : n / 8 ≤ 131072 := by omega
  generalize n / 8 = q at hcast hq
  obtain ⟨hby, p, s, hblk, hp, hs⟩ := hc
  have k0 : w.cell? ⟨bc, 0, none⟩ = some (.slice A n c) := hblk.cell 0
  have HC : Hid (Cur w bc A n c K) := ⟨hby, p, s, hblk, hp, hs⟩
  clear hby hblk hp hs
  by_cases h8 : ¬ (1 + q < 8)
  · have h8' : ¬ (1 + (q : Int) < 8) := by omega
    go_enter Tryz.func117, Tryz.ntmps117
    go_wp2_with fail
    refine (pick_any w bc A n c K 9 HC.out (by omega) (by omega) hn).mono ?_
    rintro e w1 ⟨r, rfl, hr, hc1, hk1⟩
    go_wp2
    go_ret
    exact ⟨r, rfl, by omega, hc1, hk1⟩
  · have h8' : 1 + (q : Int) < 8 := by omega
    have hp := pick_any w bc A n c K (q + 2) HC.out (by omega) (by omega) hn
    have e1 : ((q + 2 : Nat) : Int) = 1 + (q : Int) + 1 := by omega
    rw [e1] at hp
    have HP := Lib.hid hp
    clear hp e1
    go_enter Tryz.func117, Tryz.ntmps117
    go_wp2_with fail
    refine HP.out.mono ?_
    rintro e w1 ⟨r, rfl, hr, hc1, hk1⟩
    go_wp2
    go_ret
    exact ⟨r, rfl, by omega, hc1, hk1⟩

end Go.Proofs.YtgebjnoicgmdoaaGreatDoor

namespace Go.Proofs.YtgebjnoicgmdoaaGreatDoor
open Go.RowKit
open Cs (Cn Tb)

theorem own_set {w : World} {base g n c size : Nat} {e : TypeId} {xs : List Value} (h : w.ownsRow base e size (.slice (some ⟨g, 0, none⟩) n c) n xs) (i : Nat) (u : Value) :
    (w.setCell ⟨g, i, none⟩ u).ownsRow base e size (.slice (some ⟨g, 0, none⟩) n c) n (xs.set i u) := by
  refine ⟨by rw [List.length_set]; exact h.1, ?_⟩
  rcases h.2 with ⟨h0, _⟩ | ⟨g', cap, cur, hv, hb, hgg, h1, h2, h3, h4⟩
  · cases h0
  · injection hv with e1 e2 e3
    injection e1 with e1
    injection e1 with e1
    subst e1; subst e3
    refine .inr ⟨g, c, _, rfl, hb, Blk.put (w := w) (t := e) hgg i u, h1, h2, by simp [h3], ?_⟩
    rw [Array.toList_setIfInBounds, List.take_set, h4]
/-- a row of a table -/
def rowL (d : Tb) (i : Nat) : List Int := (List.range 6).map fun j => d i j
theorem rowL_len (d : Tb) (i : Nat) : (rowL d i).length = 6 := by simp [rowL]
theorem rowL_get (d : Tb) (i : Nat) {j : Nat} (hj : j < 6) : (rowL d i).getD j 0 = d i j := by simp [rowL, List.getD_eq_getElem?_getD, hj]
theorem rowL_put (d : Tb) (i j : Nat) (x : Int) : (rowL d i).set j x = rowL (Cs.put d i j x) i := by
  apply List.ext_getElem (by simp [rowL])
  intro k h1 h2
  rw [List.getElem_set]
  by_cases e : j = k
  · subst e
    rw [if_pos rfl]
    simp [rowL, Cs.put]
  · rw [if_neg e]
    simp only [rowL, List.getElem_map, List.getElem_range]
    exact (Cs.put_other d x (fun h => e h.2.symm)).symm
theorem rowL_other (d : Tb) {i a : Nat} (h : a ≠ i) (j : Nat) (x : Int) : rowL (Cs.put d i j x) a = rowL d a := by
  unfold rowL
  apply List.map_congr_left
  intro k _
  exact Cs.put_other d x (fun e => h e.1)
/-- the rows of a table, as values -/
def rowVs (rw cp : Nat → Nat) (n : Nat) : List Value := (List.range n).map fun i => .slice (some ⟨rw i, 0, none⟩) 6 (cp i)
theorem rowVs_get (rw cp : Nat → Nat) {n i : Nat} (hi : i < n) : (rowVs rw cp n)[i]? = some (.slice (some ⟨rw i, 0, none⟩) 6 (cp i)) := by simp [rowVs, hi]
/-- the first n rows of a table -/
structure TabN (w : World) (base g cap n : Nat) (rw cp : Nat → Nat) (d : Tb) : Prop where
  out : w.ownsRow base 29 1 (.slice (some ⟨g, 0, none⟩) n cap) n (rowVs rw cp n)
  row : ∀ i, i < n → OwnI w base (some ⟨rw i, 0, none⟩) 6 (cp i) (rowL d i)
  inj : ∀ i j, i < n → j < n → rw i = rw j → i = j
theorem TabN.below {w w' : World} {base g cap n : Nat} {rw cp : Nat → Nat} {d : Tb} (h : TabN w base g cap n rw cp d) (hb : Below w.heap.size w w') : TabN w' base g cap n rw cp d :=
  ⟨own_below' h.out hb, fun i hi => own_below' (h.row i hi) hb, h.inj⟩
theorem TabN.head {w : World} {base g cap n : Nat} {rw cp : Nat → Nat} {d : Tb} (h : TabN w base g cap n rw cp d) {i : Nat} (hi : i < n) : w.cell? ⟨g, i, none⟩ = some (.slice (some ⟨rw i, 0, none⟩) 6 (cp i)) := by
  have := h.out.cells (g := g) rfl i _ (rowVs_get rw cp hi)
  rw [own_adds] at this
  exact this
theorem TabN.spot {w : World} {base g cap n : Nat} {rw cp : Nat → Nat} {d : Tb} (h : TabN w base g cap n rw cp d) {i j : Nat} (hi : i < n) (hj : j < 6) : w.cell? ⟨rw i, j, none⟩ = some (.int .i64 (d i j)) ∧ w.frozen? ⟨rw i, j, none⟩ = false := by
  have hr := h.row i hi
  obtain ⟨b, off, hA, _, hc⟩ := (OwnI.reads hr).2 (by omega)
  injection hA with e2
  injection e2 with e2 e3
  subst e2; subst e3
  have := hc j hj
  rw [Nat.zero_add, rowL_get d i hj] at this
  refine ⟨this, ?_⟩
  rcases hr.2 with ⟨h0, _⟩ | ⟨g', cap', cur, hv, _, hgg, _⟩
  · cases h0
  · injection hv with e1
    injection e1 with e1
    injection e1 with e1
    rw [e1]
    exact Blk.thawed (w := w) hgg j
theorem TabN.put {w : World} {base g cap n : Nat} {rw cp : Nat → Nat} {d : Tb} (h : TabN w base g cap n rw cp d) {i : Nat} (hi : i < n) (j : Nat) (x : Int) :
    TabN (w.setCell ⟨rw i, j, none⟩ (.int .i64 x)) base g cap n rw cp (Cs.put d i j x) := by
  have hr := h.row i hi
  obtain ⟨cs, hblk⟩ := own_blk hr (rw i) rfl
  have grown : w.grownBy (w.setCell ⟨rw i, j, none⟩ (.int .i64 x)) (some (rw i)) := ⟨rfl, rfl, rfl, by simp [World.setCell], fun k _ hk => Below.heap_setCell _ _ _ _ (fun e => hk (by rw [e]))⟩
  refine ⟨h.out.kept grown (.inr ?_), fun a ha => ?_, h.inj⟩
  · exact own_apart h.out hblk (by decide)
  · by_cases e : a = i
    · subst e
      have := own_set hr j (.int .i64 x)
      rw [← List.map_set, rowL_put d a j x] at this
      exact this
    · rw [rowL_other d e j x]
      refine (h.row a ha).kept grown (.inr fun e2 => ?_)
      have e3 : rw a = rw i := by simpa [Value.ownBlock] using e2
      exact e (h.inj a i ha hi e3)
theorem TabN.base {w : World} {base g cap n : Nat} {rw cp : Nat → Nat} {d : Tb} (h : TabN w base g cap n rw cp d) {i : Nat} (hi : i < n) : base ≤ rw i ∧ rw i < w.heap.size := (h.row i hi).lt (rw i) rfl
end Go.Proofs.YtgebjnoicgmdoaaGreatDoor

namespace Go.Proofs.YtgebjnoicgmdoaaGreatDoor
open Go.RowKit
open Cs (Cn)

/-- a node's number -/
def nodeR (n : Int) : Bool := decide (-1 ≤ n) && decide (n < 5)
set_option maxHeartbeats 800000 in
theorem l05Node_any (w : World) (n : Int) : Calls Tryz.prog 104 #[.int .i64 n] w fun e w' => e = .returned (.bool (nodeR n)) ∧ w' = w := by
  by_cases h1 : -1 ≤ n
  · by_cases h2 : n < 5
    · have HF : Hid (nodeR n = true) := by show _ = _; simp [nodeR, h1, h2]
      go_enter Tryz.func104, Tryz.ntmps104
      go_wp2
      go_ret
      exact ⟨by rw [HF.out]; rfl, rfl⟩
    · have HF : Hid (nodeR n = false) := by show _ = _; simp [nodeR, h2]
      go_enter Tryz.func104, Tryz.ntmps104
      go_wp2
      go_ret
      exact ⟨by rw [HF.out]; rfl, rfl⟩
  · have HF : Hid (nodeR n = false) := by show _ = _; simp [nodeR, h1]
    go_enter Tryz.func104, Tryz.ntmps104
    go_wp2
    go_ret
    exact ⟨by rw [HF.out]; rfl, rfl⟩
theorem cOk_parts (U R V : Int) : Cs.cOk (U, R, V) = (nodeR U && nodeR V && decide (0 ≤ R) && decide (R ≤ 2)) := by
  rw [Bool.eq_iff_iff, Cs.cOk_iff]
  simp [nodeR]
  omega

set_option maxRecDepth 100000 in
set_option maxHeartbeats 1600000 in
theorem specConOk_any (w : World) (U R V : Int) : Calls Tryz.prog 58 #[.agg #[.int .i64 U, .int .i64 R, .int .i64 V]] w fun e w' => e = .returned (.bool (Cs.cOk (U, R, V))) ∧ Below w.heap.size w w' := by
  have HB : Hid (Below w.heap.size w (w.alloc (.cells #[.int .i64 U, .int .i64 R, .int .i64 V] 41))) := (Below.refl _ _).alloc (Nat.le_refl _) _
  have HC := Lib.hid (cOk_parts U R V)
  cases h1 : nodeR U with
  | false =>
    have HF : Hid (Cs.cOk (U, R, V) = false) := by show _ = _; rw [HC.out, h1]; rfl
    have H1 := Lib.hid h1
    clear h1 HC
    go_enter Tryz.func58, Tryz.ntmps58
    go_wp2_with fail
    refine (l05Node_any _ U).mono ?_
    rintro e w1 ⟨rfl, rfl⟩
    rw [H1.out]
    go_wp2
    go_ret
    exact ⟨by rw [HF.out]; rfl, HB.out⟩
  | true =>
    have H1 := Lib.hid h1
    cases h2 : nodeR V with
    | false =>
      have HF : Hid (Cs.cOk (U, R, V) = false) := by show _ = _; rw [HC.out, h1, h2]; rfl
      have H2 := Lib.hid h2
      clear h1 h2 HC
      go_enter Tryz.func58, Tryz.ntmps58
      go_wp2_with fail
      refine (l05Node_any _ U).mono ?_
      rintro e w1 ⟨rfl, rfl⟩
      rw [H1.out]
      go_wp2_with fail
      refine (l05Node_any _ V).mono ?_
      rintro e w1 ⟨rfl, rfl⟩
      rw [H2.out]
      go_wp2
      go_ret
      exact ⟨by rw [HF.out]; rfl, HB.out⟩
    | true =>
      have H2 := Lib.hid h2
      have HF : Hid (Cs.cOk (U, R, V) = (decide (0 ≤ R) && decide (R ≤ 2))) := by show _ = _; rw [HC.out, h1, h2]; rfl
      clear h1 h2 HC
      by_cases h3 : 0 ≤ R
      · have HG : Hid (Cs.cOk (U, R, V) = decide (R ≤ 2)) := by show _ = _; rw [HF.out, decide_eq_true h3]; rfl
        have d3 : decide (0 ≤ R) = true := decide_eq_true h3
        go_enter Tryz.func58, Tryz.ntmps58
        go_wp2_with fail
        refine (l05Node_any _ U).mono ?_
        rintro e w1 ⟨rfl, rfl⟩
        rw [H1.out]
        go_wp2_with fail
        refine (l05Node_any _ V).mono ?_
        rintro e w1 ⟨rfl, rfl⟩
        rw [H2.out]
        go_wp2
        go_ret
        exact ⟨by rw [HG.out]; rfl, HB.out⟩
      · have HG : Hid (Cs.cOk (U, R, V) = false) := by show _ = _; rw [HF.out]; simp [h3]
        have d3 : decide (0 ≤ R) = false := decide_eq_false h3
        go_enter Tryz.func58, Tryz.ntmps58
        go_wp2_with fail
        refine (l05Node_any _ U).mono ?_
        rintro e w1 ⟨rfl, rfl⟩
        rw [H1.out]
        go_wp2_with fail
        refine (l05Node_any _ V).mono ?_
        rintro e w1 ⟨rfl, rfl⟩
        rw [H2.out]
        go_wp2
        go_ret
        exact ⟨by rw [HG.out]; rfl, HB.out⟩

/-- ConsOk's answer -/
def consOkR (l : List Cn) : Bool := l.all Cs.cOk && decide (l.length ≤ 24)
theorem consOkR_ok {l : List Cn} (h : consOkR l = true) : Cs.ok l ∧ l.length ≤ 24 := by
  simp only [consOkR, Bool.and_eq_true, List.all_eq_true, decide_eq_true_eq] at h
  exact h
set_option maxRecDepth 100000 in
set_option maxHeartbeats 1600000 in
theorem specConsOk_any (w : World) (B : Nat) (A : Option Addr) (n c : Nat) (l : List Cn) (hB : B ≤ w.heap.size) (hl : ConR w B A n l) (hn : (n : Int) ≤ 140737488355328) :
    Calls Tryz.prog 16 #[.slice A n c] w fun e w' => e = .returned (.bool (consOkR l)) ∧ Below w.heap.size w w' := by
  go_enter Tryz.func16, Tryz.ntmps16
  go_wp2
  go_loopw [3] (fun i wr => ∃ k : Nat, k ≤ n ∧ i = .int .i64 k ∧ Hid (∀ j, j < k → Cs.cOk (l.getD j (0, 0, 0)) = true) ∧ Hid (Below w.heap.size w wr)) (fun i _ => n - (intOf i).toNat)
  case atStart => exact ⟨0, Nat.zero_le _, rfl, (fun j hj => absurd hj (by omega)), Below.refl _ _⟩
  case round =>
    obtain ⟨k, hk, rfl, HA, HBR⟩ := hrel
    have hszr := HBR.out.size
    by_cases hlt : k < n
    · have hki : (k : Int) < (n : Int) := by omega
      obtain ⟨b, off, hA, hb, hc⟩ := hl.2 (by omega)
      obtain ⟨x1, x2, x3⟩ := hc k hlt
      have HL := Lib.hid hl.1
      obtain ⟨t, ht⟩ : ∃ t, l.getD k (0, 0, 0) = t := ⟨_, rfl⟩
      rw [ht] at x1 x2 x3
      obtain ⟨U, R, V⟩ := t
      have HT := Lib.hid ht
      subst hA
      have k1 := (HBR.out.cell (p := ⟨b, off + k * 3, none⟩) (by show b < _; omega)).trans x1
      have k2 := (HBR.out.cell (p := ⟨b, off + k * 3 + 1, none⟩) (by show b < _; omega)).trans x2
      have k3 := (HBR.out.cell (p := ⟨b, off + k * 3 + 2, none⟩) (by show b < _; omega)).trans x3
      clear hc ht x1 x2 x3 hl
      go_wp2_with fail
      refine (specConOk_any wr U R V).mono ?_
      rintro e w1 ⟨rfl, hb1⟩
      have HB1 := Lib.hid (HBR.out.trans (hb1.mono hszr))
      clear hb1
      cases hok : Cs.cOk (U, R, V) with
      | true =>
        have HA2 : Hid (∀ j, j < k + 1 → Cs.cOk (l.getD j (0, 0, 0)) = true) := fun j hj => by
          by_cases e : j = k
          · subst e; rw [HT.out]; exact hok
          · exact HA.out j (by omega)
        clear hok
        go_wp2
        go_roundw
        case rel => exact ⟨k + 1, by omega, by go_num, HA2.out, HB1.out⟩
        case measure => simp [intOf]; omega
      | false =>
        have HF : Hid (consOkR l = false) := by
          cases e : consOkR l with
          | false => rfl
          | true =>
            have hkl : k < l.length := by rw [HL.out]; exact hlt
            have := (consOkR_ok e).1 (l.getD k (0, 0, 0)) (by rw [List.getD_eq_getElem?_getD, List.getElem?_eq_getElem hkl]; exact List.getElem_mem _)
            rw [HT.out, hok] at this
            cases this
        clear hok
        go_wp2
        go_ret
        exact ⟨by rw [HF.out]; rfl, HB1.out⟩
    · obtain rfl : k = n := by omega
      have hkk : ¬ (k : Int) < (k : Int) := by omega
      have HF : Hid (consOkR l = decide ((k : Int) ≤ 24)) := by
        show _ = _
        rw [Bool.eq_iff_iff]
        simp only [consOkR, Bool.and_eq_true, List.all_eq_true, decide_eq_true_eq, hl.1]
        constructor
        · intro h; omega
        · intro h
          refine ⟨fun c hc => ?_, by omega⟩
          obtain ⟨j, hj, rfl⟩ := List.getElem_of_mem hc
          have := HA.out j (by have := hl.1; omega)
          rw [List.getD_eq_getElem?_getD, List.getElem?_eq_getElem hj] at this
          exact this
      clear hl
      go_wp2
      go_ret
      exact ⟨by rw [HF.out]; rfl, HBR.out⟩
end Go.Proofs.YtgebjnoicgmdoaaGreatDoor
