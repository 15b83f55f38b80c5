/- LevelJoin of the program and of the reference model. -/
/- Residuals as lists of pairs: what is right for a sign, and what is at most what. -/
/- Plain facts on levels without imax as piles of lists of atoms, and on the level of a norm. -/
import Derived.Test.YtgebjnoicgmdoaaGreatDoorSucc
import Derived.Test.YtgebjnoicgmdoaaGreatDoorSgMath
import Derived.Test.YtgebjnoicgmdoaaGreatDoorBase

namespace Go.Proofs.YtgebjnoicgmdoaaGreatDoor
open Go.RowKit

/-- LevelJoin's answer -/
def joinR (op : Int) (a b : List (Int × Int)) : Option (List (Int × Int)) :=
  if (op = 2 ∨ op = 3) ∧ Lv.levelOk a = true ∧ Lv.levelOk b = true then ifR (a ++ (b ++ [(op, 0)])) else none

theorem ok_len {l : List (Int × Int)} {n : Nat} (h : Lv.levelOk l = true) (hn : l.length = n) : 1 ≤ n ∧ n ≤ 24 := by
  simp [Lv.levelOk] at h
  omega

/-- three slices that are joined, the last one token -/
theorem parts3 {w2 : World} {B : Nat} {q0 q1 : Addr} {n0 c0 n1 c1 : Nat} {l0 l1 : List (Int × Int)} (op : Int) (hB : B ≤ w2.heap.size) (h0 : TokA w2 B q0 l0) (h1 : TokA w2 B q1 l1) (e0 : l0.length = n0) (e1 : l1.length = n1) :
    Parts ((w2.alloc (.cells #[.int .i64 op, .int .i64 0] 51)).alloc (.cells #[.slice (some q0) n0 c0, .slice (some q1) n1 c1, .slice (some ⟨w2.heap.size, 0, none⟩) 1 1] 25))
      (w2.heap.size + 2) (w2.heap.size + 1) (fun i => if i = 0 then q0 else if i = 1 then q1 else ⟨w2.heap.size, 0, none⟩) (fun i => if i = 0 then c0 else if i = 1 then c1 else 1) [l0, l1, [(op, 0)]] := by
  have hba : Below B w2 ((w2.alloc (.cells #[.int .i64 op, .int .i64 0] 51)).alloc (.cells #[.slice (some q0) n0 c0, .slice (some q1) n1 c1, .slice (some ⟨w2.heap.size, 0, none⟩) 1 1] 25)) :=
    ((Below.refl _ _).alloc hB _).alloc (by simp; omega) _
  have hbk := Blk.made (w2.alloc (.cells #[.int .i64 op, .int .i64 0] 51)) 25 #[.slice (some q0) n0 c0, .slice (some q1) n1 c1, .slice (some ⟨w2.heap.size, 0, none⟩) 1 1]
  simp only [World.size_alloc] at hbk
  refine ⟨by omega, fun i hi => ?_⟩
  have hi2 : i = 0 ∨ i = 1 ∨ i = 2 := by simp at hi; omega
  rcases hi2 with rfl | rfl | rfl
  · exact ⟨(hbk.cell 0).trans (by simp [e0]), ((h0.below hba).more (B' := w2.heap.size + 2) (by omega)).1, (h0.below hba).2⟩
  · exact ⟨(hbk.cell 1).trans (by simp [e1]), ((h1.below hba).more (B' := w2.heap.size + 2) (by omega)).1, (h1.below hba).2⟩
  · have hb2 : Below (w2.heap.size + 1) (w2.alloc (.cells #[.int .i64 op, .int .i64 0] 51)) ((w2.alloc (.cells #[.int .i64 op, .int .i64 0] 51)).alloc (.cells #[.slice (some q0) n0 c0, .slice (some q1) n1 c1, .slice (some ⟨w2.heap.size, 0, none⟩) 1 1] 25)) :=
      (Below.refl _ _).alloc (by simp) _
    have ht : TokA (w2.alloc (.cells #[.int .i64 op, .int .i64 0] 51)) (w2.heap.size + 1) ⟨w2.heap.size, 0, none⟩ [(op, 0)] := ⟨Nat.lt_succ_self _, Blk.tokA2 w2 op 0⟩
    exact ⟨(hbk.cell 2).trans rfl, ((ht.below hb2).more (B' := w2.heap.size + 2) (by omega)).1, (ht.below hb2).2⟩

set_option maxRecDepth 100000 in
set_option maxHeartbeats 1600000 in
theorem specJoin_any (w : World) (B : Nat) (op : Int) (A0 : Option Addr) (n0 c0 : Nat) (l0 : List (Int × Int)) (A1 : Option Addr) (n1 c1 : Nat) (l1 : List (Int × Int)) (hB : B ≤ w.heap.size)
    (hl0 : TokR w B A0 n0 l0) (hn0 : n0 ≤ 1048576) (hl1 : TokR w B A1 n1 l1) (hn1 : n1 ≤ 1048576) :
    Calls Tryz.prog 90 #[.int .i64 op, .slice A0 n0 c0, .slice A1 n1 c1] w (ResP w (joinR op l0 l1)) := by
  obtain ⟨i0, hi, hz0, hz1, hz2⟩ := info_parts info_tok
  cases hok0 : Lv.levelOk l0 with
  | false =>
    have HO := Lib.hid hok0
    have HP : Hid (joinR op l0 l1 = none) := by show _ = _; rw [joinR, if_neg (fun h => by rw [hok0] at h; exact absurd h.2.1 (by decide))]
    clear hok0
    go_enter Tryz.func90, Tryz.ntmps90
    go_wp2_with fail
    refine (specOk_any w B A0 n0 c0 l0 hB hl0 (by omega)).mono ?_
    rintro e w1 ⟨rfl, hb1⟩
    rw [HO.out]
    go_wp2
    go_ret2
    rw [HP.out]
    exact resP_none hb1
  | true =>
    have HO := Lib.hid hok0
    cases hok1 : Lv.levelOk l1 with
    | false =>
      have HO1 := Lib.hid hok1
      have HP : Hid (joinR op l0 l1 = none) := by show _ = _; rw [joinR, if_neg (fun h => by rw [hok1] at h; exact absurd h.2.2 (by decide))]
      clear hok0 hok1
      go_enter Tryz.func90, Tryz.ntmps90
      go_wp2_with fail
      refine (specOk_any w B A0 n0 c0 l0 hB hl0 (by omega)).mono ?_
      rintro e w1 ⟨rfl, hb1⟩
      rw [HO.out]
      go_wp2_with fail
      refine (specOk_any w1 B A1 n1 c1 l1 (Nat.le_trans hB hb1.size) (hl1.below (hb1.mono hB)) (by omega)).mono ?_
      rintro e w2 ⟨rfl, hb2⟩
      rw [HO1.out]
      go_wp2
      go_ret2
      rw [HP.out]
      exact resP_none (hb1.trans (hb2.mono hb1.size))
    | true =>
      have HO1 := Lib.hid hok1
      by_cases hop : op = 2 ∨ op = 3
      case neg =>
        have HP : Hid (joinR op l0 l1 = none) := by show _ = _; rw [joinR, if_neg (fun h => hop h.1)]
        have hp2 : (op != 2) = true := by simpa using (fun h => hop (.inl h) : ¬ (op = 2))
        have hp3 : (op != 3) = true := by simpa using (fun h => hop (.inr h) : ¬ (op = 3))
        clear hop hok0 hok1
        go_enter Tryz.func90, Tryz.ntmps90
        go_wp2_with fail
        refine (specOk_any w B A0 n0 c0 l0 hB hl0 (by omega)).mono ?_
        rintro e w1 ⟨rfl, hb1⟩
        rw [HO.out]
        go_wp2_with fail
        refine (specOk_any w1 B A1 n1 c1 l1 (Nat.le_trans hB hb1.size) (hl1.below (hb1.mono hB)) (by omega)).mono ?_
        rintro e w2 ⟨rfl, hb2⟩
        rw [HO1.out]
        go_wp2
        go_ret2
        rw [HP.out]
        exact resP_none (hb1.trans (hb2.mono hb1.size))
      case pos =>
        have HP : Hid (joinR op l0 l1 = ifR (l0 ++ (l1 ++ [(op, 0)]))) := by show _ = _; rw [joinR, if_pos ⟨hop, hok0, hok1⟩]
        obtain ⟨hn01, hn02⟩ := ok_len hok0 hl0.1
        obtain ⟨hn11, hn12⟩ := ok_len hok1 hl1.1
        clear hok0 hok1
        have hcl0 := tokCells_len l0
        rw [hl0.1] at hcl0
        have HCL0 := Lib.hid hcl0
        have hcl1 := tokCells_len l1
        rw [hl1.1] at hcl1
        have HCL1 := Lib.hid hcl1
        clear hcl0 hcl1
        rcases hop with hop | hop
        · have hp2 : (op != 2) = false := by rw [hop]; rfl
          clear hop
          go_enter Tryz.func90, Tryz.ntmps90
          go_wp2_with fail
          refine (specOk_any w B A0 n0 c0 l0 hB hl0 (by omega)).mono ?_
          rintro e w1 ⟨rfl, hb1⟩
          rw [HO.out]
          go_wp2_with fail
          refine (specOk_any w1 B A1 n1 c1 l1 (Nat.le_trans hB hb1.size) (hl1.below (hb1.mono hB)) (by omega)).mono ?_
          rintro e w2 ⟨rfl, hb2⟩
          rw [HO1.out]
          have hb12 := hb1.trans (hb2.mono hb1.size)
          have hz2' := hb12.size
          have hb2a : Below w.heap.size w (w2.alloc (.cells #[] 51)) := hb12.alloc hz2' _
          obtain ⟨q0, rfl, hq0⟩ := (hl0.below (hb2a.mono hB)).tokA (by omega)
          have ho0 : OwnT (w2.alloc (.cells #[] 51)) w.heap.size (some ⟨w2.heap.size, 0, none⟩) 0 0 [] := World.ownsRow_made w2 #[] 0 hz2' (by simp [maxLen]) (by simp)
          clear hb1 hb2 hb12
          go_wp2_with (at_builtin; first
            | (refine wpList_append_own _ rfl (.tmp 24) (.tmp 25) 25 rfl w.heap.size 51 i0 (.agg #[.int .i64 0, .int .i64 0]) 2 16 Tryz.underlying25 hi hz0 hz1 hz2 rfl (by decide) (.slice (some ⟨w2.heap.size, 0, none⟩) 0 0) 0 (tokCells []) rfl ho0 q0 n0 c0 (tokCells l0) rfl HCL0.out hq0.2 (tokCells_one l0) (by unfold maxLen; omega) (by omega) (by simp; omega) ?_
               intro v' w3 hown' hgrow hnil
               obtain ⟨g', cap', rfl⟩ : ∃ g' cap', v' = .slice (some ⟨g', 0, none⟩) n0 cap' := by
                 rcases hown'.2 with ⟨h0, _⟩ | ⟨g', cap', _, h0, _⟩
                 · have := (hnil.1 h0).1
                   cases this
                 · rw [Nat.zero_add] at h0; exact ⟨g', cap', h0⟩
               have hb3 : Below w.heap.size w w3 := hb2a.grown hgrow (by simp; omega) (fun k h => by have h' : w2.heap.size = k := (by simpa [Value.ownBlock] using h); omega)
               have ho3 : OwnT w3 w.heap.size (some ⟨g', 0, none⟩) n0 cap' l0 := by
                 have h := hown'
                 rw [tokCells_nil, List.nil_append, Nat.zero_add] at h
                 exact h
               have hz3 := hb3.size
               clear hown' hgrow hnil ho0 hq0 hb2a
               obtain ⟨q1, rfl, hq1⟩ := (hl1.below (hb3.mono hB)).tokA (by omega))
            | (refine wpList_append_own _ rfl (.tmp 26) (.tmp 27) 25 rfl w.heap.size 51 i0 (.agg #[.int .i64 0, .int .i64 0]) 2 16 Tryz.underlying25 hi hz0 hz1 hz2 rfl (by decide) (.slice (some ⟨g', 0, none⟩) n0 cap') n0 (tokCells l0) rfl ho3 q1 n1 c1 (tokCells l1) rfl HCL1.out hq1.2 (tokCells_one l1) (by unfold maxLen; omega) (by omega) (by omega) ?_
               intro v' w4 hown' hgrow hnil
               obtain ⟨g2, cap2, rfl⟩ : ∃ g' cap', v' = .slice (some ⟨g', 0, none⟩) (n0 + n1) cap' := by
                 rcases hown'.2 with ⟨h0, _⟩ | ⟨g', cap', _, h0, _⟩
                 · have := (hnil.1 h0).1
                   cases this
                 · exact ⟨g', cap', h0⟩
               have hb4 : Below w.heap.size w w4 := hb3.grown hgrow (by omega) (fun k h => (ho3.lt k h).1)
               have ho4 : OwnT w4 w.heap.size (some ⟨g2, 0, none⟩) (n0 + n1) cap2 (l0 ++ l1) := by
                 unfold OwnT
                 rw [tokCells_append]
                 exact hown'
               have hz4 := hb4.size
               clear hown' hgrow hnil ho3 hq1 hb3)
            | (refine wpList_append_own _ rfl (.tmp 28) (.tmp 31) 25 rfl w.heap.size 51 i0 (.agg #[.int .i64 0, .int .i64 0]) 2 16 Tryz.underlying25 hi hz0 hz1 hz2 rfl (by decide) (.slice (some ⟨g2, 0, none⟩) (n0 + n1) cap2) (n0 + n1) (tokCells (l0 ++ l1)) rfl (ho4.alloc _) ⟨w4.heap.size, 0, none⟩ 1 1 (tokCells [(op, 0)]) rfl rfl (Blk.tokA2 _ _ _) (tokCells_one _) (by unfold maxLen; omega) (by omega) (by simp; omega) ?_
               intro v' w5 hown' hgrow hnil
               obtain ⟨g3, cap3, rfl⟩ : ∃ g' cap', v' = .slice (some ⟨g', 0, none⟩) (n0 + n1 + 1) cap' := by
                 rcases hown'.2 with ⟨h0, _⟩ | ⟨g', cap', _, h0, _⟩
                 · have := (hnil.1 h0).1
                   cases this
                 · exact ⟨g', cap', h0⟩
               have hb5 : Below w.heap.size w w5 := (hb4.alloc hz4 _).grown hgrow (by simp; omega) (fun k h => (ho4.lt k h).1)
               have HO5 : Hid (OwnT w5 w.heap.size (some ⟨g3, 0, none⟩) (n0 + n1 + 1) cap3 (l0 ++ (l1 ++ [(op, 0)]))) := by
                 show OwnT _ _ _ _ _ _
                 unfold OwnT
                 rw [← List.append_assoc, tokCells_append]
                 exact hown'
               clear hown' hgrow hnil ho4 hb4))
          go_wp2_with fail
          refine (l01If_any w5 w.heap.size _ (n0 + n1 + 1) cap3 _ (by omega) HO5.out).mono ?_
          rintro e w6 ⟨⟨A', c', rfl, ho6⟩, hb6⟩
          have HO6 := Lib.hid ho6
          have HB6 := Lib.hid (hb5.trans (hb6.mono hb5.size))
          clear ho6 hb6
          go_wp2
          go_ret2
          rw [HP.out]
          exact ⟨A', c', rfl, HO6.out, HB6.out⟩
        · have hp2 : (op != 2) = true := by rw [hop]; rfl
          have hp3 : (op != 3) = false := by rw [hop]; rfl
          clear hop
          go_enter Tryz.func90, Tryz.ntmps90
          go_wp2_with fail
          refine (specOk_any w B A0 n0 c0 l0 hB hl0 (by omega)).mono ?_
          rintro e w1 ⟨rfl, hb1⟩
          rw [HO.out]
          go_wp2_with fail
          refine (specOk_any w1 B A1 n1 c1 l1 (Nat.le_trans hB hb1.size) (hl1.below (hb1.mono hB)) (by omega)).mono ?_
          rintro e w2 ⟨rfl, hb2⟩
          rw [HO1.out]
          have hb12 := hb1.trans (hb2.mono hb1.size)
          have hz2' := hb12.size
          have hb2a : Below w.heap.size w (w2.alloc (.cells #[] 51)) := hb12.alloc hz2' _
          obtain ⟨q0, rfl, hq0⟩ := (hl0.below (hb2a.mono hB)).tokA (by omega)
          have ho0 : OwnT (w2.alloc (.cells #[] 51)) w.heap.size (some ⟨w2.heap.size, 0, none⟩) 0 0 [] := World.ownsRow_made w2 #[] 0 hz2' (by simp [maxLen]) (by simp)
          clear hb1 hb2 hb12
          go_wp2_with (at_builtin; first
            | (refine wpList_append_own _ rfl (.tmp 24) (.tmp 25) 25 rfl w.heap.size 51 i0 (.agg #[.int .i64 0, .int .i64 0]) 2 16 Tryz.underlying25 hi hz0 hz1 hz2 rfl (by decide) (.slice (some ⟨w2.heap.size, 0, none⟩) 0 0) 0 (tokCells []) rfl ho0 q0 n0 c0 (tokCells l0) rfl HCL0.out hq0.2 (tokCells_one l0) (by unfold maxLen; omega) (by omega) (by simp; omega) ?_
               intro v' w3 hown' hgrow hnil
               obtain ⟨g', cap', rfl⟩ : ∃ g' cap', v' = .slice (some ⟨g', 0, none⟩) n0 cap' := by
                 rcases hown'.2 with ⟨h0, _⟩ | ⟨g', cap', _, h0, _⟩
                 · have := (hnil.1 h0).1
                   cases this
                 · rw [Nat.zero_add] at h0; exact ⟨g', cap', h0⟩
               have hb3 : Below w.heap.size w w3 := hb2a.grown hgrow (by simp; omega) (fun k h => by have h' : w2.heap.size = k := (by simpa [Value.ownBlock] using h); omega)
               have ho3 : OwnT w3 w.heap.size (some ⟨g', 0, none⟩) n0 cap' l0 := by
                 have h := hown'
                 rw [tokCells_nil, List.nil_append, Nat.zero_add] at h
                 exact h
               have hz3 := hb3.size
               clear hown' hgrow hnil ho0 hq0 hb2a
               obtain ⟨q1, rfl, hq1⟩ := (hl1.below (hb3.mono hB)).tokA (by omega))
            | (refine wpList_append_own _ rfl (.tmp 26) (.tmp 27) 25 rfl w.heap.size 51 i0 (.agg #[.int .i64 0, .int .i64 0]) 2 16 Tryz.underlying25 hi hz0 hz1 hz2 rfl (by decide) (.slice (some ⟨g', 0, none⟩) n0 cap') n0 (tokCells l0) rfl ho3 q1 n1 c1 (tokCells l1) rfl HCL1.out hq1.2 (tokCells_one l1) (by unfold maxLen; omega) (by omega) (by omega) ?_
               intro v' w4 hown' hgrow hnil
               obtain ⟨g2, cap2, rfl⟩ : ∃ g' cap', v' = .slice (some ⟨g', 0, none⟩) (n0 + n1) cap' := by
                 rcases hown'.2 with ⟨h0, _⟩ | ⟨g', cap', _, h0, _⟩
                 · have := (hnil.1 h0).1
                   cases this
                 · exact ⟨g', cap', h0⟩
               have hb4 : Below w.heap.size w w4 := hb3.grown hgrow (by omega) (fun k h => (ho3.lt k h).1)
               have ho4 : OwnT w4 w.heap.size (some ⟨g2, 0, none⟩) (n0 + n1) cap2 (l0 ++ l1) := by
                 unfold OwnT
                 rw [tokCells_append]
                 exact hown'
               have hz4 := hb4.size
               clear hown' hgrow hnil ho3 hq1 hb3)
            | (refine wpList_append_own _ rfl (.tmp 28) (.tmp 31) 25 rfl w.heap.size 51 i0 (.agg #[.int .i64 0, .int .i64 0]) 2 16 Tryz.underlying25 hi hz0 hz1 hz2 rfl (by decide) (.slice (some ⟨g2, 0, none⟩) (n0 + n1) cap2) (n0 + n1) (tokCells (l0 ++ l1)) rfl (ho4.alloc _) ⟨w4.heap.size, 0, none⟩ 1 1 (tokCells [(op, 0)]) rfl rfl (Blk.tokA2 _ _ _) (tokCells_one _) (by unfold maxLen; omega) (by omega) (by simp; omega) ?_
               intro v' w5 hown' hgrow hnil
               obtain ⟨g3, cap3, rfl⟩ : ∃ g' cap', v' = .slice (some ⟨g', 0, none⟩) (n0 + n1 + 1) cap' := by
                 rcases hown'.2 with ⟨h0, _⟩ | ⟨g', cap', _, h0, _⟩
                 · have := (hnil.1 h0).1
                   cases this
                 · exact ⟨g', cap', h0⟩
               have hb5 : Below w.heap.size w w5 := (hb4.alloc hz4 _).grown hgrow (by simp; omega) (fun k h => (ho4.lt k h).1)
               have HO5 : Hid (OwnT w5 w.heap.size (some ⟨g3, 0, none⟩) (n0 + n1 + 1) cap3 (l0 ++ (l1 ++ [(op, 0)]))) := by
                 show OwnT _ _ _ _ _ _
                 unfold OwnT
                 rw [← List.append_assoc, tokCells_append]
                 exact hown'
               clear hown' hgrow hnil ho4 hb4))
          go_wp2_with fail
          refine (l01If_any w5 w.heap.size _ (n0 + n1 + 1) cap3 _ (by omega) HO5.out).mono ?_
          rintro e w6 ⟨⟨A', c', rfl, ho6⟩, hb6⟩
          have HO6 := Lib.hid ho6
          have HB6 := Lib.hid (hb5.trans (hb6.mono hb5.size))
          clear ho6 hb6
          go_wp2
          go_ret2
          rw [HP.out]
          exact ⟨A', c', rfl, HO6.out, HB6.out⟩
end Go.Proofs.YtgebjnoicgmdoaaGreatDoor

namespace Go.Proofs.YtgebjnoicgmdoaaGreatDoor

namespace Nm
/-- a residual for a sign -/
def ROk (s : Int) (l : List At) : Prop := Sg.isSign s = true ∧ 1 ≤ l.length ∧ AllOk l ∧ Incr l ∧ (∀ k, k < l.length → (l.getD k (0, 0)).1 = -1 ∨ Sg.has s (l.getD k (0, 0)).1 = true) ∧ ((l.getD 0 (0, 0)).1 = -1 → Exceeds ((l.getD 0 (0, 0)).2 - 1) (l.drop 1))
end Nm
end Go.Proofs.YtgebjnoicgmdoaaGreatDoor

namespace Go.Proofs.YtgebjnoicgmdoaaGreatDoor.Nm
open Go.Proofs.YtgebjnoicgmdoaaGreatDoor.Lv

/-- one token on a pile of lists of atoms, its top first -/
def pstep (t : Tk) (st : List (List At)) : Option (List (List At)) :=
  if tkOk t = true then
    if t.1 = 0 then some ([(-1, 0)] :: st)
    else if t.1 = 4 then some ([(t.2, 0)] :: st)
    else if t.1 = 1 then
      match st with
      | a :: s => some (up 1 a :: s)
      | [] => none
    else if t.1 = 2 then
      match st with
      | b :: a :: s => some ((a ++ b) :: s)
      | _ => none
    else none
  else none
def prun : List Tk → List (List At) → Option (List (List At))
  | [], st => some st
  | t :: r, st => (pstep t st).bind (prun r)
theorem prun_append (a b : List Tk) (st : List (List At)) : prun (a ++ b) st = (prun a st).bind (prun b) := by
  induction a generalizing st with
  | nil => rfl
  | cons t r ih =>
    simp only [List.cons_append, prun]
    cases pstep t st with
    | none => rfl
    | some s => simp [ih]
theorem prun_take_succ (l : List Tk) (k : Nat) (hk : k < l.length) (st : List (List At)) :
    prun (l.take (k + 1)) st = (prun (l.take k) st).bind (pstep (l.getD k (0, 0))) := by
  rw [List.take_succ_eq_append_getElem hk, prun_append]
  congr 1
  funext s
  simp only [prun, List.getD_eq_getElem?_getD, List.getElem?_eq_getElem hk, Option.getD_some]
  cases pstep l[k] s <;> rfl
theorem pstep_height {t : Tk} {st : List (List At)} (h3 : t.1 ≠ 3) :
    (pstep t st).map (fun s => (s.length : Int)) = if tkOk t = true ∧ takes t.1 ≤ st.length then some ((st.length : Int) - takes t.1 + 1) else none := by
  unfold pstep
  by_cases h : tkOk t = true
  · simp only [h, if_true, true_and]
    rcases tk_cases h with e | e | e | e | e
    · simp [e, takes]
    · rcases st with _ | ⟨a, s⟩ <;> simp [e, takes]
      omega
    · rcases st with _ | ⟨b, _ | ⟨a, s⟩⟩ <;> simp [e, takes]
      omega
    · exact absurd e h3
    · simp [e, takes]
  · simp [h]
theorem prun_height {l : List Tk} (h3 : ∀ t ∈ l, t.1 ≠ 3) (st : List (List At)) : (prun l st).map (fun s => (s.length : Int)) = hts l st.length := by
  induction l generalizing st with
  | nil => rfl
  | cons t r ih =>
    simp only [prun, hts]
    have hs := pstep_height (t := t) (st := st) (h3 t (by simp))
    cases hst : pstep t st with
    | none =>
      rw [hst] at hs
      by_cases hc : tkOk t = true ∧ takes t.1 ≤ st.length
      · rw [if_pos hc] at hs; cases hs
      · rw [if_neg hc]; rfl
    | some s =>
      rw [hst] at hs
      by_cases hc : tkOk t = true ∧ takes t.1 ≤ st.length
      · rw [if_pos hc] at hs ⊢
        simp only [Option.map_some, Option.some.injEq] at hs
        simp only [Option.bind_some]
        rw [ih (fun u hu => h3 u (List.mem_cons_of_mem _ hu)), hs]
      · rw [if_neg hc] at hs; cases hs
/-- the pile behind the first k tokens of a right level without imax -/
theorem prun_some {l : List Tk} (h : levelOk l = true) (h3 : ∀ t ∈ l, t.1 ≠ 3) (k : Nat) : ∃ st, prun (l.take k) [] = some st := by
  simp only [levelOk, Bool.and_eq_true, decide_eq_true_eq] at h
  have e := prun_height h3 []
  simp only [List.length_nil, Int.ofNat_zero] at e
  rw [h.2] at e
  have e2 := prun_append (l.take k) (l.drop k) []
  rw [List.take_append_drop] at e2
  cases hq : prun (l.take k) [] with
  | none => rw [hq] at e2; rw [e2] at e; cases e
  | some s => exact ⟨s, rfl⟩
/-- the atoms of a right level without imax -/
theorem prun_one {l : List Tk} (h : levelOk l = true) (h3 : ∀ t ∈ l, t.1 ≠ 3) : ∃ a, prun l [] = some [a] := by
  have h' := h
  simp only [levelOk, Bool.and_eq_true, decide_eq_true_eq] at h'
  have e := prun_height h3 []
  simp only [List.length_nil, Int.ofNat_zero] at e
  rw [h'.2] at e
  cases hq : prun l [] with
  | none => rw [hq] at e; cases e
  | some s =>
    rw [hq] at e
    simp only [Option.map_some, Option.some.injEq] at e
    match s, e with
    | [v], _ => exact ⟨v, rfl⟩

/-- what holds of a pile behind k tokens -/
def Fine (k : Nat) (st : List (List At)) : Prop := ∀ a ∈ st, a ≠ [] ∧ ∀ x ∈ a, -1 ≤ x.1 ∧ x.1 < 5 ∧ 0 ≤ x.2 ∧ x.2 ≤ k
theorem Fine.allOk {k : Nat} {st : List (List At)} (h : Fine k st) (hk : k ≤ 1000) {a : List At} (ha : a ∈ st) : AllOk a :=
  allOk_of_mem fun x hx => (atOk_iff x).2 (by have := (h a ha).2 x hx; omega)
theorem fine_step {k : Nat} {t : Tk} {st st' : List (List At)} (h : Fine k st) (hs : pstep t st = some st') : Fine (k + 1) st' := by
  have hmono : ∀ a ∈ st, a ≠ [] ∧ ∀ x ∈ a, -1 ≤ x.1 ∧ x.1 < 5 ∧ 0 ≤ x.2 ∧ x.2 ≤ ((k + 1 : Nat) : Int) := fun a ha => ⟨(h a ha).1, fun x hx => by have := (h a ha).2 x hx; omega⟩
  unfold pstep at hs
  split at hs
  · rename_i hok
    simp [tkOk] at hok
    split at hs
    · cases hs
      intro a ha
      rcases List.mem_cons.1 ha with rfl | ha
      · exact ⟨by simp, fun x hx => by simp at hx; subst hx; simp; omega⟩
      · exact hmono a ha
    · split at hs
      · cases hs
        intro a ha
        rcases List.mem_cons.1 ha with rfl | ha
        · exact ⟨by simp, fun x hx => by simp at hx; subst hx; simp; omega⟩
        · exact hmono a ha
      · split at hs
        · split at hs
          · cases hs
            rename_i a s
            intro c hc
            rcases List.mem_cons.1 hc with rfl | hc
            · have h1 := h a (by simp)
              refine ⟨by simp [up, h1.1], fun x hx => ?_⟩
              obtain ⟨y, hy, rfl⟩ := List.mem_map.1 hx
              have := h1.2 y hy
              simp only
              omega
            · exact hmono c (by simp [hc])
          · cases hs
        · split at hs
          · split at hs
            · cases hs
              rename_i b a s
              intro c hc
              rcases List.mem_cons.1 hc with rfl | hc
              · have h1 := hmono a (by simp)
                have h2 := hmono b (by simp)
                refine ⟨by simp [h1.1], fun x hx => ?_⟩
                rcases List.mem_append.1 hx with hx | hx
                · exact h1.2 x hx
                · exact h2.2 x hx
              · exact hmono c (by simp [hc])
            · cases hs
          · cases hs
  · cases hs
theorem fine_run {l : List Tk} {st : List (List At)} (h : prun l [] = some st) : Fine l.length st := by
  have H : ∀ (l : List Tk) (k : Nat) (s st : List (List At)), Fine k s → prun l s = some st → Fine (k + l.length) st := by
    intro l
    induction l with
    | nil => intro k s st hf h; cases h; exact hf
    | cons t r ih =>
      intro k s st hf h
      simp only [prun] at h
      cases hs : pstep t s with
      | none => rw [hs] at h; cases h
      | some s' =>
        rw [hs] at h
        have := ih (k + 1) s' st (fine_step hf hs) h
        simpa [Nat.add_comm, Nat.add_left_comm, Nat.add_assoc] using this
  have := H l 0 [] st (by intro a ha; simp at ha) h
  simpa using this
/-- the number of atoms on a pile -/
theorem flat_step {t : Tk} {st st' : List (List At)} (hs : pstep t st = some st') : st'.flatten.length ≤ st.flatten.length + 1 := by
  unfold pstep at hs
  split at hs
  · split at hs
    · cases hs; simp
    · split at hs
      · cases hs; simp
      · split at hs
        · split at hs
          · cases hs; simp [up]
          · cases hs
        · split at hs
          · split at hs
            · cases hs; simp; omega
            · cases hs
          · cases hs
  · cases hs
theorem flat_run {l : List Tk} {st : List (List At)} (h : prun l [] = some st) : st.flatten.length ≤ l.length := by
  have H : ∀ (l : List Tk) (s st : List (List At)), prun l s = some st → st.flatten.length ≤ s.flatten.length + l.length := by
    intro l
    induction l with
    | nil => intro s st h; cases h; simp
    | cons t r ih =>
      intro s st h
      simp only [prun] at h
      cases hs : pstep t s with
      | none => rw [hs] at h; cases h
      | some s' =>
        rw [hs] at h
        have h1 := ih s' st h
        have h2 := flat_step hs
        simp only [List.length_cons]
        omega
  simpa using H l [] st h
theorem len_run {l : List Tk} {st : List (List At)} (h : prun l [] = some st) : st.length ≤ l.length := by
  have h1 := fine_run h
  have h2 := flat_run h
  have : ∀ s : List (List At), (∀ a ∈ s, a ≠ []) → s.length ≤ s.flatten.length := by
    intro s
    induction s with
    | nil => intro _; simp
    | cons a r ih =>
      intro hs
      have := ih (fun b hb => hs b (List.mem_cons_of_mem _ hb))
      have ha := hs a (by simp)
      have : 0 < a.length := List.length_pos_iff.2 ha
      simp only [List.length_cons, List.flatten_cons, List.length_append]
      omega
  have := this st (fun a ha => (h1 a ha).1)
  omega

/-- what NormFree answers -/
def leafs (l : List Tk) : List At := ((prun l []).getD []).headD []
open Classical in
noncomputable def freeR (l : List Tk) : Option (List At) := if levelOk l = true ∧ ∀ t ∈ l, t.1 ≠ 3 then some (norm (leafs l)) else none
/-- values: a pile of atoms against the stack of the level's run -/
theorem pstep_val {env : List Int} (hp : Pos env) {t : Tk} {k : Nat} {st st' : List (List At)} (hk : k ≤ 999) (hf : Fine k st) (h : pstep t st = some st') : Lv.step env t (st.map (value env)) = some (st'.map (value env)) := by
  have hok : tkOk t = true := by
    unfold pstep at h
    split at h
    · assumption
    · cases h
  unfold pstep at h
  unfold Lv.step
  rw [if_pos hok] at h ⊢
  split at h
  · rename_i e
    cases h
    rw [if_pos e]
    simp [value, val]
  · rename_i e
    rw [if_neg e]
    split at h
    · rename_i e4
      cases h
      rw [if_pos e4]
      have h2 : 0 ≤ t.2 := by simp [tkOk] at hok; omega
      have := hp.get t.2.toNat
      simp only [List.map_cons, value, val, show ¬ t.2 = -1 by omega, if_false, Option.some.injEq, List.cons.injEq, and_true]
      omega
    · rename_i e4
      rw [if_neg e4]
      split at h
      · rename_i e1
        rw [if_pos e1]
        split at h
        · cases h
          rename_i a s
          have ha := hf a (by simp)
          simp only [List.map_cons]
          rw [value_up hp ha.1 (hf.allOk (by omega) (by simp)) (by omega)]
        · cases h
      · rename_i e1
        rw [if_neg e1]
        split at h
        · rename_i e2
          split at h
          · cases h
            rename_i b a s
            simp only [List.map_cons]
            rw [value_append, if_neg (by omega)]
          · cases h
        · cases h
theorem prun_val {env : List Int} (hp : Pos env) {l : List Tk} {st : List (List At)} (hl : l.length ≤ 24) (h : prun l [] = some st) : Lv.run env l [] = some (st.map (value env)) := by
  have H : ∀ (l : List Tk) (k : Nat) (s st : List (List At)), k + l.length ≤ 999 → Fine k s → prun l s = some st → Lv.run env l (s.map (value env)) = some (st.map (value env)) := by
    intro l
    induction l with
    | nil => intro k s st _ _ h; cases h; rfl
    | cons t r ih =>
      intro k s st hk hf h
      simp only [prun] at h
      simp only [List.length_cons] at hk
      cases hs : pstep t s with
      | none => rw [hs] at h; cases h
      | some s' =>
        rw [hs] at h
        simp only [Lv.run]
        rw [pstep_val hp (k := k) (by omega) hf hs, Option.bind_some]
        exact ih (k + 1) s' st (by omega) (fine_step hf hs) h
  exact H l 0 [] st (by omega) (by intro a ha; simp at ha) h
theorem eval_leafs {env : List Int} (hp : Pos env) {l : List Tk} (h : levelOk l = true) (h3 : ∀ t ∈ l, t.1 ≠ 3) : Lv.eval env l = some (value env (norm (leafs l))) := by
  obtain ⟨a, ha⟩ := prun_one h h3
  have h' := h
  simp only [levelOk, Bool.and_eq_true, decide_eq_true_eq] at h'
  have hr := prun_val hp (by omega) ha
  have hf := fine_run ha
  have e := Lv.eval_of_run (env := env) (l := l) (v := value env a) (by omega) (by omega) (by simpa using hr)
  rw [e, leafs, ha]
  simp only [Option.getD_some, List.headD_cons, Option.some.injEq]
  exact (value_norm hp (hf.allOk (by omega) (by simp))).symm
end Go.Proofs.YtgebjnoicgmdoaaGreatDoor.Nm
