/- LevelJoin of the program and of the reference model. -/
/- The model's cursor: what it hands out. -/
import Derived.Test.YtgebjnoicgmdoaaDoorSucc

namespace Go.Proofs.YtgebjnoicgmdoaaDoor
open Go.RowKit

/-- LevelJoin's answer -/
def joinR (op : Int) (a b : List (Int × Int)) : Option (List (Int × Int)) :=
  if (op = 2 ∨ op = 3) ∧ Lv.levelOk a = true ∧ Lv.levelOk b = true then ifR (a ++ (b ++ [(op, 0)])) else none

theorem ok_len {l : List (Int × Int)} {n : Nat} (h : Lv.levelOk l = true) (hn : l.length = n) : 1 ≤ n ∧ n ≤ 24 := by
  simp [Lv.levelOk] at h
  omega

/-- three slices that are joined, the last one token -/
theorem parts3 {w2 : World} {B : Nat} {q0 q1 : Addr} {n0 c0 n1 c1 : Nat} {l0 l1 : List (Int × Int)} (op : Int) (hB : B ≤ w2.heap.size) (h0 : TokA w2 B q0 l0) (h1 : TokA w2 B q1 l1) (e0 : l0.length = n0) (e1 : l1.length = n1) :
    Parts ((w2.alloc (.cells #[.int .i64 op, .int .i64 0] 56)).alloc (.cells #[.slice (some q0) n0 c0, .slice (some q1) n1 c1, .slice (some ⟨w2.heap.size, 0, none⟩) 1 1] 35))
      (w2.heap.size + 2) (w2.heap.size + 1) (fun i => if i = 0 then q0 else if i = 1 then q1 else ⟨w2.heap.size, 0, none⟩) (fun i => if i = 0 then c0 else if i = 1 then c1 else 1) [l0, l1, [(op, 0)]] := by
  have hba : Below B w2 ((w2.alloc (.cells #[.int .i64 op, .int .i64 0] 56)).alloc (.cells #[.slice (some q0) n0 c0, .slice (some q1) n1 c1, .slice (some ⟨w2.heap.size, 0, none⟩) 1 1] 35)) :=
    ((Below.refl _ _).alloc hB _).alloc (by simp; omega) _
  have hbk := Blk.made (w2.alloc (.cells #[.int .i64 op, .int .i64 0] 56)) 35 #[.slice (some q0) n0 c0, .slice (some q1) n1 c1, .slice (some ⟨w2.heap.size, 0, none⟩) 1 1]
  simp only [World.size_alloc] at hbk
  refine ⟨by omega, fun i hi => ?_⟩
  have hi2 : i = 0 ∨ i = 1 ∨ i = 2 := by simp at hi; omega
  rcases hi2 with rfl | rfl | rfl
  · exact ⟨(hbk.cell 0).trans (by simp [e0]), ((h0.below hba).more (B' := w2.heap.size + 2) (by omega)).1, (h0.below hba).2⟩
  · exact ⟨(hbk.cell 1).trans (by simp [e1]), ((h1.below hba).more (B' := w2.heap.size + 2) (by omega)).1, (h1.below hba).2⟩
  · have hb2 : Below (w2.heap.size + 1) (w2.alloc (.cells #[.int .i64 op, .int .i64 0] 56)) ((w2.alloc (.cells #[.int .i64 op, .int .i64 0] 56)).alloc (.cells #[.slice (some q0) n0 c0, .slice (some q1) n1 c1, .slice (some ⟨w2.heap.size, 0, none⟩) 1 1] 35)) :=
      (Below.refl _ _).alloc (by simp) _
    have ht : TokA (w2.alloc (.cells #[.int .i64 op, .int .i64 0] 56)) (w2.heap.size + 1) ⟨w2.heap.size, 0, none⟩ [(op, 0)] := ⟨Nat.lt_succ_self _, Blk.tokA2 w2 op 0⟩
    exact ⟨(hbk.cell 2).trans rfl, ((ht.below hb2).more (B' := w2.heap.size + 2) (by omega)).1, (ht.below hb2).2⟩

set_option maxRecDepth 100000 in
set_option maxHeartbeats 1600000 in
theorem specJoin_any (w : World) (B : Nat) (op : Int) (A0 : Option Addr) (n0 c0 : Nat) (l0 : List (Int × Int)) (A1 : Option Addr) (n1 c1 : Nat) (l1 : List (Int × Int)) (hB : B ≤ w.heap.size)
    (hl0 : TokR w B A0 n0 l0) (hn0 : n0 ≤ 1048576) (hl1 : TokR w B A1 n1 l1) (hn1 : n1 ≤ 1048576) :
    Calls Tryd.prog 45 #[.int .i64 op, .slice A0 n0 c0, .slice A1 n1 c1] w (ResP w (joinR op l0 l1)) := by
  obtain ⟨i0, hi, hz0, hz1, hz2⟩ := info_parts info_tok
  cases hok0 : Lv.levelOk l0 with
  | false =>
    have HO := Lib.hid hok0
    have HP : Hid (joinR op l0 l1 = none) := by show _ = _; rw [joinR, if_neg (fun h => by rw [hok0] at h; exact absurd h.2.1 (by decide))]
    clear hok0
    go_enter Tryd.func45, Tryd.ntmps45
    go_wp2_with fail
    refine (specOk_any w B A0 n0 c0 l0 hB hl0 (by omega)).mono ?_
    rintro e w1 ⟨rfl, hb1⟩
    rw [HO.out]
    go_wp2
    go_ret2
    rw [HP.out]
    exact resP_none hb1
  | true =>
    have HO := Lib.hid hok0
    cases hok1 : Lv.levelOk l1 with
    | false =>
      have HO1 := Lib.hid hok1
      have HP : Hid (joinR op l0 l1 = none) := by show _ = _; rw [joinR, if_neg (fun h => by rw [hok1] at h; exact absurd h.2.2 (by decide))]
      clear hok0 hok1
      go_enter Tryd.func45, Tryd.ntmps45
      go_wp2_with fail
      refine (specOk_any w B A0 n0 c0 l0 hB hl0 (by omega)).mono ?_
      rintro e w1 ⟨rfl, hb1⟩
      rw [HO.out]
      go_wp2_with fail
      refine (specOk_any w1 B A1 n1 c1 l1 (Nat.le_trans hB hb1.size) (hl1.below (hb1.mono hB)) (by omega)).mono ?_
      rintro e w2 ⟨rfl, hb2⟩
      rw [HO1.out]
      go_wp2
      go_ret2
      rw [HP.out]
      exact resP_none (hb1.trans (hb2.mono hb1.size))
    | true =>
      have HO1 := Lib.hid hok1
      by_cases hop : op = 2 ∨ op = 3
      case neg =>
        have HP : Hid (joinR op l0 l1 = none) := by show _ = _; rw [joinR, if_neg (fun h => hop h.1)]
        have hp2 : (op != 2) = true := by simpa using (fun h => hop (.inl h) : ¬ (op = 2))
        have hp3 : (op != 3) = true := by simpa using (fun h => hop (.inr h) : ¬ (op = 3))
        clear hop hok0 hok1
        go_enter Tryd.func45, Tryd.ntmps45
        go_wp2_with fail
        refine (specOk_any w B A0 n0 c0 l0 hB hl0 (by omega)).mono ?_
        rintro e w1 ⟨rfl, hb1⟩
        rw [HO.out]
        go_wp2_with fail
        refine (specOk_any w1 B A1 n1 c1 l1 (Nat.le_trans hB hb1.size) (hl1.below (hb1.mono hB)) (by omega)).mono ?_
        rintro e w2 ⟨rfl, hb2⟩
        rw [HO1.out]
        go_wp2
        go_ret2
        rw [HP.out]
        exact resP_none (hb1.trans (hb2.mono hb1.size))
      case pos =>
        have HP : Hid (joinR op l0 l1 = ifR (l0 ++ (l1 ++ [(op, 0)]))) := by show _ = _; rw [joinR, if_pos ⟨hop, hok0, hok1⟩]
        obtain ⟨hn01, hn02⟩ := ok_len hok0 hl0.1
        obtain ⟨hn11, hn12⟩ := ok_len hok1 hl1.1
        clear hok0 hok1
        have hcl0 := tokCells_len l0
        rw [hl0.1] at hcl0
        have HCL0 := Lib.hid hcl0
        have hcl1 := tokCells_len l1
        rw [hl1.1] at hcl1
        have HCL1 := Lib.hid hcl1
        clear hcl0 hcl1
        rcases hop with hop | hop
        · have hp2 : (op != 2) = false := by rw [hop]; rfl
          clear hop
          go_enter Tryd.func45, Tryd.ntmps45
          go_wp2_with fail
          refine (specOk_any w B A0 n0 c0 l0 hB hl0 (by omega)).mono ?_
          rintro e w1 ⟨rfl, hb1⟩
          rw [HO.out]
          go_wp2_with fail
          refine (specOk_any w1 B A1 n1 c1 l1 (Nat.le_trans hB hb1.size) (hl1.below (hb1.mono hB)) (by omega)).mono ?_
          rintro e w2 ⟨rfl, hb2⟩
          rw [HO1.out]
          have hb12 := hb1.trans (hb2.mono hb1.size)
          have hz2' := hb12.size
          have hb2a : Below w.heap.size w (w2.alloc (.cells #[] 56)) := hb12.alloc hz2' _
          obtain ⟨q0, rfl, hq0⟩ := (hl0.below (hb2a.mono hB)).tokA (by omega)
          have ho0 : OwnT (w2.alloc (.cells #[] 56)) w.heap.size (some ⟨w2.heap.size, 0, none⟩) 0 0 [] := World.ownsRow_made w2 #[] 0 hz2' (by simp [maxLen]) (by simp)
          clear hb1 hb2 hb12
          go_wp2_with (at_builtin; first
            | (refine wpList_append_own _ rfl (.tmp 24) (.tmp 25) 35 rfl w.heap.size 56 i0 (.agg #[.int .i64 0, .int .i64 0]) 2 16 Tryd.underlying35 hi hz0 hz1 hz2 rfl (by decide) (.slice (some ⟨w2.heap.size, 0, none⟩) 0 0) 0 (tokCells []) rfl ho0 q0 n0 c0 (tokCells l0) rfl HCL0.out hq0.2 (tokCells_one l0) (by unfold maxLen; omega) (by omega) (by simp; omega) ?_
               intro v' w3 hown' hgrow hnil
               obtain ⟨g', cap', rfl⟩ : ∃ g' cap', v' = .slice (some ⟨g', 0, none⟩) n0 cap' := by
                 rcases hown'.2 with ⟨h0, _⟩ | ⟨g', cap', _, h0, _⟩
                 · have := (hnil.1 h0).1
                   cases this
                 · rw [Nat.zero_add] at h0; exact ⟨g', cap', h0⟩
               have hb3 : Below w.heap.size w w3 := hb2a.grown hgrow (by simp; omega) (fun k h => by have h' : w2.heap.size = k := (by simpa [Value.ownBlock] using h); omega)
               have ho3 : OwnT w3 w.heap.size (some ⟨g', 0, none⟩) n0 cap' l0 := by
                 have h := hown'
                 rw [tokCells_nil, List.nil_append, Nat.zero_add] at h
                 exact h
               have hz3 := hb3.size
               clear hown' hgrow hnil ho0 hq0 hb2a
               obtain ⟨q1, rfl, hq1⟩ := (hl1.below (hb3.mono hB)).tokA (by omega))
            | (refine wpList_append_own _ rfl (.tmp 26) (.tmp 27) 35 rfl w.heap.size 56 i0 (.agg #[.int .i64 0, .int .i64 0]) 2 16 Tryd.underlying35 hi hz0 hz1 hz2 rfl (by decide) (.slice (some ⟨g', 0, none⟩) n0 cap') n0 (tokCells l0) rfl ho3 q1 n1 c1 (tokCells l1) rfl HCL1.out hq1.2 (tokCells_one l1) (by unfold maxLen; omega) (by omega) (by omega) ?_
               intro v' w4 hown' hgrow hnil
               obtain ⟨g2, cap2, rfl⟩ : ∃ g' cap', v' = .slice (some ⟨g', 0, none⟩) (n0 + n1) cap' := by
                 rcases hown'.2 with ⟨h0, _⟩ | ⟨g', cap', _, h0, _⟩
                 · have := (hnil.1 h0).1
                   cases this
                 · exact ⟨g', cap', h0⟩
               have hb4 : Below w.heap.size w w4 := hb3.grown hgrow (by omega) (fun k h => (ho3.lt k h).1)
               have ho4 : OwnT w4 w.heap.size (some ⟨g2, 0, none⟩) (n0 + n1) cap2 (l0 ++ l1) := by
                 unfold OwnT
                 rw [tokCells_append]
                 exact hown'
               have hz4 := hb4.size
               clear hown' hgrow hnil ho3 hq1 hb3)
            | (refine wpList_append_own _ rfl (.tmp 28) (.tmp 31) 35 rfl w.heap.size 56 i0 (.agg #[.int .i64 0, .int .i64 0]) 2 16 Tryd.underlying35 hi hz0 hz1 hz2 rfl (by decide) (.slice (some ⟨g2, 0, none⟩) (n0 + n1) cap2) (n0 + n1) (tokCells (l0 ++ l1)) rfl (ho4.alloc _) ⟨w4.heap.size, 0, none⟩ 1 1 (tokCells [(op, 0)]) rfl rfl (Blk.tokA2 _ _ _) (tokCells_one _) (by unfold maxLen; omega) (by omega) (by simp; omega) ?_
               intro v' w5 hown' hgrow hnil
               obtain ⟨g3, cap3, rfl⟩ : ∃ g' cap', v' = .slice (some ⟨g', 0, none⟩) (n0 + n1 + 1) cap' := by
                 rcases hown'.2 with ⟨h0, _⟩ | ⟨g', cap', _, h0, _⟩
                 · have := (hnil.1 h0).1
                   cases this
                 · exact ⟨g', cap', h0⟩
               have hb5 : Below w.heap.size w w5 := (hb4.alloc hz4 _).grown hgrow (by simp; omega) (fun k h => (ho4.lt k h).1)
               have HO5 : Hid (OwnT w5 w.heap.size (some ⟨g3, 0, none⟩) (n0 + n1 + 1) cap3 (l0 ++ (l1 ++ [(op, 0)]))) := by
                 show OwnT _ _ _ _ _ _
                 unfold OwnT
                 rw [← List.append_assoc, tokCells_append]
                 exact hown'
               clear hown' hgrow hnil ho4 hb4))
          go_wp2_with fail
          refine (l01If_any w5 w.heap.size _ (n0 + n1 + 1) cap3 _ (by omega) HO5.out).mono ?_
          rintro e w6 ⟨⟨A', c', rfl, ho6⟩, hb6⟩
          have HO6 := Lib.hid ho6
          have HB6 := Lib.hid (hb5.trans (hb6.mono hb5.size))
          clear ho6 hb6
          go_wp2
          go_ret2
          rw [HP.out]
          exact ⟨A', c', rfl, HO6.out, HB6.out⟩
        · have hp2 : (op != 2) = true := by rw [hop]; rfl
          have hp3 : (op != 3) = false := by rw [hop]; rfl
          clear hop
          go_enter Tryd.func45, Tryd.ntmps45
          go_wp2_with fail
          refine (specOk_any w B A0 n0 c0 l0 hB hl0 (by omega)).mono ?_
          rintro e w1 ⟨rfl, hb1⟩
          rw [HO.out]
          go_wp2_with fail
          refine (specOk_any w1 B A1 n1 c1 l1 (Nat.le_trans hB hb1.size) (hl1.below (hb1.mono hB)) (by omega)).mono ?_
          rintro e w2 ⟨rfl, hb2⟩
          rw [HO1.out]
          have hb12 := hb1.trans (hb2.mono hb1.size)
          have hz2' := hb12.size
          have hb2a : Below w.heap.size w (w2.alloc (.cells #[] 56)) := hb12.alloc hz2' _
          obtain ⟨q0, rfl, hq0⟩ := (hl0.below (hb2a.mono hB)).tokA (by omega)
          have ho0 : OwnT (w2.alloc (.cells #[] 56)) w.heap.size (some ⟨w2.heap.size, 0, none⟩) 0 0 [] := World.ownsRow_made w2 #[] 0 hz2' (by simp [maxLen]) (by simp)
          clear hb1 hb2 hb12
          go_wp2_with (at_builtin; first
            | (refine wpList_append_own _ rfl (.tmp 24) (.tmp 25) 35 rfl w.heap.size 56 i0 (.agg #[.int .i64 0, .int .i64 0]) 2 16 Tryd.underlying35 hi hz0 hz1 hz2 rfl (by decide) (.slice (some ⟨w2.heap.size, 0, none⟩) 0 0) 0 (tokCells []) rfl ho0 q0 n0 c0 (tokCells l0) rfl HCL0.out hq0.2 (tokCells_one l0) (by unfold maxLen; omega) (by omega) (by simp; omega) ?_
               intro v' w3 hown' hgrow hnil
               obtain ⟨g', cap', rfl⟩ : ∃ g' cap', v' = .slice (some ⟨g', 0, none⟩) n0 cap' := by
                 rcases hown'.2 with ⟨h0, _⟩ | ⟨g', cap', _, h0, _⟩
                 · have := (hnil.1 h0).1
                   cases this
                 · rw [Nat.zero_add] at h0; exact ⟨g', cap', h0⟩
               have hb3 : Below w.heap.size w w3 := hb2a.grown hgrow (by simp; omega) (fun k h => by have h' : w2.heap.size = k := (by simpa [Value.ownBlock] using h); omega)
               have ho3 : OwnT w3 w.heap.size (some ⟨g', 0, none⟩) n0 cap' l0 := by
                 have h := hown'
                 rw [tokCells_nil, List.nil_append, Nat.zero_add] at h
                 exact h
               have hz3 := hb3.size
               clear hown' hgrow hnil ho0 hq0 hb2a
               obtain ⟨q1, rfl, hq1⟩ := (hl1.below (hb3.mono hB)).tokA (by omega))
            | (refine wpList_append_own _ rfl (.tmp 26) (.tmp 27) 35 rfl w.heap.size 56 i0 (.agg #[.int .i64 0, .int .i64 0]) 2 16 Tryd.underlying35 hi hz0 hz1 hz2 rfl (by decide) (.slice (some ⟨g', 0, none⟩) n0 cap') n0 (tokCells l0) rfl ho3 q1 n1 c1 (tokCells l1) rfl HCL1.out hq1.2 (tokCells_one l1) (by unfold maxLen; omega) (by omega) (by omega) ?_
               intro v' w4 hown' hgrow hnil
               obtain ⟨g2, cap2, rfl⟩ : ∃ g' cap', v' = .slice (some ⟨g', 0, none⟩) (n0 + n1) cap' := by
                 rcases hown'.2 with ⟨h0, _⟩ | ⟨g', cap', _, h0, _⟩
                 · have := (hnil.1 h0).1
                   cases this
                 · exact ⟨g', cap', h0⟩
               have hb4 : Below w.heap.size w w4 := hb3.grown hgrow (by omega) (fun k h => (ho3.lt k h).1)
               have ho4 : OwnT w4 w.heap.size (some ⟨g2, 0, none⟩) (n0 + n1) cap2 (l0 ++ l1) := by
                 unfold OwnT
                 rw [tokCells_append]
                 exact hown'
               have hz4 := hb4.size
               clear hown' hgrow hnil ho3 hq1 hb3)
            | (refine wpList_append_own _ rfl (.tmp 28) (.tmp 31) 35 rfl w.heap.size 56 i0 (.agg #[.int .i64 0, .int .i64 0]) 2 16 Tryd.underlying35 hi hz0 hz1 hz2 rfl (by decide) (.slice (some ⟨g2, 0, none⟩) (n0 + n1) cap2) (n0 + n1) (tokCells (l0 ++ l1)) rfl (ho4.alloc _) ⟨w4.heap.size, 0, none⟩ 1 1 (tokCells [(op, 0)]) rfl rfl (Blk.tokA2 _ _ _) (tokCells_one _) (by unfold maxLen; omega) (by omega) (by simp; omega) ?_
               intro v' w5 hown' hgrow hnil
               obtain ⟨g3, cap3, rfl⟩ : ∃ g' cap', v' = .slice (some ⟨g', 0, none⟩) (n0 + n1 + 1) cap' := by
                 rcases hown'.2 with ⟨h0, _⟩ | ⟨g', cap', _, h0, _⟩
                 · have := (hnil.1 h0).1
                   cases this
                 · exact ⟨g', cap', h0⟩
               have hb5 : Below w.heap.size w w5 := (hb4.alloc hz4 _).grown hgrow (by simp; omega) (fun k h => (ho4.lt k h).1)
               have HO5 : Hid (OwnT w5 w.heap.size (some ⟨g3, 0, none⟩) (n0 + n1 + 1) cap3 (l0 ++ (l1 ++ [(op, 0)]))) := by
                 show OwnT _ _ _ _ _ _
                 unfold OwnT
                 rw [← List.append_assoc, tokCells_append]
                 exact hown'
               clear hown' hgrow hnil ho4 hb4))
          go_wp2_with fail
          refine (l01If_any w5 w.heap.size _ (n0 + n1 + 1) cap3 _ (by omega) HO5.out).mono ?_
          rintro e w6 ⟨⟨A', c', rfl, ho6⟩, hb6⟩
          have HO6 := Lib.hid ho6
          have HB6 := Lib.hid (hb5.trans (hb6.mono hb5.size))
          clear ho6 hb6
          go_wp2
          go_ret2
          rw [HP.out]
          exact ⟨A', c', rfl, HO6.out, HB6.out⟩
end Go.Proofs.YtgebjnoicgmdoaaDoor

namespace Go.Proofs.YtgebjnoicgmdoaaDoor
open Go.RowKit

/-- a slice of bytes below block B -/
def BytR (w : World) (B : Nat) (A : Option Addr) (n : Nat) : Prop :=
  0 < n → ∃ b off, A = some ⟨b, off, none⟩ ∧ b < B ∧ ∀ k, k < n → ∃ x : Nat, x < 256 ∧ w.cell? ⟨b, off + k, none⟩ = some (.int .u8 x)
theorem BytR.below {w w' : World} {B : Nat} {A : Option Addr} {n : Nat} (h : BytR w B A n) (hb : Below B w w') : BytR w' B A n := fun h0 => by
  obtain ⟨b, off, rfl, hB, hc⟩ := h h0
  refine ⟨b, off, rfl, hB, fun k hk => ?_⟩
  obtain ⟨x, hx, c⟩ := hc k hk
  exact ⟨x, hx, (hb.cell (p := ⟨b, off + k, none⟩) hB).trans c⟩

/-- the cursor at block bc over those bytes, its place at most K -/
def Cur (w : World) (bc : Nat) (A : Option Addr) (n c K : Nat) : Prop :=
  BytR w bc A n ∧ ∃ p s : Nat, Blk w bc 66 #[.slice A n c, .int .i64 p, .int .i64 s] ∧ p ≤ K ∧ s ≤ 70000
theorem Cur.lt {w : World} {bc : Nat} {A : Option Addr} {n c K : Nat} (h : Cur w bc A n c K) : bc < w.heap.size := by obtain ⟨_, p, s, hb, _⟩ := h; exact hb.lt
theorem Cur.more {w : World} {bc : Nat} {A : Option Addr} {n c K K' : Nat} (h : Cur w bc A n c K) (hK : K ≤ K') : Cur w bc A n c K' := by
  obtain ⟨h1, p, s, hb, hp, hs⟩ := h
  exact ⟨h1, p, s, hb, by omega, hs⟩
/-- nothing but the cursor's block has turned -/
abbrev Kp (bc : Nat) (w w' : World) : Prop := w.grownBy w' (some bc)
theorem Kp.refl (bc : Nat) (w : World) : Kp bc w w := ⟨rfl, rfl, rfl, Nat.le_refl _, fun _ _ _ => rfl⟩
theorem Kp.trans {bc : Nat} {a b c : World} (h : Kp bc a b) (k : Kp bc b c) : Kp bc a c :=
  ⟨k.os.trans h.os, k.tape.trans h.tape, k.output.trans h.output, Nat.le_trans h.size k.size, fun i hi hn => (k.block i (Nat.lt_of_lt_of_le hi h.size) hn).trans (h.block i hi hn)⟩
theorem Kp.of_below {bc : Nat} {a b : World} (h : Below a.heap.size a b) : Kp bc a b := ⟨h.os, h.tape, h.output, h.size, fun i hi _ => h.block i hi⟩
theorem Kp.below {bc B : Nat} {w0 a b : World} (h0 : Below B w0 a) (h : Kp bc a b) (hB : B ≤ bc) (hz : B ≤ a.heap.size) : Below B w0 b := h0.grown h hz (fun k hk => by injection hk with hk; omega)
theorem Kp.own {bc : Nat} {a b : World} {base : Nat} {e : TypeId} {size n : Nat} {v : Value} {xs : List Value} (h : a.ownsRow base e size v n xs) (hk : Kp bc a b) (hb : bc < base) : b.ownsRow base e size v n xs :=
  h.kept hk (by
    cases hv : v.ownBlock with
    | none => exact .inl rfl
    | some g =>
      refine .inr (fun he => ?_)
      have := (h.lt g hv).1
      injection he with he
      omega)
theorem Cur.below {w w' : World} {bc : Nat} {A : Option Addr} {n c K : Nat} (h : Cur w bc A n c K) (hb : Below w.heap.size w w') : Cur w' bc A n c K := by
  have hlt := h.lt
  obtain ⟨h1, p, s, hblk, hp, hs⟩ := h
  exact ⟨h1.below (hb.mono (by omega)), p, s, hblk.below hb hlt, hp, hs⟩

theorem Kp.drew {bc : Nat} {a b : World} (h : Kp bc a b) : Kp bc a b.drew := ⟨h.os, h.tape, h.output, h.size, h.block⟩
theorem Kp.put (w : World) (bc i : Nat) (u : Value) : Kp bc w (w.setCell ⟨bc, i, none⟩ u) :=
  ⟨rfl, rfl, rfl, by rw [World.size_setCell]; exact Nat.le_refl _, fun k _ hn => Below.heap_setCell w ⟨bc, i, none⟩ u k (fun e => hn (by rw [e]))⟩
theorem cur_put {w : World} {bc : Nat} {A : Option Addr} {n c K p s : Nat} (hby : BytR w bc A n) (hblk : Blk w bc 66 #[.slice A n c, .int .i64 p, .int .i64 s]) (hp : p ≤ K) (hs : s ≤ 70000) :
    Cur (w.setCell ⟨bc, 1, none⟩ (.int .i64 ((p : Int) + 1))) bc A n c (K + 1) := by
  refine ⟨hby.below ((Below.refl _ _).setCell (p := ⟨bc, 1, none⟩) (Nat.le_refl _) _), p + 1, s, ?_, by omega, hs⟩
  have h := hblk.put 1 (.int .i64 ((p : Int) + 1))
  exact h
theorem cur_put2 {w : World} {bc : Nat} {A : Option Addr} {n c K p s s' : Nat} (hby : BytR w bc A n) (hblk : Blk w bc 66 #[.slice A n c, .int .i64 p, .int .i64 s]) (hp : p ≤ K) (hs : s' ≤ 70000) :
    Cur ((w.setCell ⟨bc, 2, none⟩ (.int .i64 (s' : Int))).setCell ⟨bc, 1, none⟩ (.int .i64 ((p : Int) + 1))) bc A n c (K + 1) := by
  refine cur_put (s := s') (hby.below ((Below.refl _ _).setCell (p := ⟨bc, 2, none⟩) (Nat.le_refl _) _)) ?_ hp hs
  have h := hblk.put 2 (.int .i64 (s' : Int))
  exact h

set_option maxRecDepth 100000 in
set_option maxHeartbeats 2000000 in
theorem pick_any (w : World) (bc : Nat) (A : Option Addr) (n c K m : Nat) (hc : Cur w bc A n c K) (hK : K ≤ 1000000) (hm : m ≤ 1000000) (hn : n ≤ 1048576) :
    Calls Tryd.prog 16 #[.pointer (some ⟨bc, 0, none⟩), .int .i64 m] w fun e w' => ∃ r : Nat, e = .returned (.int .i64 r) ∧ (r = 0 ∨ r < m) ∧ Cur w' bc A n c (K + 1) ∧ Kp bc w w' := by
  by_cases hm2 : m < 2
  · go_enter Tryd.func16, Tryd.ntmps16
    go_wp2
    go_ret
    exact ⟨0, rfl, .inl rfl, hc.more (by omega), Kp.refl _ _⟩
  · obtain ⟨hby, p, s, hblk, hp, hs⟩ := hc
    have x0 : w.cell? ⟨bc, 0, none⟩ = some (.slice A n c) := hblk.cell 0
    have x1 : w.cell? ⟨bc, 1, none⟩ = some (.int .i64 p) := hblk.cell 1
    have x2 : w.cell? ⟨bc, 2, none⟩ = some (.int .i64 s) := hblk.cell 2
    have f1 := hblk.thawed 1
    have f2 := hblk.thawed 2
    have hlt := hblk.lt
    have hm2' : ¬ ((m : Int) < 2) := by omega
    by_cases hat : p < n
    · obtain ⟨b, off, rfl, hb, hcs⟩ := hby (by omega)
      obtain ⟨x, hx, y1⟩ := hcs p hat
      have HB := Lib.hid hblk
      have HY := Lib.hid hby
      clear hblk hcs hby
      go_enter Tryd.func16, Tryd.ntmps16
      go_wp2_with fail
      go_region
      go_wp2_with fail
      go_region
      go_wp2
      go_ret
      exact ⟨x % m, ret_int (by simp), .inr (Nat.mod_lt _ (by omega)), cur_put HY.out HB.out hp hs, (Kp.put _ _ _ _).drew.drew⟩
    · obtain ⟨s', hs'⟩ : ∃ s' : Nat, (s * 1103 + 12345) % 65521 = s' := ⟨_, rfl⟩
      have hsb : s' ≤ 65520 := by omega
      have hsi : ((s : Int) * 1103 + 12345) % 65521 = (s' : Int) := by omega
      by_cases hn0 : n = 0
      · subst hn0
        have HB := Lib.hid hblk
        have HY := Lib.hid hby
        clear hblk hby hs'
        go_enter Tryd.func16, Tryd.ntmps16
        go_wp2_with fail
        go_region
        go_wp2
        go_ret
        exact ⟨0 % m, ret_int (by simp), .inr (Nat.mod_lt _ (by omega)), cur_put2 HY.out HB.out hp (by omega), ((Kp.put _ _ _ _).trans (Kp.put _ _ _ _)).drew⟩
      · obtain ⟨b, off, rfl, hb, hcs⟩ := hby (by omega)
        have hpm : p % n < n := Nat.mod_lt _ (by omega)
        obtain ⟨x, hx, y1⟩ := hcs (p % n) hpm
        have hcast : (p : Int) % (n : Int) = ((p % n : Nat) : Int) := by simp
        generalize p % n = q at hpm y1 hcast
        have HB := Lib.hid hblk
        have HY := Lib.hid hby
        clear hblk hcs hby hs'
        go_enter Tryd.func16, Tryd.ntmps16
        go_wp2_with fail
        go_region
        go_wp2_with fail
        go_region
        go_wp2
        go_ret
        exact ⟨(s' / 7 + x) % m, ret_int (by simp), .inr (Nat.mod_lt _ (by omega)), cur_put2 HY.out HB.out hp (by omega), ((Kp.put _ _ _ _).trans (Kp.put _ _ _ _)).drew.drew⟩

set_option maxHeartbeats 800000 in
theorem once_any (w : World) (bc : Nat) (A : Option Addr) (n c K m : Nat) (hc : Cur w bc A n c K) (hK : K ≤ 1000000) (hm : m ≤ 1000000) (hn : n ≤ 1048576) :
    Calls Tryd.prog 15 #[.pointer (some ⟨bc, 0, none⟩), .int .i64 m] w fun e w' => ∃ r : Bool, e = .returned (.bool r) ∧ Cur w' bc A n c (K + 1) ∧ Kp bc w w' := by
  go_enter Tryd.func15, Tryd.ntmps15
  go_wp2_with fail
  refine (pick_any w bc A n c K m hc hK hm hn).mono ?_
  rintro e w1 ⟨r, rfl, _, hc1, hk1⟩
  go_wp2
  go_ret
  exact ⟨_, rfl, hc1, hk1⟩
end Go.Proofs.YtgebjnoicgmdoaaDoor
