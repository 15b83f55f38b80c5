/- Constraints of the program: implies, ConsImply. -/
import Derived.Test.YtmmhcpigcdlnmaaPtSat
import Derived.Test.YtmmhcpigcdlnmaaCoImp

namespace Go.Proofs.Ytmmhcpigcdlnmaa
open Go.RowKit
open Cs (Cn Tb)

/-- what a table implies -/
def impT (T : Tb) (u v : Nat) (R : Int) : Bool := if R = 1 then decide (1 ≤ T u v) else if R = 2 then decide (0 ≤ T u v) && decide (0 ≤ T v u) else decide (0 ≤ T u v)
theorem impT_imp {l : List Cn} {U R V : Int} {u v : Nat} (hu : U + 1 = u) (hv : V + 1 = v) (h0 : 0 ≤ R) (h2 : R ≤ 2) : impT (Cs.tab l) u v R = Cs.imp l (U, R, V) := by
  rw [imp_at hu hv]
  unfold impT
  by_cases e1 : R = 1
  · rw [if_pos e1, if_neg (by omega), if_pos e1]
  · by_cases e2 : R = 2
    · rw [if_neg e1, if_pos e2, if_neg (by omega), if_neg e1]
    · rw [if_neg e1, if_neg e2, if_pos (by omega)]

set_option maxRecDepth 100000 in
set_option maxHeartbeats 1600000 in
theorem implies_any (w : World) (T : Tb) (U R V : Int) (u v : Nat) (hu : U + 1 = u) (hu6 : u < 6) (hv : V + 1 = v) (hv6 : v < 6) :
    Calls Try.prog 70 #[tabV T, .agg #[.int .i64 U, .int .i64 R, .int .i64 V]] w fun e w' => e = .returned (.bool (impT T u v R)) ∧ Below w.heap.size w w' := by
  obtain ⟨W, hW⟩ : ∃ W, (w.alloc (.cells (tabA T) 70)).alloc (.cells #[.int .i64 U, .int .i64 R, .int .i64 V] 34) = W := ⟨_, rfl⟩
  have hb0 : Below w.heap.size w W := by rw [← hW]; exact ((Below.refl _ _).alloc (Nat.le_refl _) _).alloc (by simp) _
  have c0 : Blk W w.heap.size 70 (tabA T) := by
    rw [← hW]
    exact Blk.below (Blk.made w _ _) ((Below.refl _ _).alloc (Nat.le_refl _) _) (by simp)
  have c1 : Blk W (w.heap.size + 1) 34 #[.int .i64 U, .int .i64 R, .int .i64 V] := by
    have h1 : Blk ((w.alloc (.cells (tabA T) 70)).alloc (.cells #[.int .i64 U, .int .i64 R, .int .i64 V] 34)) (w.alloc (.cells (tabA T) 70)).heap.size 34 #[.int .i64 U, .int .i64 R, .int .i64 V] := Blk.made _ _ _
    rw [show (w.alloc (.cells (tabA T) 70)).heap.size = w.heap.size + 1 by simp] at h1
    rw [← hW]
    exact h1
  have y0 : W.cell? ⟨w.heap.size + 1, 0, none⟩ = some (.int .i64 U) := c1.cell 0
  have y1 : W.cell? ⟨w.heap.size + 1, 1, none⟩ = some (.int .i64 R) := c1.cell 1
  have y2 : W.cell? ⟨w.heap.size + 1, 2, none⟩ = some (.int .i64 V) := c1.cell 2
  have HC1 := Lib.hid c1
  have HC0 := Lib.hid c0
  have HB0 := Lib.hid hb0
  have HU := Lib.hid hu
  have HV := Lib.hid hv
  clear c1 hu hv hb0
  go_enter Try.func70, Try.ntmps70
  go_wp2_with (refine wpList_load_row rfl 70 _ rfl w.heap.size rfl 70 (tabA T) (0, 0) _ c0 Try.underlying70 rfl (size_tab T) ?_)
  refine (far_any W T U V u v HU.out hu6 HV.out hv6).mono ?_
  rintro e w1 ⟨rfl, hb1⟩
  have HB1 := Lib.hid (HB0.out.trans (hb1.mono HB0.out.size))
  have k0 := Blk.below HC0.out hb1 HC0.out.lt
  have k1 := Blk.below HC1.out hb1 HC1.out.lt
  have z0 : w1.cell? ⟨w.heap.size + 1, 0, none⟩ = some (.int .i64 U) := k1.cell 0
  have z1 : w1.cell? ⟨w.heap.size + 1, 1, none⟩ = some (.int .i64 R) := k1.cell 1
  have z2 : w1.cell? ⟨w.heap.size + 1, 2, none⟩ = some (.int .i64 V) := k1.cell 2
  obtain ⟨x, hx⟩ : ∃ x, T u v = x := ⟨_, rfl⟩
  rw [hx]
  have HX := Lib.hid hx
  clear hb1 k1 hW y0 y1 y2 c0 hx
  by_cases e1 : R = 1
  · have HF : Hid (impT T u v R = decide (1 ≤ x)) := by show _ = _; unfold impT; rw [if_pos e1, HX.out]
    subst e1
    go_wp2
    go_ret
    exact ⟨by rw [HF.out]; rfl, HB1.out⟩
  · have d1 : (R == 1) = false := by simpa using e1
    by_cases e2 : R = 2
    · subst e2
      by_cases h0 : 0 ≤ x
      · have HF : Hid (impT T u v 2 = decide (0 ≤ T v u)) := by show _ = _; unfold impT; rw [if_neg (by decide), if_pos rfl, HX.out, decide_eq_true h0, Bool.true_and]
        have dx : decide (0 ≤ x) = true := decide_eq_true h0
        go_wp2_with (refine wpList_load_row_g rfl 70 _ rfl w.heap.size rfl 70 (tabA T) (0, 0) _ k0 Try.underlying70 rfl (size_tab T) ?_)
        refine (far_any w1 T V U v u HV.out hv6 HU.out hu6).mono ?_
        rintro e w2 ⟨rfl, hb2⟩
        have HB2 := Lib.hid (HB1.out.trans (hb2.mono HB1.out.size))
        clear hb2
        obtain ⟨y, hy⟩ : ∃ y, T v u = y := ⟨_, rfl⟩
        rw [hy] at HF ⊢
        clear hy
        go_wp2
        go_ret
        exact ⟨by rw [HF.out]; rfl, HB2.out⟩
      · have HF : Hid (impT T u v 2 = false) := by show _ = _; unfold impT; rw [if_neg (by decide), if_pos rfl, HX.out, decide_eq_false h0, Bool.false_and]
        have dx : decide (0 ≤ x) = false := decide_eq_false h0
        go_wp2
        go_ret
        exact ⟨by rw [HF.out]; rfl, HB1.out⟩
    · have HF : Hid (impT T u v R = decide (0 ≤ x)) := by show _ = _; unfold impT; rw [if_neg e1, if_neg e2, HX.out]
      have d2 : (R == 2) = false := by simpa using e2
      clear e1 e2
      go_wp2
      go_ret
      exact ⟨by rw [HF.out]; rfl, HB1.out⟩

set_option maxRecDepth 100000 in
set_option maxHeartbeats 1600000 in
theorem implConsImply_any (w : World) (B : Nat) (A : Option Addr) (n c : Nat) (l : List Cn) (U R V : Int) (hB : B ≤ w.heap.size) (hl : ConR w B A n l) (hn : (n : Int) ≤ 140737488355328) :
    Calls Try.prog 25 #[.slice A n c, .agg #[.int .i64 U, .int .i64 R, .int .i64 V]] w fun e w' => e = .returned (.bool (impR l (U, R, V))) ∧ Below w.heap.size w w' := by
  have hz := zeros_tab
  obtain ⟨W0, hW0⟩ : ∃ W, w.alloc (.cells #[.int .i64 U, .int .i64 R, .int .i64 V] 34) = W := ⟨_, rfl⟩
  have hb0 : Below w.heap.size w W0 := by rw [← hW0]; exact (Below.refl _ _).alloc (Nat.le_refl _) _
  have hs0 : w.heap.size < W0.heap.size := by rw [← hW0]; simp
  have HX : Hid (Blk W0 w.heap.size 34 #[.int .i64 U, .int .i64 R, .int .i64 V]) := by show Blk _ _ _ _; rw [← hW0]; exact Blk.made _ _ _
  have HL := Lib.hid (hl.below (hb0.mono hB))
  have HB0 := Lib.hid hb0
  clear hl hb0
  go_enter Try.func25, Try.ntmps25
  go_wp2_with fail
  refine (pathsOf_any W0 B A n c l (by omega) HL.out hn).mono ?_
  rintro e w1 ⟨rfl, hb1⟩
  obtain ⟨T, hT⟩ : ∃ T, pathT l = T := ⟨_, rfl⟩
  rw [hT]
  have HT := Lib.hid hT
  clear hT
  obtain ⟨W1, hW1⟩ : ∃ W, w1.alloc (.cells (tabA zeroT) 70) = W := ⟨_, rfl⟩
  have c1 : Blk W1 w1.heap.size 70 (tabA zeroT) := by rw [← hW1]; exact Blk.made _ _ _
  obtain ⟨S, hS⟩ : ∃ S, w1.heap.size = S := ⟨_, rfl⟩
  rw [hS] at c1
  obtain ⟨W2, hW2⟩ : ∃ W, W1.setRow S (tabA T) = W := ⟨_, rfl⟩
  have c2 : Blk W2 S 70 (tabA T) := by rw [← hW2]; exact BlkT.lay c1 T
  have hSw : w.heap.size < S := by have := hb1.size; omega
  have HB2 : Hid (Below w.heap.size w W2) := by
    show Below _ _ _
    have q1 : Below w1.heap.size w1 W1 := by rw [← hW1]; exact (Below.refl _ _).alloc (Nat.le_refl _) _
    have := q1.size
    have := hb1.size
    rw [← hW2]
    exact (Wrote.row _ _ _).below (HB0.out.trans (hb1.mono (by omega)) |>.trans (q1.mono (by omega))) (by omega) (by omega)
  have HX2 : Hid (Blk W2 w.heap.size 34 #[.int .i64 U, .int .i64 R, .int .i64 V]) := by
    show Blk _ _ _ _
    have q1 : Below w1.heap.size w1 W1 := by rw [← hW1]; exact (Below.refl _ _).alloc (Nat.le_refl _) _
    rw [← hW2]
    exact (Wrote.row _ _ _).blk (Blk.below (Blk.below HX.out hb1 hs0) q1 (by omega)) (by omega)
  have y0 : W2.cell? ⟨w.heap.size, 0, none⟩ = some (.int .i64 U) := HX2.out.cell 0
  have y1 : W2.cell? ⟨w.heap.size, 1, none⟩ = some (.int .i64 R) := HX2.out.cell 1
  have y2 : W2.cell? ⟨w.heap.size, 2, none⟩ = some (.int .i64 V) := HX2.out.cell 2
  clear hb1 hW0
  cases h1 : satR l with
  | false =>
    have HF : Hid (impR l (U, R, V) = false) := by show _ = _; unfold impR; rw [h1, Bool.false_and, Bool.false_and]
    clear h1
    go_wp2_with (refine wpList_store_row rfl 70 _ _ rfl S (tabA T) rfl rfl 70 (tabA zeroT) c1 (size_tab T) rfl (tabA_one T) ?_)
    go_ret
    exact ⟨by rw [HF.out]; rfl, HB2.out⟩
  | true =>
    have H1 := Lib.hid h1
    clear h1
    go_wp2_with (refine wpList_store_row rfl 70 _ _ rfl S (tabA T) rfl rfl 70 (tabA zeroT) c1 (size_tab T) rfl (tabA_one T) ?_)
    refine (implConOk_any W2 U R V).mono ?_
    rintro e w3 ⟨rfl, hb3⟩
    have HB3 := Lib.hid (HB2.out.trans (hb3.mono HB2.out.size))
    have HX3 := Lib.hid (Blk.below HX2.out hb3 HX2.out.lt)
    have z0 : w3.cell? ⟨w.heap.size, 0, none⟩ = some (.int .i64 U) := HX3.out.cell 0
    have z1 : w3.cell? ⟨w.heap.size, 1, none⟩ = some (.int .i64 R) := HX3.out.cell 1
    have z2 : w3.cell? ⟨w.heap.size, 2, none⟩ = some (.int .i64 V) := HX3.out.cell 2
    have c3 := Blk.below c2 hb3 c2.lt
    clear hb3 y0 y1 y2 c1 c2 hW1 hW2 hS
    cases h2 : Cs.cOk (U, R, V) with
    | false =>
      have HF : Hid (impR l (U, R, V) = false) := by show _ = _; unfold impR; rw [H1.out, h2, Bool.true_and, Bool.false_and]
      clear h2
      go_wp2
      go_ret
      exact ⟨by rw [HF.out]; rfl, HB3.out⟩
    | true =>
      have ho := (Cs.cOk_iff _).1 h2
      obtain ⟨u, hu⟩ : ∃ u : Nat, U + 1 = u := ⟨(U + 1).toNat, by have := ho.1.1; have h : -1 ≤ U := this; omega⟩
      obtain ⟨v, hv⟩ : ∃ v : Nat, V + 1 = v := ⟨(V + 1).toNat, by have := ho.2.1.1; have h : -1 ≤ V := this; omega⟩
      have hu6 : u < 6 := by have := ho.1.2; have h : U < 5 := this; omega
      have hv6 : v < 6 := by have := ho.2.1.2; have h : V < 5 := this; omega
      have HF : Hid (impR l (U, R, V) = impT T u v R) := by
        show _ = _
        unfold impR
        rw [H1.out, h2, Bool.true_and, Bool.true_and, ← HT.out, pathT_yes H1.out]
        exact (impT_imp hu hv ho.2.2.1 ho.2.2.2).symm
      have HU := Lib.hid hu
      have HV := Lib.hid hv
      clear h2 ho hu hv
      go_wp2_with (refine wpList_load_row_g rfl 70 _ rfl S rfl 70 (tabA T) (0, 0) _ c3 Try.underlying70 rfl (size_tab T) ?_)
      refine (implies_any w3 T U R V u v HU.out hu6 HV.out hv6).mono ?_
      rintro e w4 ⟨rfl, hb4⟩
      have HB4 := Lib.hid (HB3.out.trans (hb4.mono HB3.out.size))
      clear hb4
      rw [← HF.out]
      go_wp2
      go_ret
      exact ⟨rfl, HB4.out⟩
end Go.Proofs.Ytmmhcpigcdlnmaa
