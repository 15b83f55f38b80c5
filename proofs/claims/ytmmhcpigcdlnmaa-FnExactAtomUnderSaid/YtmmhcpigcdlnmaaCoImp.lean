/- ConsSat of the reference model. -/
/- ConsFar of the reference model. -/
/- ConsImply of the reference model. -/
import Derived.Test.YtmmhcpigcdlnmaaCoPath

namespace Go.Proofs.Ytmmhcpigcdlnmaa
open Go.RowKit
open Cs (Cn Tb)

theorem consOk_parts {l : List Cn} (h : consOkR l = true) : Cs.ok l ∧ l.length ≤ 1000 := by
  unfold consOkR at h
  simp only [Bool.and_eq_true, decide_eq_true_eq, List.all_eq_true] at h
  exact ⟨fun c hc => h.1 c hc, by omega⟩
/-- the answer of ConsSat -/
def satR (l : List Cn) : Bool := consOkR l && Cs.flat l
theorem satR_no {l : List Cn} (h : consOkR l = false) : satR l = false := by unfold satR; rw [h]; rfl
theorem satR_ok {l : List Cn} (h : consOkR l = true) : satR l = Cs.flat l := by unfold satR; rw [h, Bool.true_and]

set_option maxRecDepth 100000 in
set_option maxHeartbeats 1600000 in
theorem specConsSat_any (w : World) (B : Nat) (A : Option Addr) (n c : Nat) (l : List Cn) (hB : B ≤ w.heap.size) (hl : ConR w B A n l) (hn : (n : Int) ≤ 140737488355328) :
    Calls Try.prog 23 #[.slice A n c] w fun e w' => e = .returned (.bool (satR l)) ∧ Below w.heap.size w w' := by
  have HL := Lib.hid hl
  clear hl
  go_enter Try.func23, Try.ntmps23
  go_wp2_with fail
  refine (specConsOk_any w B A n c l hB HL.out hn).mono ?_
  rintro e w1 ⟨rfl, hb1⟩
  have HB1 := Lib.hid hb1
  have hs1 := hb1.size
  clear hb1
  cases hc : consOkR l with
  | false =>
    have HF := Lib.hid (satR_no hc)
    clear hc
    go_wp2
    go_ret
    exact ⟨by rw [HF.out]; rfl, HB1.out⟩
  | true =>
    have HF := Lib.hid (satR_ok hc)
    have HP := Lib.hid (consOk_parts hc)
    clear hc
    go_wp2_with fail
    refine (l05Paths_any w1 B A n c l (Nat.le_trans hB hs1) (HL.out.below (HB1.out.mono hB)) HP.out.1 (by rw [← HL.out.1]; exact HP.out.2)).mono ?_
    rintro e w2 ⟨hb2, ⟨hf, g, cap, rw', cp, rfl, _⟩ | ⟨hf, rfl⟩⟩
    · have HR : Hid (satR l = true) := HF.out.trans hf
      have HB2 := Lib.hid (HB1.out.trans (hb2.mono hs1))
      clear hb2 hf HF HP
      go_wp2
      go_ret
      exact ⟨by rw [HR.out]; rfl, HB2.out⟩
    · have HR : Hid (satR l = false) := HF.out.trans hf
      have HB2 := Lib.hid (HB1.out.trans (hb2.mono hs1))
      clear hb2 hf HF HP
      go_wp2
      go_ret
      exact ⟨by rw [HR.out]; rfl, HB2.out⟩
end Go.Proofs.Ytmmhcpigcdlnmaa

namespace Go.Proofs.Ytmmhcpigcdlnmaa
open Go.RowKit
open Cs (Cn Tb)

/-- the answer of ConsFar -/
def farR (l : List Cn) (i j : Int) : Int := if satR l = true ∧ nodeR i = true ∧ nodeR j = true then Cs.tab l (Cs.node i) (Cs.node j) else -1
theorem satR_parts {l : List Cn} (h : satR l = true) : Cs.ok l ∧ l.length ≤ 1000 ∧ Cs.flat l = true := by
  unfold satR at h
  rw [Bool.and_eq_true] at h
  exact ⟨(consOk_parts h.1).1, (consOk_parts h.1).2, h.2⟩
theorem nodeR_nat {n : Int} (h : nodeR n = true) : ∃ u : Nat, n + 1 = u ∧ u < 6 := by
  simp [nodeR] at h
  exact ⟨(n + 1).toNat, by omega, by omega⟩
/-- the table of a list that can be satisfied -/
theorem l05Paths_sat (w : World) (B : Nat) (A : Option Addr) (n c : Nat) (l : List Cn) (hB : B ≤ w.heap.size) (hl : ConR w B A n l) (hs : satR l = true) :
    Calls Try.prog 55 #[.slice A n c] w fun e w' => Below w.heap.size w w' ∧ ∃ g cap rw cp, e = .returned (.tuple #[.slice (some ⟨g, 0, none⟩) 6 cap, .bool true]) ∧ TabN w' w.heap.size g cap 6 rw cp (Cs.tab l) := by
  have hp := satR_parts hs
  refine (l05Paths_any w B A n c l hB hl hp.1 (by rw [← hl.1]; exact hp.2.1)).mono ?_
  rintro e w2 ⟨hb2, ⟨_, g, cap, rw', cp, he, ht⟩ | ⟨hf, _⟩⟩
  · exact ⟨hb2, g, cap, rw', cp, he, ht⟩
  · rw [hp.2.2] at hf; cases hf

set_option maxRecDepth 100000 in
set_option maxHeartbeats 1600000 in
theorem specConsFar_any (w : World) (B : Nat) (A : Option Addr) (n c : Nat) (l : List Cn) (i j : Int) (hB : B ≤ w.heap.size) (hl : ConR w B A n l) (hn : (n : Int) ≤ 140737488355328) :
    Calls Try.prog 22 #[.slice A n c, .int .i64 i, .int .i64 j] w fun e w' => e = .returned (.int .i64 (farR l i j)) ∧ Below w.heap.size w w' := by
  have HL := Lib.hid hl
  clear hl
  go_enter Try.func22, Try.ntmps22
  go_wp2_with fail
  refine (specConsSat_any w B A n c l hB HL.out hn).mono ?_
  rintro e w1 ⟨rfl, hb1⟩
  have HB1 := Lib.hid hb1
  have hs1 := hb1.size
  clear hb1
  cases h1 : satR l with
  | false =>
    have HF : Hid (farR l i j = -1) := if_neg (fun h => by rw [h1] at h; exact absurd h.1 (by decide))
    clear h1
    go_wp2
    go_ret
    exact ⟨by rw [HF.out]; rfl, HB1.out⟩
  | true =>
    have H1 := Lib.hid h1
    clear h1
    go_wp2_with fail
    refine (l05Node_any w1 i).mono ?_
    rintro e w2 ⟨rfl, rfl⟩
    cases h2 : nodeR i with
    | false =>
      have HF : Hid (farR l i j = -1) := if_neg (fun h => by rw [h2] at h; exact absurd h.2.1 (by decide))
      clear h2
      go_wp2
      go_ret
      exact ⟨by rw [HF.out]; rfl, HB1.out⟩
    | true =>
      have H2 := Lib.hid h2
      clear h2
      go_wp2_with fail
      refine (l05Node_any w2 j).mono ?_
      rintro e w3 ⟨rfl, rfl⟩
      cases h3 : nodeR j with
      | false =>
        have HF : Hid (farR l i j = -1) := if_neg (fun h => by rw [h3] at h; exact absurd h.2.2 (by decide))
        clear h3
        go_wp2
        go_ret
        exact ⟨by rw [HF.out]; rfl, HB1.out⟩
      | true =>
        obtain ⟨u, hu, hu6⟩ := nodeR_nat H2.out
        obtain ⟨v, hv, hv6⟩ := nodeR_nat h3
        have HF : Hid (farR l i j = Cs.tab l u v) := (if_pos ⟨H1.out, H2.out, h3⟩).trans (by rw [node_of hu, node_of hv])
        clear h3
        have hui : (u : Int) < 6 := by omega
        have hvi : (v : Int) < 6 := by omega
        go_wp2_with fail
        refine (l05Paths_sat w3 B A n c l (Nat.le_trans hB hs1) (HL.out.below (HB1.out.mono hB)) H1.out).mono ?_
        rintro e w4 ⟨hb4, g, cap, rw', cp, rfl, ht⟩
        have HB4 := Lib.hid (HB1.out.trans (hb4.mono hs1))
        have q1 := ht.head hu6
        obtain ⟨q2, _⟩ := ht.spot hu6 hv6
        clear hb4 ht
        go_wp2
        go_ret
        exact ⟨by rw [HF.out]; rfl, HB4.out⟩
end Go.Proofs.Ytmmhcpigcdlnmaa

namespace Go.Proofs.Ytmmhcpigcdlnmaa
open Go.RowKit
open Cs (Cn Tb)

/-- the answer of ConsImply -/
def impR (l : List Cn) (c : Cn) : Bool := satR l && Cs.cOk c && Cs.imp l c
theorem imp_at {l : List Cn} {U R V : Int} {u v : Nat} (hu : U + 1 = u) (hv : V + 1 = v) : Cs.imp l (U, R, V) = if R = 0 then decide (0 ≤ Cs.tab l u v) else if R = 1 then decide (1 ≤ Cs.tab l u v) else decide (0 ≤ Cs.tab l u v) && decide (0 ≤ Cs.tab l v u) := by
  unfold Cs.imp
  simp only [node_of hu, node_of hv]

set_option maxRecDepth 100000 in
set_option maxHeartbeats 4000000 in
theorem specConsImply_any (w : World) (B : Nat) (A : Option Addr) (n c : Nat) (l : List Cn) (U R V : Int) (hB : B ≤ w.heap.size) (hl : ConR w B A n l) (hn : (n : Int) ≤ 140737488355328) :
    Calls Try.prog 72 #[.slice A n c, .agg #[.int .i64 U, .int .i64 R, .int .i64 V]] w fun e w' => e = .returned (.bool (impR l (U, R, V))) ∧ Below w.heap.size w w' := by
  obtain ⟨W, hW⟩ : ∃ W, w.alloc (.cells #[.int .i64 U, .int .i64 R, .int .i64 V] 34) = W := ⟨_, rfl⟩
  have HB0 : Hid (Below w.heap.size w W) := by rw [← hW]; exact (Below.refl _ _).alloc (Nat.le_refl _) _
  have hs0 : w.heap.size < W.heap.size := by rw [← hW]; simp
  have HX : Hid (Blk W w.heap.size 34 #[.int .i64 U, .int .i64 R, .int .i64 V]) := by rw [← hW]; exact Blk.made _ _ _
  have HL := Lib.hid (hl.below (HB0.out.mono hB))
  clear hl
  go_enter Try.func72, Try.ntmps72
  go_wp2_with fail
  refine (specConsSat_any W B A n c l (by omega) HL.out hn).mono ?_
  rintro e w1 ⟨rfl, hb1⟩
  have HB1 := Lib.hid (HB0.out.trans (hb1.mono (Nat.le_of_lt hs0)))
  have HX1 := Lib.hid (HX.out.below hb1 hs0)
  have HL1 := Lib.hid (HL.out.below (hb1.mono (by omega)))
  have hs1 := hb1.size
  have y0 : w1.cell? ⟨w.heap.size, 0, none⟩ = some (.int .i64 U) := HX1.out.cell 0
  have y1 : w1.cell? ⟨w.heap.size, 1, none⟩ = some (.int .i64 R) := HX1.out.cell 1
  have y2 : w1.cell? ⟨w.heap.size, 2, none⟩ = some (.int .i64 V) := HX1.out.cell 2
  clear hb1 hW
  cases h1 : satR l with
  | false =>
    have HF : Hid (impR l (U, R, V) = false) := by show _ = _; unfold impR; rw [h1, Bool.false_and, Bool.false_and]
    clear h1
    go_wp2
    go_ret
    exact ⟨by rw [HF.out]; rfl, HB1.out⟩
  | true =>
    have H1 := Lib.hid h1
    clear h1
    go_wp2_with fail
    refine (specConOk_any w1 U R V).mono ?_
    rintro e w2 ⟨rfl, hb2⟩
    have HB2 := Lib.hid (HB1.out.trans (hb2.mono (by omega)))
    have HX2 := Lib.hid (HX1.out.below hb2 (by omega))
    have HL2 := Lib.hid (HL1.out.below (hb2.mono (by omega)))
    have hs2 := hb2.size
    clear hb2 y0 y1 y2
    cases h2 : Cs.cOk (U, R, V) with
    | false =>
      have HF : Hid (impR l (U, R, V) = false) := by show _ = _; unfold impR; rw [h2, Bool.and_false, Bool.false_and]
      clear h2
      go_wp2
      go_ret
      exact ⟨by rw [HF.out]; rfl, HB2.out⟩
    | true =>
      have HF0 : Hid (impR l (U, R, V) = Cs.imp l (U, R, V)) := by show _ = _; unfold impR; rw [h2, H1.out, Bool.true_and, Bool.true_and]
      have hcok := (Cs.cOk_iff _).1 h2
      simp only at hcok
      obtain ⟨u, hu⟩ : ∃ u : Nat, U + 1 = u := ⟨(U + 1).toNat, by omega⟩
      obtain ⟨v, hv⟩ : ∃ v : Nat, V + 1 = v := ⟨(V + 1).toNat, by omega⟩
      have HF1 := Lib.hid (HF0.out.trans (imp_at hu hv))
      clear h2 HF0
      have hu6 : u < 6 := by omega
      have hv6 : v < 6 := by omega
      have hui : (u : Int) < 6 := by omega
      have hvi : (v : Int) < 6 := by omega
      have wu : IntKind.i64.wrap (u : Int) = u := IntWalk.i64_in _ ⟨by omega, by omega⟩
      have wv : IntKind.i64.wrap (v : Int) = v := IntWalk.i64_in _ ⟨by omega, by omega⟩
      have hu0 : 0 ≤ (u : Int) := by omega
      have hv0 : 0 ≤ (v : Int) := by omega
      go_wp2_with fail
      refine (l05Paths_sat w2 B A n c l (by omega) HL2.out H1.out).mono ?_
      rintro e w4 ⟨hb4, g, cap, rw', cp, rfl, ht⟩
      have HB4 := Lib.hid (HB2.out.trans (hb4.mono (by omega)))
      have HX4 := Lib.hid (HX2.out.below hb4 (by omega))
      have q1 := ht.head hu6
      obtain ⟨q2, _⟩ := ht.spot hu6 hv6
      have q3 := ht.head hv6
      obtain ⟨q4, _⟩ := ht.spot hv6 hu6
      have y0 : w4.cell? ⟨w.heap.size, 0, none⟩ = some (.int .i64 U) := HX4.out.cell 0
      have y1 : w4.cell? ⟨w.heap.size, 1, none⟩ = some (.int .i64 R) := HX4.out.cell 1
      have y2 : w4.cell? ⟨w.heap.size, 2, none⟩ = some (.int .i64 V) := HX4.out.cell 2
      obtain ⟨x1, hx1⟩ : ∃ x, Cs.tab l u v = x := ⟨_, rfl⟩
      obtain ⟨x2, hx2⟩ : ∃ x, Cs.tab l v u = x := ⟨_, rfl⟩
      rw [hx1] at HF1 q2
      rw [hx2] at HF1 q4
      clear hb4 ht hx1 hx2
      go_wp2
      refine region_tail 11 (by kernel_rfl) (by kernel_rfl) ?_
      simp only [List.take_succ_cons, List.take_zero, List.drop_succ_cons, List.drop_zero]
      repeat still_step
      refine wpStill_nil ?_
      go_wp2
      refine region_tail 11 (by kernel_rfl) (by kernel_rfl) ?_
      simp only [List.take_succ_cons, List.take_zero, List.drop_succ_cons, List.drop_zero]
      repeat still_step
      refine wpStill_nil ?_
      have HBD := Lib.hid HB4.out.drew.drew
      by_cases r0 : R = 0
      · have HF : Hid (impR l (U, R, V) = decide (0 ≤ x1)) := HF1.out.trans (if_pos r0)
        have b0 : (R == 0) = true := by simpa using r0
        clear HF1 r0
        go_wp2
        go_ret
        exact ⟨by rw [HF.out]; rfl, HBD.out⟩
      · by_cases r1 : R = 1
        · have HF : Hid (impR l (U, R, V) = decide (1 ≤ x1)) := HF1.out.trans ((if_neg r0).trans (if_pos r1))
          have b0 : (R == 0) = false := by simpa using r0
          have b1 : (R == 1) = true := by simpa using r1
          clear HF1 r0 r1
          go_wp2
          go_ret
          exact ⟨by rw [HF.out]; rfl, HBD.out⟩
        · have HF := Lib.hid (HF1.out.trans ((if_neg r0).trans (if_neg r1)))
          have b0 : (R == 0) = false := by simpa using r0
          have b1 : (R == 1) = false := by simpa using r1
          clear HF1 r0 r1
          by_cases e1 : 0 ≤ x1
          · go_wp2
            go_ret
            exact ⟨by rw [HF.out, decide_eq_true e1, Bool.true_and]; rfl, HBD.out⟩
          · go_wp2
            go_ret
            exact ⟨by rw [HF.out, decide_eq_false (show ¬ 0 ≤ x1 by omega), Bool.false_and]; rfl, HBD.out⟩
end Go.Proofs.Ytmmhcpigcdlnmaa
