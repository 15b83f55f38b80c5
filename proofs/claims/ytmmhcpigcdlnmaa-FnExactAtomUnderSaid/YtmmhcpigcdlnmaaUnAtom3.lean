/- AtomUnder of the program. -/
import Derived.Test.YtmmhcpigcdlnmaaUnAtom
import Derived.Test.YtmmhcpigcdlnmaaROk
import Derived.Test.YtmmhcpigcdlnmaaRsMath

namespace Go.Proofs.Ytmmhcpigcdlnmaa
open Go.RowKit
open Cs (Cn Tb)

/-- the answer of AtomUnder -/
noncomputable def atmR (l : List Cn) (s : Int) (x : Int × Int) (n : List (Int × Int)) : Bool := sgnB l s && (Nm.residOk s [x] && (Nm.residOk s n && Un.atB (Cs.tab (Un.sgL l s)) x n))
theorem atmR_sgn {l : List Cn} {s : Int} {x : Int × Int} {n : List (Int × Int)} (h : sgnB l s = false) : atmR l s x n = false := by unfold atmR; rw [h, Bool.false_and]
theorem atmR_x {l : List Cn} {s : Int} {x : Int × Int} {n : List (Int × Int)} (h : Nm.residOk s [x] = false) : atmR l s x n = false := by unfold atmR; rw [h, Bool.false_and, Bool.and_false]
theorem atmR_n {l : List Cn} {s : Int} {x : Int × Int} {n : List (Int × Int)} (h : Nm.residOk s n = false) : atmR l s x n = false := by unfold atmR; rw [h, Bool.false_and, Bool.and_false, Bool.and_false]
theorem atmR_yes {l : List Cn} {s : Int} {x : Int × Int} {n : List (Int × Int)} (h : sgnB l s = true) (h1 : Nm.residOk s [x] = true) (h2 : Nm.residOk s n = true) : atmR l s x n = Un.atB (Cs.tab (Un.sgL l s)) x n := by
  unfold atmR
  rw [h, h1, h2, Bool.true_and, Bool.true_and, Bool.true_and]
theorem sgnB_flat {l : List Cn} {s : Int} (h : sgnB l s = true) : Cs.flat (Un.sgL l s) = true := by
  unfold sgnB at h
  rw [Bool.and_eq_true] at h
  exact h.2
theorem sgnB_cons {l : List Cn} {s : Int} (h : sgnB l s = true) : consOkR l = true := by
  unfold sgnB at h
  rw [Bool.and_eq_true, Bool.and_eq_true] at h
  exact h.1.1
theorem residOk_all {s : Int} {n : List (Int × Int)} (h : Nm.residOk s n = true) : Nm.AllOk n := ((Nm.residOk_iff s n).1 h).2.2.1
theorem residOk_one {s p x : Int} (h : Nm.residOk s [(p, x)] = true) : -1 ≤ p ∧ p < 5 := by
  have := (Nm.atOk_iff _).1 (residOk_all h 0 (Nat.lt_succ_self 0))
  exact ⟨this.1, this.2.1⟩
/-- a row of one atom -/
theorem tokR_one (w : World) (p x : Int) : TokR (w.alloc (.cells #[.int .i64 p, .int .i64 x] 57)) (w.heap.size + 1) (some ⟨w.heap.size, 0, none⟩) 1 [(p, x)] := by
  have hb : Blk (w.alloc (.cells #[.int .i64 p, .int .i64 x] 57)) w.heap.size 57 #[.int .i64 p, .int .i64 x] := Blk.made _ _ _
  refine ⟨rfl, fun _ => ⟨w.heap.size, 0, rfl, Nat.lt_succ_self _, fun k hk => ?_⟩⟩
  obtain rfl : k = 0 := by omega
  exact ⟨hb.cell 0, hb.cell 1⟩

set_option maxRecDepth 100000 in
set_option maxHeartbeats 1600000 in
theorem implAtomUnder_any (w : World) (B b off n c : Nat) (l : List Cn) (s p x : Int) (A2 : Option Addr) (n2 c2 : Nat) (m : List (Int × Int)) (hB : B ≤ w.heap.size) (hl : ConR w B (some ⟨b, off, none⟩) n l) (hn : (n : Int) ≤ 140737488355328)
    (hm : TokR w B A2 n2 m) (hn2 : (n2 : Int) ≤ 140737488355328) (hnc : n2 ≤ c2) :
    Calls Try.prog 47 #[.slice (some ⟨b, off, none⟩) n c, .int .i64 s, .agg #[.int .i64 p, .int .i64 x], .slice A2 n2 c2] w fun e w' => e = .returned (.bool (atmR l s (p, x) m)) ∧ Below w.heap.size w w' := by
  have hz := zeros_tab
  obtain ⟨W0, hW0⟩ : ∃ W, w.alloc (.cells #[.int .i64 p, .int .i64 x] 57) = W := ⟨_, rfl⟩
  have hs0 : W0.heap.size = w.heap.size + 1 := by rw [← hW0]; simp
  have HB0 : Hid (Below w.heap.size w W0) := by show Below _ _ _; rw [← hW0]; exact (Below.refl _ _).alloc (Nat.le_refl _) _
  have HK0 : Hid (Blk W0 w.heap.size 57 #[.int .i64 p, .int .i64 x]) := by show Blk _ _ _ _; rw [← hW0]; exact Blk.made _ _ _
  have HL := Lib.hid (hl.below (HB0.out.mono hB))
  have HM := Lib.hid (hm.below (HB0.out.mono hB))
  clear hl hm
  go_enter Try.func47, Try.ntmps47
  go_wp2_with fail
  refine (signedPaths_any W0 B b off n c l s (by omega) HL.out hn).mono ?_
  rintro e w1 ⟨rfl, hb1⟩
  clear hW0
  have HB1 := Lib.hid (HB0.out.trans (hb1.mono HB0.out.size))
  have HK1 := Lib.hid (Blk.below HK0.out hb1 HK0.out.lt)
  have HM1 := Lib.hid (HM.out.below (hb1.mono (by omega)))
  have hs1 := hb1.size
  clear hb1
  obtain ⟨T, hT⟩ : ∃ T, sgnT l s = T := ⟨_, rfl⟩
  rw [hT]
  have HT := Lib.hid hT
  clear hT
  obtain ⟨W1, hW1⟩ : ∃ W, w1.alloc (.cells (tabA zeroT) 70) = W := ⟨_, rfl⟩
  have k1 : Blk W1 w1.heap.size 70 (tabA zeroT) := by rw [← hW1]; exact Blk.made _ _ _
  obtain ⟨S, hS⟩ : ∃ S, w1.heap.size = S := ⟨_, rfl⟩
  rw [hS] at k1
  obtain ⟨W2, hW2⟩ : ∃ W, W1.setRow S (tabA T) = W := ⟨_, rfl⟩
  have HC2 : Hid (Blk W2 S 70 (tabA T)) := by show Blk _ _ _ _; rw [← hW2]; exact BlkT.lay k1 T
  have hbl : Below w1.heap.size w1 W2 := by
    have q1 : Below w1.heap.size w1 W1 := by rw [← hW1]; exact (Below.refl _ _).alloc (Nat.le_refl _) _
    rw [← hW2]
    exact (Wrote.row _ _ _).below q1 (by have := q1.size; omega) (by omega)
  have HB2 := Lib.hid (HB1.out.trans (hbl.mono (by omega)))
  have HK2 := Lib.hid (Blk.below HK1.out hbl HK1.out.lt)
  have HM2 := Lib.hid (HM1.out.below (hbl.mono (by omega)))
  clear hbl
  cases h1 : sgnB l s with
  | false =>
    have HF := Lib.hid (atmR_sgn (x := (p, x)) (n := m) h1)
    clear h1
    go_wp2_with (refine wpList_store_row rfl 70 _ _ rfl S (tabA T) rfl rfl 70 (tabA zeroT) k1 (size_tab T) rfl (tabA_one T) ?_)
    go_ret
    exact ⟨by rw [HF.out]; rfl, HB2.out⟩
  | true =>
    have H1 := Lib.hid h1
    clear h1
    have z0 : W2.cell? ⟨w.heap.size, 0, none⟩ = some (.int .i64 p) := HK2.out.cell 0
    have z1 : W2.cell? ⟨w.heap.size, 1, none⟩ = some (.int .i64 x) := HK2.out.cell 1
    obtain ⟨W3, hW3⟩ : ∃ W, W2.alloc (.cells #[.int .i64 p, .int .i64 x] 57) = W := ⟨_, rfl⟩
    go_wp2_with (refine wpList_store_row rfl 70 _ _ rfl S (tabA T) rfl rfl 70 (tabA zeroT) k1 (size_tab T) rfl (tabA_one T) ?_)
    have hb3 : Below W2.heap.size W2 W3 := by rw [← hW3]; exact (Below.refl _ _).alloc (Nat.le_refl _) _
    have hs3 : W3.heap.size = W2.heap.size + 1 := by rw [← hW3]; simp
    have HO3 : Hid (TokR W3 (W2.heap.size + 1) (some ⟨W2.heap.size, 0, none⟩) 1 [(p, x)]) := by show TokR _ _ _ _ _; rw [← hW3]; exact tokR_one W2 p x
    have HB3 := Lib.hid (HB2.out.trans (hb3.mono HB2.out.size))
    have HK3 := Lib.hid (Blk.below HK2.out hb3 HK2.out.lt)
    have HC3 := Lib.hid (Blk.below HC2.out hb3 HC2.out.lt)
    have HM3 := Lib.hid (HM2.out.below (hb3.mono (by have := HB2.out.size; omega)))
    clear hb3 z0 z1 hW3
    refine (implResidOk_any W3 (W2.heap.size + 1) (some ⟨W2.heap.size, 0, none⟩) 1 1 [(p, x)] s (by omega) HO3.out (by omega) (Nat.le_refl _)).mono ?_
    rintro e w4 ⟨rfl, hb4⟩
    have HB4 := Lib.hid (HB3.out.trans (hb4.mono HB3.out.size))
    have HK4 := Lib.hid (Blk.below HK3.out hb4 HK3.out.lt)
    have HC4 := Lib.hid (Blk.below HC3.out hb4 HC3.out.lt)
    have HM4 := Lib.hid (HM3.out.below (hb4.mono (by have := HB3.out.size; omega)))
    clear hb4 k1 hW2 hW1
    cases h2 : Nm.residOk s [(p, x)] with
    | false =>
      have HF := Lib.hid (atmR_x (l := l) (n := m) h2)
      clear h2
      go_wp2
      go_ret
      exact ⟨by rw [HF.out]; rfl, HB4.out⟩
    | true =>
      have H2 := Lib.hid h2
      have HPB := Lib.hid (residOk_one h2)
      clear h2
      go_wp2_with fail
      refine (implResidOk_any w4 B A2 n2 c2 m s (by have := HB4.out.size; omega) HM4.out hn2 hnc).mono ?_
      rintro e w5 ⟨rfl, hb5⟩
      have HB5 := Lib.hid (HB4.out.trans (hb5.mono HB4.out.size))
      have HK5 := Lib.hid (Blk.below HK4.out hb5 HK4.out.lt)
      have HC5 := Lib.hid (Blk.below HC4.out hb5 HC4.out.lt)
      have HM5 := Lib.hid (HM4.out.below (hb5.mono (by have := HB4.out.size; omega)))
      clear hb5
      cases h3 : Nm.residOk s m with
      | false =>
        have HF := Lib.hid (atmR_n (l := l) (x := (p, x)) h3)
        clear h3
        go_wp2
        go_ret
        exact ⟨by rw [HF.out]; rfl, HB5.out⟩
      | true =>
        have HF := Lib.hid (atmR_yes H1.out H2.out h3)
        have HOM := Lib.hid (residOk_all h3)
        have HTT : Hid (T = Cs.tab (Un.sgL l s)) := by show _ = _; rw [← HT.out, sgnT_yes H1.out]
        have HTB : Hid (∀ i j, -1 ≤ T i j ∧ T i j ≤ 1000) := by
          show ∀ i j, _
          rw [HTT.out]
          exact fun i j => ⟨(Cs.tab_bd (sgnB_flat H1.out) i j).1, Int.le_trans (Cs.tab_bd (sgnB_flat H1.out) i j).2 (by decide)⟩
        clear h3
        have z0 : w5.cell? ⟨w.heap.size, 0, none⟩ = some (.int .i64 p) := HK5.out.cell 0
        have z1 : w5.cell? ⟨w.heap.size, 1, none⟩ = some (.int .i64 x) := HK5.out.cell 1
        have c5 : Blk w5 S 70 (tabA T) := HC5.out
        go_wp2_with (refine wpList_load_row_g rfl 70 _ rfl S rfl 70 (tabA T) (0, 0) _ c5 Try.underlying70 rfl (size_tab T) ?_)
        refine (atomLe_any w5 B T p x A2 n2 c2 m (by have := HB5.out.size; omega) HM5.out hn2 HOM.out HPB.out.1 HPB.out.2 HTB.out).mono ?_
        rintro e w6 ⟨rfl, hb6⟩
        have HB6 := Lib.hid (HB5.out.trans (hb6.mono HB5.out.size))
        rw [← HTT.out] at HF
        obtain ⟨R, hR⟩ : ∃ R, Un.atB T (p, x) m = R := ⟨_, rfl⟩
        rw [hR] at HF ⊢
        clear hb6 hR c5 z0 z1
        go_wp2
        go_ret
        exact ⟨by rw [HF.out]; rfl, HB6.out⟩
end Go.Proofs.Ytmmhcpigcdlnmaa
