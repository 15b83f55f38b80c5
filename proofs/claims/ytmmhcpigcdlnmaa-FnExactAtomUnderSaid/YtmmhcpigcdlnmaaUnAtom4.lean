/- AtomUnder of the reference model. -/
import Derived.Test.YtmmhcpigcdlnmaaUnAtom2
import Derived.Test.YtmmhcpigcdlnmaaUnAtom3

namespace Go.Proofs.Ytmmhcpigcdlnmaa
open Go.RowKit
open Cs (Cn Tb)

theorem signO_some (l : List Cn) (s : Int) : (signO l s).isSome = sgnB l s := by
  unfold signO
  cases h : sgnB l s
  · rfl
  · rfl

set_option maxRecDepth 100000 in
set_option maxHeartbeats 1600000 in
theorem specAtomUnder_any (w : World) (B b off n c : Nat) (l : List Cn) (s p x : Int) (A2 : Option Addr) (n2 c2 : Nat) (m : List (Int × Int)) (hB : B ≤ w.heap.size) (hl : ConR w B (some ⟨b, off, none⟩) n l) (hn : (n : Int) ≤ 140737488355328)
    (hm : TokR w B A2 n2 m) (hn2 : (n2 : Int) ≤ 140737488355328) :
    Calls Try.prog 44 #[.slice (some ⟨b, off, none⟩) n c, .int .i64 s, .agg #[.int .i64 p, .int .i64 x], .slice A2 n2 c2] w fun e w' => e = .returned (.bool (atmR l s (p, x) m)) ∧ Below w.heap.size w w' := by
  obtain ⟨W0, hW0⟩ : ∃ W, w.alloc (.cells #[.int .i64 p, .int .i64 x] 57) = W := ⟨_, rfl⟩
  have hs0 : W0.heap.size = w.heap.size + 1 := by rw [← hW0]; simp
  have HB0 : Hid (Below w.heap.size w W0) := by show Below _ _ _; rw [← hW0]; exact (Below.refl _ _).alloc (Nat.le_refl _) _
  have HK0 : Hid (Blk W0 w.heap.size 57 #[.int .i64 p, .int .i64 x]) := by show Blk _ _ _ _; rw [← hW0]; exact Blk.made _ _ _
  have HL := Lib.hid (hl.below (HB0.out.mono hB))
  have HM := Lib.hid (hm.below (HB0.out.mono hB))
  clear hl hm
  go_enter Try.func44, Try.ntmps44
  go_wp2_with fail
  refine (specSignEnv_any W0 B b off n c l s (by omega) HL.out hn).mono ?_
  rintro e w1 hres
  clear hW0
  obtain ⟨hb1, hv⟩ : Below W0.heap.size W0 w1 ∧ ∃ v, e = .returned (.tuple #[v, .bool (sgnB l s)]) := by
    obtain ⟨A, c0, he, _, hb⟩ := hres
    rw [signO_some] at he
    exact ⟨hb, _, he⟩
  obtain ⟨v0, rfl⟩ := hv
  clear hres
  have HB1 := Lib.hid (HB0.out.trans (hb1.mono HB0.out.size))
  have HK1 := Lib.hid (Blk.below HK0.out hb1 HK0.out.lt)
  have HM1 := Lib.hid (HM.out.below (hb1.mono (by omega)))
  have HL1 := Lib.hid (HL.out.below (hb1.mono (by omega)))
  have hs1 := hb1.size
  clear hb1
  cases h1 : sgnB l s with
  | false =>
    have HF := Lib.hid (atmR_sgn (x := (p, x)) (n := m) h1)
    clear h1
    go_wp2
    go_ret
    exact ⟨by rw [HF.out]; rfl, HB1.out⟩
  | true =>
    have H1 := Lib.hid h1
    clear h1
    have z0 : w1.cell? ⟨w.heap.size, 0, none⟩ = some (.int .i64 p) := HK1.out.cell 0
    have z1 : w1.cell? ⟨w.heap.size, 1, none⟩ = some (.int .i64 x) := HK1.out.cell 1
    obtain ⟨W3, hW3⟩ : ∃ W, w1.alloc (.cells #[.int .i64 p, .int .i64 x] 57) = W := ⟨_, rfl⟩
    have hb3 : Below w1.heap.size w1 W3 := by rw [← hW3]; exact (Below.refl _ _).alloc (Nat.le_refl _) _
    have hs3 : W3.heap.size = w1.heap.size + 1 := by rw [← hW3]; simp
    have HO3 : Hid (TokR W3 (w1.heap.size + 1) (some ⟨w1.heap.size, 0, none⟩) 1 [(p, x)]) := by show TokR _ _ _ _ _; rw [← hW3]; exact tokR_one w1 p x
    have HB3 := Lib.hid (HB1.out.trans (hb3.mono HB1.out.size))
    have HK3 := Lib.hid (Blk.below HK1.out hb3 HK1.out.lt)
    have HM3 := Lib.hid (HM1.out.below (hb3.mono (by omega)))
    have HL3 := Lib.hid (HL1.out.below (hb3.mono (by omega)))
    clear hb3
    go_wp2_with fail
    clear z0 z1 hW3
    refine (specResidOk_any W3 (w1.heap.size + 1) (some ⟨w1.heap.size, 0, none⟩) 1 1 [(p, x)] s (by omega) HO3.out (by omega)).mono ?_
    rintro e w4 ⟨rfl, hb4⟩
    have HB4 := Lib.hid (HB3.out.trans (hb4.mono HB3.out.size))
    have HK4 := Lib.hid (Blk.below HK3.out hb4 HK3.out.lt)
    have HM4 := Lib.hid (HM3.out.below (hb4.mono (by omega)))
    have HL4 := Lib.hid (HL3.out.below (hb4.mono (by omega)))
    have hs4 := hb4.size
    clear hb4
    cases h2 : Nm.residOk s [(p, x)] with
    | false =>
      have HF := Lib.hid (atmR_x (l := l) (n := m) h2)
      clear h2
      go_wp2
      go_ret
      exact ⟨by rw [HF.out]; rfl, HB4.out⟩
    | true =>
      have H2 := Lib.hid h2
      have HPB := Lib.hid (residOk_one h2)
      clear h2
      go_wp2_with fail
      refine (specResidOk_any w4 B A2 n2 c2 m s (by omega) HM4.out hn2).mono ?_
      rintro e w5 ⟨rfl, hb5⟩
      have HB5 := Lib.hid (HB4.out.trans (hb5.mono HB4.out.size))
      have HK5 := Lib.hid (Blk.below HK4.out hb5 HK4.out.lt)
      have HM5 := Lib.hid (HM4.out.below (hb5.mono (by omega)))
      have HL5 := Lib.hid (HL4.out.below (hb5.mono (by omega)))
      have hs5 := hb5.size
      clear hb5
      cases h3 : Nm.residOk s m with
      | false =>
        have HF := Lib.hid (atmR_n (l := l) (x := (p, x)) h3)
        clear h3
        go_wp2
        go_ret
        exact ⟨by rw [HF.out]; rfl, HB5.out⟩
      | true =>
        have HF := Lib.hid (atmR_yes H1.out H2.out h3)
        have HOM := Lib.hid (residOk_all h3)
        have HFL := Lib.hid (sgnB_flat H1.out)
        have HTB : Hid (∀ i j, -1 ≤ Cs.tab (Un.sgL l s) i j ∧ Cs.tab (Un.sgL l s) i j ≤ 1000) :=
          fun i j => ⟨(Cs.tab_bd HFL.out i j).1, Int.le_trans (Cs.tab_bd HFL.out i j).2 (by decide)⟩
        have HC0 : Hid (consOkR l = true) := sgnB_cons H1.out
        have HP := Lib.hid (consOk_parts HC0.out)
        have hn24 : n ≤ 24 := by have h := (consOkR_ok HC0.out).2; rw [HL.out.1] at h; exact h
        clear h3
        go_wp2_with fail
        refine (l05Signed_any w5 B b off n c l s (by omega) HL5.out (by omega)).mono ?_
        rintro e w6 ⟨g6, c6, rfl, ho6, hb6⟩
        have HB6 := Lib.hid (HB5.out.trans (hb6.mono HB5.out.size))
        have HK6 := Lib.hid (Blk.below HK5.out hb6 HK5.out.lt)
        have HM6 := Lib.hid (HM5.out.below (hb6.mono (by omega)))
        have HR6 := Lib.hid (OwnC.reads ho6)
        have hs6 := hb6.size
        clear ho6 hb6
        go_wp2_with fail
        refine (l05Paths_any w6 w6.heap.size (some ⟨g6, 0, none⟩) (n + 5) c6 (Un.sgL l s) (Nat.le_refl _) HR6.out (Cs.signed_ok HP.out.1 _) (by omega)).mono ?_
        rintro e w7 ⟨hb7, ⟨hf, g, cap, rw', cp, rfl, ht⟩ | ⟨hf, rfl⟩⟩
        · have HB7 := Lib.hid (HB6.out.trans (hb7.mono HB6.out.size))
          have HK7 := Lib.hid (Blk.below HK6.out hb7 HK6.out.lt)
          have HM7 := Lib.hid (HM6.out.below (hb7.mono (by omega)))
          have HT7 := Lib.hid ht
          have hs7 := hb7.size
          clear hb7 ht hf
          have z0 : w7.cell? ⟨w.heap.size, 0, none⟩ = some (.int .i64 p) := HK7.out.cell 0
          have z1 : w7.cell? ⟨w.heap.size, 1, none⟩ = some (.int .i64 x) := HK7.out.cell 1
          obtain ⟨T, hT⟩ : ∃ T, Cs.tab (Un.sgL l s) = T := ⟨_, rfl⟩
          rw [hT] at HT7 HF HTB
          clear hT
          go_wp2_with fail
          refine (l06Atom_any w7 B w6.heap.size g cap rw' cp T p x A2 n2 c2 m (by omega) HT7.out HM7.out hn2 HOM.out HPB.out.1 HPB.out.2 HTB.out).mono ?_
          rintro e w8 ⟨rfl, hb8⟩
          have HB8 := Lib.hid (HB7.out.trans (hb8.mono HB7.out.size))
          obtain ⟨R, hR⟩ : ∃ R, Un.atB T (p, x) m = R := ⟨_, rfl⟩
          rw [hR] at HF ⊢
          clear hb8 hR z0 z1
          go_wp2
          go_ret
          exact ⟨by rw [HF.out]; rfl, HB8.out⟩
        · exact absurd (hf.symm.trans HFL.out) (by decide)
end Go.Proofs.Ytmmhcpigcdlnmaa
