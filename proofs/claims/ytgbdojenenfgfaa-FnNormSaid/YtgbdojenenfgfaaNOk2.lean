/- NormOk of the program. -/
import Derived.Test.YtgbdojenenfgfaaNOk1
namespace Go.Proofs.Ytgbdojenenfgfaa
open Go.RowKit

theorem TokR.tail {w : World} {B b off n : Nat} {l : List (Int × Int)} (h : TokR w B (some ⟨b, off, none⟩) n l) (hn : 1 ≤ n) : TokR w B (some ⟨b, off + 2, none⟩) (n - 1) (l.drop 1) := by
  refine ⟨by rw [List.length_drop, h.1], fun h0 => ?_⟩
  obtain ⟨b', off', e, hb, hc⟩ := h.2 (by omega)
  injection e with e
  injection e with e1 e2
  subst e1; subst e2
  refine ⟨b, off + 2, rfl, hb, fun k hk => ?_⟩
  have := hc (k + 1) (by omega)
  rw [Nm.getD_drop1, show off + 2 + k * 2 = off + (k + 1) * 2 by omega]
  exact this

/-- 'n[1:]' of a slice of atoms that is not empty -/
theorem run_tail (b off n c : Nat) (h1 : 1 ≤ n) (hnc : n ≤ c) : ∃ A', (∀ wx : World, (Instr.slice 24 (.slice (some ⟨b, off, none⟩) n c) (some (.int .i64 1)) none none).run Try.prog wx = .ok (.slice A' (n - 1) (c - 1)) wx) ∧
    ∀ (w : World) (B : Nat) (l : List (Int × Int)), TokR w B (some ⟨b, off, none⟩) n l → TokR w B A' (n - 1) (l.drop 1) := by
  by_cases e : c = 1
  · refine ⟨some ⟨b, off, none⟩, fun wx => ?_, fun w B l h => ?_⟩
    · have hr := run_slice_l (P := Try.prog) (w := wx) 24 (some ⟨b, off, none⟩) n c Try.underlying24 .i64 1 (by omega) (by omega)
      have hs : (sizeOf (Try.prog.elem 24)).run Try.prog wx = .ok 2 wx := by kernel_rfl
      rw [hs] at hr
      simpa [Result.andThen, sliced, e] using hr
    · exact ⟨by rw [List.length_drop, h.1], fun h0 => absurd h0 (by omega)⟩
  · refine ⟨some ⟨b, off + 2, none⟩, fun wx => ?_, fun w B l h => h.tail h1⟩
    have hr := run_slice_l (P := Try.prog) (w := wx) 24 (some ⟨b, off, none⟩) n c Try.underlying24 .i64 1 (by omega) (by omega)
    have hs : (sizeOf (Try.prog.elem 24)).run Try.prog wx = .ok 2 wx := by kernel_rfl
    rw [hs] at hr
    simpa [Result.andThen, sliced, e, Addr.add] using hr

set_option maxHeartbeats 800000 in
theorem implNormOk_any (w : World) (B : Nat) (A : Option Addr) (n c : Nat) (l : List (Int × Int)) (hB : B ≤ w.heap.size) (hl : TokR w B A n l) (hn : (n : Int) ≤ 140737488355328) (hnc : n ≤ c) :
    Calls Try.prog 22 #[.slice A n c] w fun e w' => e = .returned (.bool (Nm.normOk l)) ∧ Below w.heap.size w w' := by
  by_cases h0 : n = 0
  · subst h0
    have HF : Hid (Nm.normOk l = false) := Nm.normOk_no (fun h => by have h1 := h.1; rw [hl.1] at h1; omega)
    clear hl
    go_enter Try.func22, Try.ntmps22
    go_wp2
    go_ret
    exact ⟨by rw [HF.out]; rfl, Below.refl _ _⟩
  · have h1 : 1 ≤ n := by omega
    have d0 : ((n : Int) == 0) = false := by simp; omega
    cases hall : Nm.allOk l with
    | false =>
      have HF : Hid (Nm.normOk l = false) := Nm.normOk_no (fun h => by rw [(Nm.allOk_iff l).2 h.2.1] at hall; cases hall)
      have HA := Lib.hid hall
      clear hall
      go_enter Try.func22, Try.ntmps22
      go_wp2_with fail
      refine (atomsOk_any w B A n c l hB hl hn).mono ?_
      rintro e w1 ⟨rfl, hb1⟩
      rw [HA.out]
      go_wp2
      go_ret
      exact ⟨by rw [HF.out]; rfl, hb1⟩
    | true =>
      have HA := Lib.hid hall
      have HP := Lib.hid ((Nm.allOk_iff l).1 hall)
      clear hall
      cases hinc : Nm.incr l with
      | false =>
        have HF : Hid (Nm.normOk l = false) := Nm.normOk_no (fun h => by rw [(Nm.incr_iff l).2 h.2.2.1] at hinc; cases hinc)
        have HI := Lib.hid hinc
        clear hinc
        go_enter Try.func22, Try.ntmps22
        go_wp2_with fail
        refine (atomsOk_any w B A n c l hB hl hn).mono ?_
        rintro e w1 ⟨rfl, hb1⟩
        rw [HA.out]
        go_wp2_with fail
        refine (paramsIncrease_any w1 B A n c l (Nat.le_trans hB hb1.size) (hl.below (hb1.mono hB)) hn h1).mono ?_
        rintro e w2 ⟨rfl, hb2⟩
        rw [HI.out]
        have HB := Lib.hid (hb1.trans (hb2.mono hb1.size))
        go_wp2
        go_ret
        exact ⟨by rw [HF.out]; rfl, HB.out⟩
      | true =>
        have HI := Lib.hid hinc
        have HQ := Lib.hid ((Nm.incr_iff l).1 hinc)
        clear hinc
        obtain ⟨b, off, rfl, hb, hc⟩ := hl.2 (by omega)
        obtain ⟨t, ht⟩ : ∃ t, l.getD 0 (0, 0) = t := ⟨_, rfl⟩
        have c0 := hc 0 (by omega)
        rw [ht] at c0
        obtain ⟨p, x⟩ := t
        have HT := Lib.hid ht
        have HL := Lib.hid hl.1
        simp only [Nat.zero_mul, Nat.add_zero] at c0
        obtain ⟨c1, c2⟩ := c0
        clear ht hc
        go_enter Try.func22, Try.ntmps22
        go_wp2_with fail
        refine (atomsOk_any w B _ n c l hB hl hn).mono ?_
        rintro e w1 ⟨rfl, hb1⟩
        rw [HA.out]
        go_wp2_with fail
        refine (paramsIncrease_any w1 B _ n c l (Nat.le_trans hB hb1.size) (hl.below (hb1.mono hB)) hn h1).mono ?_
        rintro e w2 ⟨rfl, hb2⟩
        rw [HI.out]
        have hbel := hb1.trans (hb2.mono hb1.size)
        have k1 := (hbel.cell (p := ⟨b, off, none⟩) (by show b < _; omega)).trans c1
        have k2 := (hbel.cell (p := ⟨b, off + 1, none⟩) (by show b < _; omega)).trans c2
        obtain ⟨A', hsl, hA'⟩ := run_tail b off n c h1 hnc
        have HR := Lib.hid (hA' _ _ _ (hl.below (hbel.mono hB)))
        have HB := Lib.hid hbel
        have hsz := Nat.le_trans hB hbel.size
        clear hb1 hb2 c1 c2 hl hbel hA'
        have hi0 : 0 < n := by omega
        by_cases ep : p = -1
        · subst ep
          have hn1 : (n - 1 : Nat) ≤ 140737488355328 := by omega
          go_wp2_with fail
          refine region_tail 12 (by kernel_rfl) (by kernel_rfl) ?_
          simp only [List.take_succ_cons, List.take_zero, List.drop_succ_cons, List.drop_zero]
          repeat still_step
          refine wpStill_nil ?_
          go_wp2_with fail
          refine (numberExceeds_any w2.drew B x _ (n - 1) (c - 1) (l.drop 1) hsz HR.out (by omega)).mono ?_
          rintro e w3 ⟨rfl, hb3⟩
          have HB3 := Lib.hid (HB.out.drew.trans (hb3.mono HB.out.size))
          have HF : Hid (Nm.normOk l = Nm.exceeds x (l.drop 1)) := by
            show _ = _
            rw [Bool.eq_iff_iff, Nm.normOk_iff, Nm.exceeds_iff]
            constructor
            · intro h
              have := h.2.2.2 (by rw [HT.out])
              rw [HT.out] at this
              exact this
            · intro h
              exact ⟨by rw [HL.out]; exact h1, HP.out, HQ.out, fun _ => by rw [HT.out]; exact h⟩
          go_wp2
          go_ret
          exact ⟨by rw [HF.out, List.drop_one]; rfl, HB3.out⟩
        · have HF : Hid (Nm.normOk l = true) := (Nm.normOk_iff l).2 ⟨by rw [HL.out]; exact h1, HP.out, HQ.out, fun h => absurd (by rw [HT.out] at h; exact h) ep⟩
          have HBD := Lib.hid HB.out.drew
          have dp : (p != -1) = true := by simpa using ep
          clear ep
          go_wp2_with fail
          refine region_tail 12 (by kernel_rfl) (by kernel_rfl) ?_
          simp only [List.take_succ_cons, List.take_zero, List.drop_succ_cons, List.drop_zero]
          repeat still_step
          refine wpStill_nil ?_
          go_wp2
          go_ret
          exact ⟨by rw [HF.out]; rfl, HBD.out⟩
end Go.Proofs.Ytgbdojenenfgfaa
