/- ResidOk of the program. -/
import Derived.Test.YtmmhcpigcdlnmaaNOk2
import Derived.Test.YtmmhcpigcdlnmaaSgHas
import Derived.Test.YtmmhcpigcdlnmaaRsMath

namespace Go.Proofs.Ytmmhcpigcdlnmaa
open Go.RowKit

set_option maxRecDepth 100000 in
set_option maxHeartbeats 800000 in
theorem numberIsNeeded_any (w : World) (B : Nat) (b off n c : Nat) (l : List (Int × Int)) (hB : B ≤ w.heap.size) (hl : TokR w B (some ⟨b, off, none⟩) n l) (hn : (n : Int) ≤ 140737488355328) (h1 : 1 ≤ n) (hnc : n ≤ c) (hok : Nm.AllOk l) :
    Calls Try.prog 100 #[.slice (some ⟨b, off, none⟩) n c] w fun e w' => e = .returned (.bool (Nm.exceeds ((l.getD 0 (0, 0)).2 - 1) (l.drop 1))) ∧ Below w.heap.size w w' := by
  obtain ⟨b', off', e, hb, hc⟩ := hl.2 (by omega)
  injection e with e
  injection e with e1 e2
  subst e1; subst e2
  obtain ⟨c1, c2⟩ := hc 0 (by omega)
  have h2 := (Nm.atOk_iff _).1 (hok 0 (by have := hl.1; omega))
  obtain ⟨x, hx⟩ : ∃ x, (l.getD 0 (0, 0)).2 = x := ⟨_, rfl⟩
  rw [hx] at c2 h2 ⊢
  obtain ⟨_, _, h3, h4⟩ := h2
  rw [Nat.zero_mul, Nat.add_zero] at c2
  obtain ⟨A', hsl, hA'⟩ := run_tail b off n c h1 hnc
  have HR := Lib.hid (hA' _ _ _ hl)
  have HNE := numberExceeds_any w.drew B (x - 1) A' (n - 1) (c - 1) (l.drop 1) hB HR.out (by omega)
  have HN := Lib.hid HNE
  have hi0 : 0 < n := by omega
  clear hc c1 hl hA' hx hok HNE
  go_enter Try.func100, Try.ntmps100
  go_wp2_with fail
  refine region_tail 7 (by kernel_rfl) (by kernel_rfl) ?_
  simp only [List.take_succ_cons, List.take_zero, List.drop_succ_cons, List.drop_zero]
  repeat still_step
  refine wpStill_nil ?_
  go_wp2_with fail
  refine (HN.out).mono ?_
  rintro e w3 ⟨rfl, hb3⟩
  have HB3 := Lib.hid ((Below.refl w.heap.size w).drew.trans hb3)
  go_wp2
  go_ret
  exact ⟨by rw [List.drop_one]; rfl, HB3.out⟩

set_option maxRecDepth 100000 in
set_option maxHeartbeats 1600000 in
theorem implResidOk_any (w : World) (B : Nat) (A : Option Addr) (n c : Nat) (l : List (Int × Int)) (s : Int) (hB : B ≤ w.heap.size) (hl : TokR w B A n l) (hn : (n : Int) ≤ 140737488355328) (hnc : n ≤ c) :
    Calls Try.prog 82 #[.slice A n c, .int .i64 s] w fun e w' => e = .returned (.bool (Nm.residOk s l)) ∧ Below w.heap.size w w' := by
  cases hs : Sg.isSign s with
  | false =>
    have HF : Hid (Nm.residOk s l = false) := Nm.residOk_no (fun h => by rw [h.1] at hs; cases hs)
    clear hl
    go_enter Try.func82, Try.ntmps82
    go_wp2_with fail
    refine (signOk_any w s).mono ?_
    rintro e w' ⟨rfl, rfl⟩
    rw [hs]
    go_wp2
    go_ret
    exact ⟨by rw [HF.out]; rfl, Below.refl _ _⟩
  | true =>
  by_cases h0 : n = 0
  · subst h0
    have HF : Hid (Nm.residOk s l = false) := Nm.residOk_no (fun h => by have h1 := h.2.1; rw [hl.1] at h1; omega)
    clear hl
    go_enter Try.func82, Try.ntmps82
    go_wp2_with fail
    refine (signOk_any w s).mono ?_
    rintro e w' ⟨rfl, rfl⟩
    rw [hs]
    go_wp2
    go_ret
    exact ⟨by rw [HF.out]; rfl, Below.refl _ _⟩
  · have h1 : 1 ≤ n := by omega
    have d0 : ((n : Int) == 0) = false := by simp; omega
    cases hall : Nm.allOk l with
    | false =>
      have HF : Hid (Nm.residOk s l = false) := Nm.residOk_no (fun h => by rw [(Nm.allOk_iff l).2 h.2.2.1] at hall; cases hall)
      have HA := Lib.hid hall
      clear hall
      go_enter Try.func82, Try.ntmps82
      go_wp2_with fail
      refine (signOk_any w s).mono ?_
      rintro e w' ⟨rfl, rfl⟩
      rw [hs]
      go_wp2_with fail
      refine (atomsOk_any _ B A n c l hB hl hn).mono ?_
      rintro e w1 ⟨rfl, hb1⟩
      rw [HA.out]
      go_wp2
      go_ret
      exact ⟨by rw [HF.out]; rfl, hb1⟩
    | true =>
      have HA := Lib.hid hall
      have HP := Lib.hid ((Nm.allOk_iff l).1 hall)
      clear hall
      cases hinc : Nm.incr l with
      | false =>
        have HF : Hid (Nm.residOk s l = false) := Nm.residOk_no (fun h => by rw [(Nm.incr_iff l).2 h.2.2.2.1] at hinc; cases hinc)
        have HI := Lib.hid hinc
        clear hinc
        go_enter Try.func82, Try.ntmps82
        go_wp2_with fail
        refine (signOk_any w s).mono ?_
        rintro e w' ⟨rfl, rfl⟩
        rw [hs]
        go_wp2_with fail
        refine (atomsOk_any _ B A n c l hB hl hn).mono ?_
        rintro e w1 ⟨rfl, hb1⟩
        rw [HA.out]
        go_wp2_with fail
        refine (paramsIncrease_any w1 B A n c l (Nat.le_trans hB hb1.size) (hl.below (hb1.mono hB)) hn h1).mono ?_
        rintro e w2 ⟨rfl, hb2⟩
        rw [HI.out]
        have HB := Lib.hid (hb1.trans (hb2.mono hb1.size))
        go_wp2
        go_ret
        exact ⟨by rw [HF.out]; rfl, HB.out⟩
      | true =>
        have HI := Lib.hid hinc
        have HQ := Lib.hid ((Nm.incr_iff l).1 hinc)
        have HS := Lib.hid hs
        clear hinc
        obtain ⟨b, off, rfl, hb, hc⟩ := hl.2 (by omega)
        have HC := Lib.hid hc
        have HL := Lib.hid hl.1
        have HR := Lib.hid hl
        clear hc
        go_enter Try.func82, Try.ntmps82
        go_wp2_with fail
        refine (signOk_any w s).mono ?_
        rintro e w' ⟨rfl, rfl⟩
        rw [hs]
        clear hs
        go_wp2_with fail
        refine (atomsOk_any _ B _ n c l hB hl hn).mono ?_
        rintro e w1 ⟨rfl, hb1⟩
        rw [HA.out]
        go_wp2_with fail
        refine (paramsIncrease_any w1 B _ n c l (Nat.le_trans hB hb1.size) (hl.below (hb1.mono hB)) hn h1).mono ?_
        rintro e w2 ⟨rfl, hb2⟩
        rw [HI.out]
        have HBL := Lib.hid (hb1.trans (hb2.mono hb1.size))
        clear hl hb1 hb2
        go_wp2
        go_loopw [27] (fun i wr => ∃ k : Nat, k ≤ n ∧ i = .int .i64 k ∧ Hid (∀ j, j < k → (l.getD j (0, 0)).1 = -1 ∨ Sg.has s (l.getD j (0, 0)).1 = true) ∧ Below w'.heap.size w' wr) (fun i _ => n - (intOf i).toNat)
        case atStart => exact ⟨0, Nat.zero_le _, rfl, (fun j hj => absurd hj (by omega)), HBL.out⟩
        case round =>
          obtain ⟨k, hk, rfl, HX, hbel⟩ := hrel
          by_cases hlt : k < n
          · obtain ⟨c1, c2⟩ := HC.out k hlt
            obtain ⟨t, ht⟩ : ∃ t, l.getD k (0, 0) = t := ⟨_, rfl⟩
            rw [ht] at c1 c2
            obtain ⟨p, x⟩ := t
            have HT := Lib.hid ht
            have k1 := (hbel.cell (p := ⟨b, off + k * 2, none⟩) (by show b < _; omega)).trans c1
            have k2 := (hbel.cell (p := ⟨b, off + k * 2 + 1, none⟩) (by show b < _; omega)).trans c2
            have HBA := Lib.hid (hbel.alloc hbel.size (.cells #[.int .i64 p, .int .i64 x] 57))
            clear c1 c2 ht
            have HX2 : Hid (p = -1 ∨ Sg.has s p = true → ∀ j, j < k + 1 → (l.getD j (0, 0)).1 = -1 ∨ Sg.has s (l.getD j (0, 0)).1 = true) := by
              intro hp j hj
              by_cases e : j = k
              · subst e; rw [HT.out]; exact hp
              · exact HX.out j (by omega)
            by_cases ep : p = -1
            · subst ep
              go_wp2
              go_roundw
              case rel => exact ⟨k + 1, by omega, by go_num, HX2.out (.inl rfl), HBA.out⟩
              case measure => simp [intOf]; omega
            · have dp : (p != -1) = true := by simpa using ep
              have HEP := Lib.hid ep
              clear ep
              cases hh : Sg.has s p with
              | true =>
                have HX3 := Lib.hid (HX2.out (.inr hh))
                go_wp2_with fail
                refine (implSignHas_any _ s p).mono ?_
                rintro e w4 ⟨rfl, rfl⟩
                rw [hh]
                go_wp2
                go_roundw
                case rel => exact ⟨k + 1, by omega, by go_num, HX3.out, HBA.out⟩
                case measure => simp [intOf]; omega
              | false =>
                have HF : Hid (Nm.residOk s l = false) := Nm.residOk_no (fun h => by
                  have := h.2.2.2.2.1 k (by rw [HL.out]; exact hlt)
                  rw [HT.out] at this
                  rcases this with h | h
                  · exact HEP.out h
                  · rw [hh] at h; cases h)
                go_wp2_with fail
                refine (implSignHas_any _ s p).mono ?_
                rintro e w4 ⟨rfl, rfl⟩
                rw [hh]
                go_wp2
                go_ret
                exact ⟨by rw [HF.out]; rfl, HBA.out⟩
          · obtain rfl : k = n := by omega
            obtain ⟨t, ht⟩ : ∃ t, l.getD 0 (0, 0) = t := ⟨_, rfl⟩
            obtain ⟨c1, c2⟩ := HC.out 0 (by omega)
            rw [ht] at c1 c2
            obtain ⟨p, x⟩ := t
            have HT := Lib.hid ht
            rw [Nat.zero_mul, Nat.add_zero] at c1
            have k1 := (hbel.cell (p := ⟨b, off, none⟩) (by show b < _; omega)).trans c1
            clear c1 c2 ht
            have hi0 : 0 < k := by omega
            by_cases ep : p = -1
            · subst ep
              have HNN := Lib.hid (numberIsNeeded_any wr B b off k c l (Nat.le_trans hB hbel.size) (HR.out.below (hbel.mono hB)) hn h1 hnc HP.out)
              go_wp2_with fail
              refine HNN.out.mono ?_
              rintro e w3 ⟨rfl, hb3⟩
              have HB3 := Lib.hid (hbel.trans (hb3.mono hbel.size))
              have HF : Hid (Nm.residOk s l = Nm.exceeds ((l.getD 0 (0, 0)).2 - 1) (l.drop 1)) := by
                show _ = _
                rw [Bool.eq_iff_iff, Nm.residOk_iff, Nm.exceeds_iff]
                constructor
                · intro h
                  exact h.2.2.2.2.2 (by rw [HT.out])
                · intro h
                  exact ⟨HS.out, by rw [HL.out]; exact h1, HP.out, HQ.out, by rw [HL.out]; exact HX.out, fun _ => h⟩
              obtain ⟨r, hr⟩ : ∃ r, Nm.residOk s l = r := ⟨_, rfl⟩
              rw [← HF.out, hr]
              have HRR := Lib.hid hr
              clear hr
              go_wp2
              go_ret
              exact ⟨by rw [HRR.out]; rfl, HB3.out⟩
            · have HF : Hid (Nm.residOk s l = true) := (Nm.residOk_iff s l).2 ⟨HS.out, by rw [HL.out]; exact h1, HP.out, HQ.out, by rw [HL.out]; exact HX.out, fun h => absurd (by rw [HT.out] at h; exact h) ep⟩
              have dp : (p != -1) = true := by simpa using ep
              clear ep
              go_wp2
              go_ret
              exact ⟨by rw [HF.out]; rfl, hbel⟩
end Go.Proofs.Ytmmhcpigcdlnmaa
