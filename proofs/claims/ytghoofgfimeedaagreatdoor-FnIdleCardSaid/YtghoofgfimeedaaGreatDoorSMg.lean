/- SignMerge of the reference model. -/
import Derived.Test.YtghoofgfimeedaaGreatDoorMgMath

namespace Go.Proofs.YtghoofgfimeedaaGreatDoor
open Go.RowKit

set_option maxRecDepth 100000 in
set_option maxHeartbeats 6400000 in
theorem specSignMerge_any (w : World) (B : Nat) (A : Option Addr) (n c : Nat) (l : List (Int × Int)) (p : Int) (hB : B ≤ w.heap.size) (hl : TokR w B A n l) (hn : (n : Int) ≤ 140737488355328) :
    Calls Tryz.prog 41 #[.slice A n c, .int .i64 p] w fun e w' => e = .returned (.bool (mergeR l p)) ∧ Below w.heap.size w w' := by
  cases h1 : Lv.levelOk l with
  | false =>
    have HF := Lib.hid (mergeR_no (l := l) (p := p) (fun h => by rw [h1] at h; cases h.1))
    have HO := Lib.hid h1
    clear h1
    go_enter Tryz.func41, Tryz.ntmps41
    go_wp2_with fail
    refine (specOk_any w B A n c l hB hl hn).mono ?_
    rintro e w1 ⟨rfl, hb1⟩
    rw [HO.out]
    clear hl
    go_wp2
    go_ret
    exact ⟨by rw [HF.out]; rfl, hb1⟩
  | true =>
    have HO := Lib.hid h1
    clear h1
    by_cases hp0 : 0 ≤ p
    · by_cases hp5 : p < 5
      · obtain ⟨P, rfl⟩ : ∃ P : Nat, p = P := ⟨p.toNat, by omega⟩
        have hP : P < 5 := by omega
        have d1 : decide ((P : Int) < 0) = false := by simp
        have d2 : decide (5 ≤ (P : Int)) = false := by simp; omega
        go_enter Tryz.func41, Tryz.ntmps41
        go_wp2_with fail
        refine (specOk_any w B A n c l hB hl hn).mono ?_
        rintro e w1 ⟨rfl, hb1⟩
        rw [HO.out]
        have hl1 := hl.below (hb1.mono hB)
        have HL := Lib.hid hl1
        have HB1 := Lib.hid hb1
        have hs1 := hb1.size
        clear hl hl1 hb1 d1 d2
        go_wp2
        go_loopw [5, 6] (fun v i wr => ∃ k : Nat, k ≤ P ∧ i = .int .i64 k ∧ v = .int .i64 ((2 ^ k : Nat) : Int) ∧ Hid (Below w.heap.size w wr) ∧ Hid (TokR wr B A n l) ∧ B ≤ wr.heap.size) (fun _ i _ => P - (intOf i).toNat)
        case atStart => exact ⟨0, Nat.zero_le _, rfl, rfl, HB1.out, HL.out, by omega⟩
        case round =>
          obtain ⟨k, hk, rfl, rfl, HBR, HLR, hsr⟩ := hrel
          by_cases hlt : k < P
          · have hki : (k : Int) < (P : Int) := by omega
            have h2 : (2 ^ k : Nat) ≤ 16 := by
              have : k ≤ 4 := by omega
              exact Nat.pow_le_pow_right (by omega) this
            obtain ⟨z, hz⟩ : ∃ z, 2 ^ k = z := ⟨_, rfl⟩
            have HZ : Hid (((2 ^ (k + 1) : Nat) : Int) = 2 * (z : Int)) := by show _ = _; rw [Nat.pow_succ, hz]; omega
            rw [hz] at h2 ⊢
            clear hz
            go_wp2
            go_roundw
            case rel => exact ⟨k + 1, by omega, by go_num, by rw [HZ.out], HBR.out, HLR.out, hsr⟩
            case measure => simp [intOf]; omega
          · obtain rfl : k = P := by omega
            have h2 : (2 ^ k : Nat) ≤ 16 := by
              have : k ≤ 4 := by omega
              exact Nat.pow_le_pow_right (by omega) this
            obtain ⟨z, hz⟩ : ∃ z, 2 ^ k = z := ⟨_, rfl⟩
            rw [hz] at h2 ⊢
            have HZ := Lib.hid hz
            clear hz hlt HL HB1
            have hkk : ¬ (k : Int) < (k : Int) := by omega
            go_wp2
            go_loopw [7] (fun i wr => ∃ S : Nat, S ≤ 32 ∧ i = .int .i64 S ∧ Hid (∀ s : Nat, s < S → Sg.has (s : Int) (k : Int) = false → hasP (rsd l (s + z)) k = false ∧ rsd l s = rsd l (s + z)) ∧ Hid (Below w.heap.size w wr) ∧ Hid (TokR wr B A n l) ∧ B ≤ wr.heap.size) (fun i _ => 32 - (intOf i).toNat)
            case atStart => exact ⟨0, by omega, rfl, (fun s hs => absurd hs (by omega)), HBR.out, HLR.out, hsr⟩
            case round =>
              rename_i wo
              clear HBR HLR hsr
              obtain ⟨S, hS, rfl, HALL, HBR, HLR, hsr⟩ := hrel
              by_cases hS2 : S < 32
              · have hSi : (S : Int) ≤ 31 := by omega
                go_wp2_with fail
                refine (specSignHas_any wr S k).mono ?_
                rintro e wx ⟨rfl, rfl⟩
                cases hh : Sg.has (S : Int) (k : Int) with
                | true =>
                  have HA2 : Hid (∀ s : Nat, s < S + 1 → Sg.has (s : Int) (k : Int) = false → hasP (rsd l (s + z)) k = false ∧ rsd l s = rsd l (s + z)) := fun s hs hf => by
                    by_cases e : s = S
                    · subst e; rw [hh] at hf; cases hf
                    · exact HALL.out s (by omega) hf
                  clear hh
                  go_wp2
                  go_roundw
                  case rel => exact ⟨S + 1, by omega, by go_num, HA2.out, HBR.out, HLR.out, hsr⟩
                  case measure => simp [intOf]; omega
                | false =>
                  have HNO : Hid (¬ (hasP (rsd l (S + z)) k = false ∧ rsd l S = rsd l (S + z)) → mergeR l (k : Int) = false) := by
                    have h := merge_nohalf (l := l) hS2 hP hh
                    rw [HZ.out] at h
                    exact h
                  have HA2 : Hid (hasP (rsd l (S + z)) k = false → rsd l S = rsd l (S + z) → ∀ s : Nat, s < S + 1 → Sg.has (s : Int) (k : Int) = false → hasP (rsd l (s + z)) k = false ∧ rsd l s = rsd l (s + z)) := fun g1 g2 s hs hf => by
                    by_cases e : s = S
                    · subst e; exact ⟨g1, g2⟩
                    · exact HALL.out s (by omega) hf
                  have hsz := (bit_off S hS2 k hP hh).1
                  rw [HZ.out] at hsz
                  have HR1 := Lib.hid (specResidual_any wx B A n c l S hsr HLR.out hn)
                  rw [residR_yes ⟨HO.out, by simp [Sg.isSign]; omega⟩] at HR1
                  clear hh
                  go_wp2_with fail
                  refine HR1.out.mono ?_
                  rintro e w2 ⟨A1, c1, rfl, ho1, hb2⟩
                  simp only [Option.getD_some, Option.isSome_some] at ho1 ⊢
                  obtain ⟨L1, hL1⟩ : ∃ L1, (Nm.rnorm (Nm.wl (S : Int) l)).length = L1 := ⟨_, rfl⟩
                  have h61 := Nm.rnorm_len (Nm.wl (S : Int) l)
                  rw [hL1] at ho1 h61 ⊢
                  have hb02 := HBR.out.trans (hb2.mono HBR.out.size)
                  have hl2 := HLR.out.below (hb2.mono hsr)
                  have hs2 := hb2.size
                  have HR2 := Lib.hid (specResidual_any w2 B A n c l ((S : Int) + (z : Int)) (by omega) hl2 hn)
                  rw [residR_yes ⟨HO.out, by simp [Sg.isSign]; omega⟩, show Nm.rnorm (Nm.wl ((S : Int) + (z : Int)) l) = rsd l (S + z) from by unfold rsd; rw [Int.natCast_add]] at HR2
                  clear HR1 hL1 hb2
                  go_wp2_with fail
                  refine HR2.out.mono ?_
                  rintro e w3 ⟨A2, c2, rfl, ho2, hb3⟩
                  simp only [Option.getD_some, Option.isSome_some] at ho2 ⊢
                  obtain ⟨L2, hL2⟩ : ∃ L2, (rsd l (S + z)).length = L2 := ⟨_, rfl⟩
                  have h62 : (rsd l (S + z)).length ≤ 6 := Nm.rnorm_len _
                  rw [hL2] at ho2 h62 ⊢
                  have hb03 := hb02.trans (hb3.mono hb02.size)
                  have hl3 := hl2.below (hb3.mono (by omega))
                  have ho13 := at_below' ho1 hb3
                  have hs3 := hb3.size
                  have HLL2 := Lib.hid hL2
                  have HO1 := Lib.hid (at_reads ho13)
                  have HO2 := Lib.hid (at_reads ho2)
                  have HB3 := Lib.hid hb03
                  have HL3 := Lib.hid hl3
                  have hsr3 : B ≤ w3.heap.size := by omega
                  clear HR2 hL2 hb3 ho1 ho2 ho13 hl2 hl3 hb02 hb03 HBR HLR
                  go_wp2
                  go_loopw [12] (fun i wr => ∃ j : Nat, j ≤ L2 ∧ i = .int .i64 j ∧ Hid (∀ t, t < j → ((rsd l (S + z)).getD t (0, 0)).1 ≠ (k : Int)) ∧ wr = w3) (fun i _ => L2 - (intOf i).toNat)
                  case atStart => exact ⟨0, Nat.zero_le _, rfl, (fun t ht => absurd ht (by omega)), rfl⟩
                  case round =>
                    rename_i wp
                    obtain ⟨j, hj, rfl, HJ, hw3⟩ := hrel
                    subst hw3
                    by_cases hj2 : j < L2
                    · obtain ⟨b, off, rfl, hb, hc⟩ := HO2.out.2 (by omega)
                      obtain ⟨x1, x2⟩ := hc j hj2
                      have hji : (j : Int) < (L2 : Int) := by omega
                      obtain ⟨t, ht⟩ : ∃ t, (rsd l (S + z)).getD j (0, 0) = t := ⟨_, rfl⟩
                      rw [ht] at x1 x2
                      obtain ⟨q, x⟩ := t
                      have HT := Lib.hid ht
                      clear hc ht x2
                      by_cases eq : q = (k : Int)
                      · have HF := Lib.hid (HNO.out (fun hx => by rw [hasP_yes (k := j) (by rw [HLL2.out]; exact hj2) (by rw [HT.out]; exact eq)] at hx; cases hx.1))
                        subst eq
                        go_wp2
                        go_ret
                        exact ⟨by rw [HF.out]; rfl, HB3.out⟩
                      · have d1 : (q == (k : Int)) = false := by simpa using eq
                        have HJ2 : Hid (∀ t, t < j + 1 → ((rsd l (S + z)).getD t (0, 0)).1 ≠ (k : Int)) := fun t ht => by
                          by_cases e : t = j
                          · subst e; rw [HT.out]; exact eq
                          · exact HJ.out t (by omega)
                        clear eq
                        go_wp2
                        go_roundw
                        case rel => exact ⟨j + 1, by omega, by go_num, HJ2.out, trivial⟩
                        case measure => simp [intOf]; omega
                    · have hj3 : ¬ (j : Int) < (L2 : Int) := by omega
                      have HNP := Lib.hid (hasP_no (l := rsd l (S + z)) (p := (k : Int)) (fun t ht => HJ.out t (by rw [HLL2.out] at ht; omega)))
                      have HSM := Lib.hid (l03Same_any wr wr.heap.size A1 A2 L1 L2 c1 c2 (rsd l S) (rsd l (S + z)) (Nat.le_refl _) HO1.out HO2.out (by omega) (by omega))
                      clear HJ
                      go_wp2_with fail
                      refine HSM.out.mono ?_
                      rintro e w4 ⟨rfl, hb4⟩
                      have HB4 := Lib.hid (HB3.out.trans (hb4.mono HB3.out.size))
                      have HL4 := Lib.hid (HL3.out.below (hb4.mono hsr3))
                      have hs4 := hb4.size
                      clear hb4 HSM
                      cases hsame : decide (rsd l S = rsd l (S + z)) with
                      | true =>
                        have HA3 := Lib.hid (HA2.out HNP.out (of_decide_eq_true hsame))
                        clear hsame
                        go_wp2
                        go_roundw
                        case rel => exact ⟨S + 1, by omega, by go_num, HA3.out, HB4.out, HL4.out, by omega⟩
                        case measure => simp [intOf]; omega
                      | false =>
                        have HF := Lib.hid (HNO.out (fun hx => of_decide_eq_false hsame hx.2))
                        clear hsame
                        go_wp2
                        go_ret
                        exact ⟨by rw [HF.out]; rfl, HB4.out⟩
              · have hS3 : ¬ (S : Int) ≤ 31 := by omega
                have HF : Hid (mergeR l (k : Int) = true) := merge_half HO.out hP (fun s hs hf => by have h := HALL.out s (by omega) hf; rw [HZ.out]; exact h)
                have HBE := HBR
                clear hS2 hS
                go_wp2
                go_ret
                exact ⟨by rw [HF.out]; rfl, HBE.out⟩
      · have d1 : decide (p < 0) = false := by simp; omega
        have d2 : decide (5 ≤ p) = true := by simp; omega
        have HF := Lib.hid (mergeR_no (l := l) (p := p) (fun h => hp5 h.2.2))
        go_enter Tryz.func41, Tryz.ntmps41
        go_wp2_with fail
        refine (specOk_any w B A n c l hB hl hn).mono ?_
        rintro e w1 ⟨rfl, hb1⟩
        rw [HO.out]
        clear hl hp5
        go_wp2
        go_ret
        exact ⟨by rw [HF.out]; rfl, hb1⟩
    · have d1 : decide (p < 0) = true := by simp; omega
      have HF := Lib.hid (mergeR_no (l := l) (p := p) (fun h => hp0 h.2.1))
      go_enter Tryz.func41, Tryz.ntmps41
      go_wp2_with fail
      refine (specOk_any w B A n c l hB hl hn).mono ?_
      rintro e w1 ⟨rfl, hb1⟩
      rw [HO.out]
      clear hl hp0
      go_wp2
      go_ret
      exact ⟨by rw [HF.out]; rfl, hb1⟩
end Go.Proofs.YtghoofgfimeedaaGreatDoor
