/- LevelLe, LevelLess and LevelEq of the reference model. -/
import Derived.Test.YtghoofgfimeedaaDoorDcMath4
import Derived.Test.YtghoofgfimeedaaDoorRLe2
import Derived.Test.YtghoofgfimeedaaDoorSRes2
import Derived.Test.YtghoofgfimeedaaDoorNUp

namespace Go.Proofs.YtghoofgfimeedaaDoor
open Go.RowKit

theorem Dc.leR_no {a b : List (Int × Int)} (h : ¬ (Lv.levelOk a = true ∧ Lv.levelOk b = true)) : Dc.leR a b = false := by
  cases e : Dc.leR a b with
  | false => rfl
  | true => exact absurd ⟨((Dc.leR_iff a b).1 e).1, ((Dc.leR_iff a b).1 e).2.1⟩ h
theorem Dc.lessR_no {a b : List (Int × Int)} (h : ¬ (Lv.levelOk a = true ∧ Lv.levelOk b = true)) : Dc.lessR a b = false := by
  cases e : Dc.lessR a b with
  | false => rfl
  | true => exact absurd ⟨((Dc.lessR_iff a b).1 e).1, ((Dc.lessR_iff a b).1 e).2.1⟩ h
theorem Dc.resid_up {a : List (Int × Int)} {s : Int} (ha : Lv.levelOk a = true) : Nm.resid s (Nm.up 1 (Nm.rnorm (Nm.wl s a))) = Nm.rnorm (Nm.up 1 (Nm.rnorm (Nm.wl s a))) := by
  unfold Nm.resid
  rw [Nm.pl_self (((Dc.wl_fine2 (s := s) ha).2.1.rnorm).up 1)]

set_option maxRecDepth 100000 in
set_option maxHeartbeats 6400000 in
theorem specLevelLe_any (w : World) (B : Nat) (A1 : Option Addr) (n1 c1 : Nat) (a : List (Int × Int)) (A2 : Option Addr) (n2 c2 : Nat) (b : List (Int × Int)) (hB : B ≤ w.heap.size) (ha : TokR w B A1 n1 a) (hn1 : (n1 : Int) ≤ 140737488355328) (hb : TokR w B A2 n2 b) (hn2 : (n2 : Int) ≤ 140737488355328) :
    Calls Tryd.prog 31 #[.slice A1 n1 c1, .slice A2 n2 c2] w fun e w' => e = .returned (.bool (Dc.leR a b)) ∧ Below w.heap.size w w' := by
  cases h1 : Lv.levelOk a with
  | false =>
    have HF := Lib.hid (Dc.leR_no (a := a) (b := b) (fun h => by rw [h1] at h; cases h.1))
    have HO := Lib.hid h1
    clear h1
    go_enter Tryd.func31, Tryd.ntmps31
    go_wp2_with fail
    refine (specOk_any w B A1 n1 c1 a hB ha hn1).mono ?_
    rintro e w1 ⟨rfl, hb1⟩
    rw [HO.out]
    clear ha hb
    go_wp2
    go_ret
    exact ⟨by rw [HF.out]; rfl, hb1⟩
  | true =>
    have HO1 := Lib.hid h1
    clear h1
    cases h2 : Lv.levelOk b with
    | false =>
      have HF := Lib.hid (Dc.leR_no (a := a) (b := b) (fun h => by rw [h2] at h; cases h.2))
      have HO := Lib.hid h2
      clear h2
      go_enter Tryd.func31, Tryd.ntmps31
      go_wp2_with fail
      refine (specOk_any w B A1 n1 c1 a hB ha hn1).mono ?_
      rintro e w1 ⟨rfl, hb1⟩
      rw [HO1.out]
      have hs1 := hb1.size
      go_wp2_with fail
      refine (specOk_any w1 B A2 n2 c2 b (by omega) (hb.below (hb1.mono hB)) hn2).mono ?_
      rintro e w2 ⟨rfl, hb2⟩
      rw [HO.out]
      have HB2 := Lib.hid (hb1.trans (hb2.mono hb1.size))
      clear ha hb hb1 hb2
      go_wp2
      go_ret
      exact ⟨by rw [HF.out]; rfl, HB2.out⟩
    | true =>
      have HO2 := Lib.hid h2
      clear h2
      go_enter Tryd.func31, Tryd.ntmps31
      go_wp2_with fail
      refine (specOk_any w B A1 n1 c1 a hB ha hn1).mono ?_
      rintro e w1 ⟨rfl, hb1⟩
      rw [HO1.out]
      have hs1 := hb1.size
      go_wp2_with fail
      refine (specOk_any w1 B A2 n2 c2 b (by omega) (hb.below (hb1.mono hB)) hn2).mono ?_
      rintro e w2 ⟨rfl, hb2⟩
      rw [HO2.out]
      have HB2 := Lib.hid (hb1.trans (hb2.mono hb1.size))
      have HA2 := Lib.hid (ha.below (HB2.out.mono hB))
      have HBB2 := Lib.hid (hb.below (HB2.out.mono hB))
      have hs2 := hb2.size
      clear ha hb hb1 hb2
      go_wp2
      go_loopw [5] (fun i wr => ∃ S : Nat, S ≤ 32 ∧ i = .int .i64 S ∧ Hid (∀ s : Nat, s < S → Nm.residLe (s : Int) (Dc.rs a s) (Dc.rs b s) = true) ∧ Hid (Below w.heap.size w wr) ∧ Hid (TokR wr B A1 n1 a) ∧ Hid (TokR wr B A2 n2 b) ∧ B ≤ wr.heap.size) (fun i _ => 32 - (intOf i).toNat)
      case atStart => exact ⟨0, by omega, rfl, (fun s hs => absurd hs (by omega)), HB2.out, HA2.out, HBB2.out, by omega⟩
      case round =>
        rename_i wo
        clear HB2 HA2 HBB2
        obtain ⟨S, hS, rfl, HALL, HBR, HAR, HBBR, hsr⟩ := hrel
        by_cases hS2 : S < 32
        · have hSi : (S : Int) ≤ 31 := by omega
          have hsg : Sg.isSign (S : Int) = true := Dc.isSign_nat hS2
          have HSG := Lib.hid hsg
          have HR1 := Lib.hid (specResidual_any wr B A1 n1 c1 a S hsr HAR.out hn1)
          rw [residR_yes ⟨HO1.out, hsg⟩] at HR1
          clear hsg
          go_wp2_with fail
          refine HR1.out.mono ?_
          rintro e w3 ⟨A3, c3, rfl, ho3, hb3⟩
          simp only [Option.getD_some, Option.isSome_some] at ho3 ⊢
          obtain ⟨L1, hL1⟩ : ∃ L1, (Nm.rnorm (Nm.wl (S : Int) a)).length = L1 := ⟨_, rfl⟩
          have h61 := Nm.rnorm_len (Nm.wl (S : Int) a)
          rw [hL1] at ho3 h61 ⊢
          have hb03 := HBR.out.trans (hb3.mono HBR.out.size)
          have hbb3 := HBBR.out.below (hb3.mono hsr)
          have hs3 := hb3.size
          have HR2 := Lib.hid (specResidual_any w3 B A2 n2 c2 b S (by omega) hbb3 hn2)
          rw [residR_yes ⟨HO2.out, HSG.out⟩] at HR2
          have HA3 := Lib.hid (HAR.out.below (hb3.mono hsr))
          have HL1 := Lib.hid hL1
          clear HR1 hb3 hL1
          go_wp2_with fail
          refine HR2.out.mono ?_
          rintro e w4 ⟨A4, c4, rfl, ho4, hb4⟩
          simp only [Option.getD_some, Option.isSome_some] at ho4 ⊢
          obtain ⟨L2, hL2⟩ : ∃ L2, (Nm.rnorm (Nm.wl (S : Int) b)).length = L2 := ⟨_, rfl⟩
          have h62 := Nm.rnorm_len (Nm.wl (S : Int) b)
          rw [hL2] at ho4 h62 ⊢
          have hb04 := hb03.trans (hb4.mono hb03.size)
          have HA4 := Lib.hid (HA3.out.below (hb4.mono (by omega)))
          have HBB4 := Lib.hid (hbb3.below (hb4.mono (by omega)))
          have ho34 := at_below' ho3 hb4
          have hs4 := hb4.size
          clear HR2 hL2 hb4 ho3 hbb3 hb03 HBR HAR HBBR HA3
          have HLE := Lib.hid (specResidLe_any w4 w4.heap.size A3 L1 c3 (Nm.rnorm (Nm.wl (S : Int) a)) A4 L2 c4 (Nm.rnorm (Nm.wl (S : Int) b)) S (Nat.le_refl _) (at_reads ho34) (by omega) (at_reads ho4) (by omega))
          have HB4 := Lib.hid hb04
          clear hb04 ho34 ho4
          go_wp2_with fail
          refine HLE.out.mono ?_
          rintro e w7 ⟨rfl, hb7⟩
          have HB7 := Lib.hid (HB4.out.trans (hb7.mono HB4.out.size))
          have HA7 := Lib.hid (HA4.out.below (hb7.mono (by omega)))
          have HBB7 := Lib.hid (HBB4.out.below (hb7.mono (by omega)))
          have hs7 := hb7.size
          clear hb7 HLE HA4 HBB4 HB4
          cases hle : Nm.residLe (S : Int) (Nm.rnorm (Nm.wl (S : Int) a)) (Nm.rnorm (Nm.wl (S : Int) b)) with
          | true =>
            have HA8 : Hid (∀ s : Nat, s < S + 1 → Nm.residLe (s : Int) (Dc.rs a s) (Dc.rs b s) = true) := fun s hs => by
              by_cases e : s = S
              · subst e; exact hle
              · exact HALL.out s (by omega)
            clear hle HALL
            go_wp2
            go_roundw
            case rel => exact ⟨S + 1, by omega, by go_num, HA8.out, HB7.out, HA7.out, HBB7.out, by omega⟩
            case measure => simp [intOf]; omega
          | false =>
            have HF : Hid (Dc.leR a b = false) := by
              cases e : Dc.leR a b with
              | false => rfl
              | true => have := ((Dc.leR_iff a b).1 e).2.2 S hS2; rw [hle] at this; cases this
            clear hle
            go_wp2
            go_ret
            exact ⟨by rw [HF.out]; rfl, HB7.out⟩
        · have hS3 : ¬ (S : Int) ≤ 31 := by omega
          have HF : Hid (Dc.leR a b = true) := (Dc.leR_iff a b).2 ⟨HO1.out, HO2.out, fun s hs => HALL.out s (by omega)⟩
          have HBE := HBR
          clear hS2 hS HBR HAR HBBR
          go_wp2
          go_ret
          exact ⟨by rw [HF.out]; rfl, HBE.out⟩
set_option maxRecDepth 100000 in
set_option maxHeartbeats 6400000 in
theorem specLevelLess_any (w : World) (B : Nat) (A1 : Option Addr) (n1 c1 : Nat) (a : List (Int × Int)) (A2 : Option Addr) (n2 c2 : Nat) (b : List (Int × Int)) (hB : B ≤ w.heap.size) (ha : TokR w B A1 n1 a) (hn1 : (n1 : Int) ≤ 140737488355328) (hb : TokR w B A2 n2 b) (hn2 : (n2 : Int) ≤ 140737488355328) :
    Calls Tryd.prog 40 #[.slice A1 n1 c1, .slice A2 n2 c2] w fun e w' => e = .returned (.bool (Dc.lessR a b)) ∧ Below w.heap.size w w' := by
  cases h1 : Lv.levelOk a with
  | false =>
    have HF := Lib.hid (Dc.lessR_no (a := a) (b := b) (fun h => by rw [h1] at h; cases h.1))
    have HO := Lib.hid h1
    clear h1
    go_enter Tryd.func40, Tryd.ntmps40
    go_wp2_with fail
    refine (specOk_any w B A1 n1 c1 a hB ha hn1).mono ?_
    rintro e w1 ⟨rfl, hb1⟩
    rw [HO.out]
    clear ha hb
    go_wp2
    go_ret
    exact ⟨by rw [HF.out]; rfl, hb1⟩
  | true =>
    have HO1 := Lib.hid h1
    clear h1
    cases h2 : Lv.levelOk b with
    | false =>
      have HF := Lib.hid (Dc.lessR_no (a := a) (b := b) (fun h => by rw [h2] at h; cases h.2))
      have HO := Lib.hid h2
      clear h2
      go_enter Tryd.func40, Tryd.ntmps40
      go_wp2_with fail
      refine (specOk_any w B A1 n1 c1 a hB ha hn1).mono ?_
      rintro e w1 ⟨rfl, hb1⟩
      rw [HO1.out]
      have hs1 := hb1.size
      go_wp2_with fail
      refine (specOk_any w1 B A2 n2 c2 b (by omega) (hb.below (hb1.mono hB)) hn2).mono ?_
      rintro e w2 ⟨rfl, hb2⟩
      rw [HO.out]
      have HB2 := Lib.hid (hb1.trans (hb2.mono hb1.size))
      clear ha hb hb1 hb2
      go_wp2
      go_ret
      exact ⟨by rw [HF.out]; rfl, HB2.out⟩
    | true =>
      have HO2 := Lib.hid h2
      clear h2
      go_enter Tryd.func40, Tryd.ntmps40
      go_wp2_with fail
      refine (specOk_any w B A1 n1 c1 a hB ha hn1).mono ?_
      rintro e w1 ⟨rfl, hb1⟩
      rw [HO1.out]
      have hs1 := hb1.size
      go_wp2_with fail
      refine (specOk_any w1 B A2 n2 c2 b (by omega) (hb.below (hb1.mono hB)) hn2).mono ?_
      rintro e w2 ⟨rfl, hb2⟩
      rw [HO2.out]
      have HB2 := Lib.hid (hb1.trans (hb2.mono hb1.size))
      have HA2 := Lib.hid (ha.below (HB2.out.mono hB))
      have HBB2 := Lib.hid (hb.below (HB2.out.mono hB))
      have hs2 := hb2.size
      clear ha hb hb1 hb2
      go_wp2
      go_loopw [5] (fun i wr => ∃ S : Nat, S ≤ 32 ∧ i = .int .i64 S ∧ Hid (∀ s : Nat, s < S → Nm.residLe (s : Int) (Nm.rnorm (Nm.up 1 (Dc.rs a s))) (Dc.rs b s) = true) ∧ Hid (Below w.heap.size w wr) ∧ Hid (TokR wr B A1 n1 a) ∧ Hid (TokR wr B A2 n2 b) ∧ B ≤ wr.heap.size) (fun i _ => 32 - (intOf i).toNat)
      case atStart => exact ⟨0, by omega, rfl, (fun s hs => absurd hs (by omega)), HB2.out, HA2.out, HBB2.out, by omega⟩
      case round =>
        rename_i wo
        clear HB2 HA2 HBB2
        obtain ⟨S, hS, rfl, HALL, HBR, HAR, HBBR, hsr⟩ := hrel
        by_cases hS2 : S < 32
        · have hSi : (S : Int) ≤ 31 := by omega
          have hsg : Sg.isSign (S : Int) = true := Dc.isSign_nat hS2
          have HSG := Lib.hid hsg
          have HR1 := Lib.hid (specResidual_any wr B A1 n1 c1 a S hsr HAR.out hn1)
          rw [residR_yes ⟨HO1.out, hsg⟩] at HR1
          clear hsg
          go_wp2_with fail
          refine HR1.out.mono ?_
          rintro e w3 ⟨A3, c3, rfl, ho3, hb3⟩
          simp only [Option.getD_some, Option.isSome_some] at ho3 ⊢
          obtain ⟨L1, hL1⟩ : ∃ L1, (Nm.rnorm (Nm.wl (S : Int) a)).length = L1 := ⟨_, rfl⟩
          have h61 := Nm.rnorm_len (Nm.wl (S : Int) a)
          rw [hL1] at ho3 h61 ⊢
          have hb03 := HBR.out.trans (hb3.mono HBR.out.size)
          have hbb3 := HBBR.out.below (hb3.mono hsr)
          have hs3 := hb3.size
          have HR2 := Lib.hid (specResidual_any w3 B A2 n2 c2 b S (by omega) hbb3 hn2)
          rw [residR_yes ⟨HO2.out, HSG.out⟩] at HR2
          have HA3 := Lib.hid (HAR.out.below (hb3.mono hsr))
          have HL1 := Lib.hid hL1
          clear HR1 hb3 hL1
          go_wp2_with fail
          refine HR2.out.mono ?_
          rintro e w4 ⟨A4, c4, rfl, ho4, hb4⟩
          simp only [Option.getD_some, Option.isSome_some] at ho4 ⊢
          obtain ⟨L2, hL2⟩ : ∃ L2, (Nm.rnorm (Nm.wl (S : Int) b)).length = L2 := ⟨_, rfl⟩
          have h62 := Nm.rnorm_len (Nm.wl (S : Int) b)
          rw [hL2] at ho4 h62 ⊢
          have hb04 := hb03.trans (hb4.mono hb03.size)
          have HA4 := Lib.hid (HA3.out.below (hb4.mono (by omega)))
          have HBB4 := Lib.hid (hbb3.below (hb4.mono (by omega)))
          have ho34 := at_below' ho3 hb4
          have hs4 := hb4.size
          clear HR2 hL2 hb4 ho3 hbb3 hb03 HBR HAR HBBR HA3
          have hrok := Dc.rs_rok HO1.out HSG.out
          have hsm : Small (Nm.rnorm (Nm.wl (S : Int) a)) := fun j hj => by
            have h := hrok.2.2.1.mem (Nm.mem_getD hj)
            exact ⟨h.2.2.1, Int.le_trans h.2.2.2 (by decide)⟩
          have hL0 : 1 ≤ L1 := by have := hrok.2.1; rw [HL1.out] at this; exact this
          have hupo := Dc.up_small hrok.2.2.1 (Dc.rs_small (s := (S : Int)) HO1.out)
          have HUP := Lib.hid hupo
          have hU := Lib.hid (specUp_any w4 w4.heap.size A3 L1 c3 (Nm.rnorm (Nm.wl (S : Int) a)) 1 (Nat.le_refl _) (at_reads ho34) (by omega) hsm (by omega) (by omega))
          clear hrok hsm hupo
          go_wp2_with fail
          refine hU.out.mono ?_
          rintro e w5 ⟨g5, c5, rfl, ho5, hb5⟩
          have hb05 := hb04.trans (hb5.mono hb04.size)
          have ho45 := at_below' ho4 hb5
          have HA5 := Lib.hid (HA4.out.below (hb5.mono (by omega)))
          have HBB5 := Lib.hid (HBB4.out.below (hb5.mono (by omega)))
          have hs5 := hb5.size
          have hV := Lib.hid (l03Resid_any w5 w5.heap.size (some ⟨g5, 0, none⟩) L1 c5 (Nm.up 1 (Nm.rnorm (Nm.wl (S : Int) a))) S (Nat.le_refl _) (OwnA.reads ho5) (by omega) (by omega) HUP.out)
          rw [Dc.resid_up HO1.out] at hV
          clear hU hb5 hb04 HA4 HBB4 ho4 ho34 ho5
          go_wp2_with fail
          refine hV.out.mono ?_
          rintro e w6 ⟨A6, c6, rfl, ho6, hb6⟩
          obtain ⟨L6, hL6⟩ : ∃ L6, (Nm.rnorm (Nm.up 1 (Nm.rnorm (Nm.wl (S : Int) a)))).length = L6 := ⟨_, rfl⟩
          have h66 := Nm.rnorm_len (Nm.up 1 (Nm.rnorm (Nm.wl (S : Int) a)))
          rw [hL6] at ho6 h66 ⊢
          have hb06 := hb05.trans (hb6.mono hb05.size)
          have ho46 := at_below' ho45 hb6
          have HA6 := Lib.hid (HA5.out.below (hb6.mono (by omega)))
          have HBB6 := Lib.hid (HBB5.out.below (hb6.mono (by omega)))
          have hs6 := hb6.size
          have HLE := Lib.hid (specResidLe_any w6 w6.heap.size A6 L6 c6 (Nm.rnorm (Nm.up 1 (Nm.rnorm (Nm.wl (S : Int) a)))) A4 L2 c4 (Nm.rnorm (Nm.wl (S : Int) b)) S (Nat.le_refl _) (at_reads ho6) (by omega) (at_reads ho46) (by omega))
          have HB6 := Lib.hid hb06
          clear hV hL6 hb6 hb05 hb06 HA5 HBB5 ho45 ho46 ho6
          go_wp2_with fail
          refine HLE.out.mono ?_
          rintro e w7 ⟨rfl, hb7⟩
          have HB7 := Lib.hid (HB6.out.trans (hb7.mono HB6.out.size))
          have HA7 := Lib.hid (HA6.out.below (hb7.mono (by omega)))
          have HBB7 := Lib.hid (HBB6.out.below (hb7.mono (by omega)))
          have hs7 := hb7.size
          clear hb7 HLE HA6 HBB6 HB6
          cases hle : Nm.residLe (S : Int) (Nm.rnorm (Nm.up 1 (Nm.rnorm (Nm.wl (S : Int) a)))) (Nm.rnorm (Nm.wl (S : Int) b)) with
          | true =>
            have HA8 : Hid (∀ s : Nat, s < S + 1 → Nm.residLe (s : Int) (Nm.rnorm (Nm.up 1 (Dc.rs a s))) (Dc.rs b s) = true) := fun s hs => by
              by_cases e : s = S
              · subst e; exact hle
              · exact HALL.out s (by omega)
            clear hle HALL
            go_wp2
            go_roundw
            case rel => exact ⟨S + 1, by omega, by go_num, HA8.out, HB7.out, HA7.out, HBB7.out, by omega⟩
            case measure => simp [intOf]; omega
          | false =>
            have HF : Hid (Dc.lessR a b = false) := by
              cases e : Dc.lessR a b with
              | false => rfl
              | true => have := ((Dc.lessR_iff a b).1 e).2.2 S hS2; rw [hle] at this; cases this
            clear hle
            go_wp2
            go_ret
            exact ⟨by rw [HF.out]; rfl, HB7.out⟩
        · have hS3 : ¬ (S : Int) ≤ 31 := by omega
          have HF : Hid (Dc.lessR a b = true) := (Dc.lessR_iff a b).2 ⟨HO1.out, HO2.out, fun s hs => HALL.out s (by omega)⟩
          have HBE := HBR
          clear hS2 hS HBR HAR HBBR
          go_wp2
          go_ret
          exact ⟨by rw [HF.out]; rfl, HBE.out⟩
set_option maxHeartbeats 800000 in
theorem specLevelEq_any (w : World) (B : Nat) (A1 : Option Addr) (n1 c1 : Nat) (a : List (Int × Int)) (A2 : Option Addr) (n2 c2 : Nat) (b : List (Int × Int)) (hB : B ≤ w.heap.size) (ha : TokR w B A1 n1 a) (hn1 : (n1 : Int) ≤ 140737488355328) (hb : TokR w B A2 n2 b) (hn2 : (n2 : Int) ≤ 140737488355328) :
    Calls Tryd.prog 41 #[.slice A1 n1 c1, .slice A2 n2 c2] w fun e w' => e = .returned (.bool (Dc.eqR a b)) ∧ Below w.heap.size w w' := by
  cases h1 : Dc.leR a b with
  | false =>
    have HF : Hid (Dc.eqR a b = false) := by show Dc.eqR a b = false; unfold Dc.eqR; rw [h1]; rfl
    have H1 := Lib.hid h1
    clear h1
    go_enter Tryd.func41, Tryd.ntmps41
    go_wp2_with fail
    refine (specLevelLe_any w B A1 n1 c1 a A2 n2 c2 b hB ha hn1 hb hn2).mono ?_
    rintro e w1 ⟨rfl, hb1⟩
    rw [H1.out]
    go_wp2
    go_ret
    exact ⟨by rw [HF.out]; rfl, hb1⟩
  | true =>
    have HF : Hid (Dc.eqR a b = Dc.leR b a) := by show Dc.eqR a b = Dc.leR b a; unfold Dc.eqR; rw [h1]; rfl
    have H1 := Lib.hid h1
    clear h1
    go_enter Tryd.func41, Tryd.ntmps41
    go_wp2_with fail
    refine (specLevelLe_any w B A1 n1 c1 a A2 n2 c2 b hB ha hn1 hb hn2).mono ?_
    rintro e w1 ⟨rfl, hb1⟩
    rw [H1.out]
    have hs1 := hb1.size
    go_wp2_with fail
    refine (specLevelLe_any w1 B A2 n2 c2 b A1 n1 c1 a (by omega) (hb.below (hb1.mono hB)) hn2 (ha.below (hb1.mono hB)) hn1).mono ?_
    rintro e w2 ⟨rfl, hb2⟩
    have HB2 := Lib.hid (hb1.trans (hb2.mono hb1.size))
    clear hb1 hb2 ha hb
    go_wp2
    go_ret
    exact ⟨by rw [HF.out]; rfl, HB2.out⟩
end Go.Proofs.YtghoofgfimeedaaDoor
