/- Counter of the reference model. -/
import Derived.Test.YtghoofgfimeedaaDoorDCtr

namespace Go.Proofs.YtghoofgfimeedaaDoor
open Go.RowKit

set_option maxRecDepth 100000 in
/-- 'x[i:i+1]' of a slice of atoms -/
theorem run_one (b off n c i : Nat) (hi : i < n) (hnc : n ≤ c) : ∀ wx : World, (Instr.slice 26 (.slice (some ⟨b, off, none⟩) n c) (some (.int .i64 (i : Int))) (some (.int .i64 ((i : Int) + 1))) none).run Tryd.prog wx = .ok (.slice (some ⟨b, off + i * 2, none⟩) 1 (c - i)) wx := by
  intro wx
  have hr := run_slice_lh (P := Tryd.prog) (w := wx) 26 (some ⟨b, off, none⟩) n c Tryd.underlying26 .i64 .i64 (i : Int) ((i : Int) + 1) (by omega) (by omega) (by omega)
  have hs : (sizeOf (Tryd.prog.elem 26)).run Tryd.prog wx = .ok 2 wx := by kernel_rfl
  rw [hs] at hr
  rw [hr]
  have h1 : ((i : Int)).toNat = i := by omega
  have h2 : ((i : Int) + 1).toNat = i + 1 := by omega
  simp [Result.andThen, sliced, h1, h2, show c ≠ i by omega, Addr.add]
theorem TokR.one {w : World} {B b off n i : Nat} {l : List (Int × Int)} (h : TokR w B (some ⟨b, off, none⟩) n l) (hi : i < n) : TokR w B (some ⟨b, off + i * 2, none⟩) 1 [l.getD i (0, 0)] := by
  obtain ⟨b', off', e, hb, hc⟩ := h.2 (by omega)
  injection e with e
  injection e with e1 e2
  subst e1; subst e2
  refine ⟨rfl, fun _ => ⟨b, off + i * 2, rfl, hb, fun k hk => ?_⟩⟩
  obtain rfl : k = 0 := by omega
  have := hc i hi
  simpa using this
/-- one atom of a residual, compared as a residual -/
theorem Dc.resid_one {s : Int} {a b : List (Int × Int)} (ha : Nm.ROk s a) (hb : Nm.ROk s b) {k : Nat} (hk : k < a.length) : Nm.residLe s [a.getD k (0, 0)] b = Nm.ratomLeB (a.getD k (0, 0)) b := by
  have h1 : Nm.ROk s [a.getD k (0, 0)] := by
    refine ⟨ha.1, by simp, Nm.allOk_of_mem fun x hx => ?_, fun j h0 hj => by simp at hj; omega, fun j hj => ?_, fun _ => Nm.exceeds_mem.2 fun x hx => by simp at hx⟩
    · rw [List.mem_singleton.1 hx]
      exact ha.2.2.1 k hk
    · obtain rfl : j = 0 := by simp at hj; omega
      exact ha.2.2.2.2.1 k hk
  rw [Bool.eq_iff_iff, Nm.residLe_iff, Nm.ratomLeB_iff]
  constructor
  · rintro ⟨_, _, h⟩
    exact h 0 (by simp)
  · intro h
    refine ⟨h1, hb, fun j hj => ?_⟩
    obtain rfl : j = 0 := by simp at hj; omega
    exact h

set_option maxRecDepth 100000 in
set_option maxHeartbeats 6400000 in
theorem specCounter_any (w : World) (B : Nat) (A1 : Option Addr) (n1 c1 : Nat) (a : List (Int × Int)) (A2 : Option Addr) (n2 c2 : Nat) (b : List (Int × Int)) (hB : B ≤ w.heap.size) (ha : TokR w B A1 n1 a) (hn1 : (n1 : Int) ≤ 140737488355328) (hb : TokR w B A2 n2 b) (hn2 : (n2 : Int) ≤ 140737488355328) :
    Calls Tryd.prog 42 #[.slice A1 n1 c1, .slice A2 n2 c2] w (ResB w (Dc.ctrR a b)) := by
  cases h1 : Lv.levelOk a with
  | false =>
    have HF := Lib.hid (Dc.ctrR_no (a := a) (b := b) (fun h => by rw [h1] at h; cases h.1))
    have HO := Lib.hid h1
    clear h1
    go_enter Tryd.func42, Tryd.ntmps42
    go_wp2_with fail
    refine (specOk_any w B A1 n1 c1 a hB ha hn1).mono ?_
    rintro e w1 ⟨rfl, hb1⟩
    rw [HO.out]
    clear ha hb
    go_wp2
    go_ret2
    rw [HF.out]
    exact resB_none hb1
  | true =>
    have HO1 := Lib.hid h1
    clear h1
    cases h2 : Lv.levelOk b with
    | false =>
      have HF := Lib.hid (Dc.ctrR_no (a := a) (b := b) (fun h => by rw [h2] at h; cases h.2))
      have HO := Lib.hid h2
      clear h2
      go_enter Tryd.func42, Tryd.ntmps42
      go_wp2_with fail
      refine (specOk_any w B A1 n1 c1 a hB ha hn1).mono ?_
      rintro e w1 ⟨rfl, hb1⟩
      rw [HO1.out]
      have hs1 := hb1.size
      go_wp2_with fail
      refine (specOk_any w1 B A2 n2 c2 b (by omega) (hb.below (hb1.mono hB)) hn2).mono ?_
      rintro e w2 ⟨rfl, hb2⟩
      rw [HO.out]
      have HB2 := Lib.hid (hb1.trans (hb2.mono hb1.size))
      clear ha hb hb1 hb2
      go_wp2
      go_ret2
      rw [HF.out]
      exact resB_none HB2.out
    | true =>
      have HO2 := Lib.hid h2
      clear h2
      go_enter Tryd.func42, Tryd.ntmps42
      go_wp2_with fail
      refine (specOk_any w B A1 n1 c1 a hB ha hn1).mono ?_
      rintro e w1 ⟨rfl, hb1⟩
      rw [HO1.out]
      have hs1 := hb1.size
      go_wp2_with fail
      refine (specOk_any w1 B A2 n2 c2 b (by omega) (hb.below (hb1.mono hB)) hn2).mono ?_
      rintro e w2 ⟨rfl, hb2⟩
      rw [HO2.out]
      have HB2 := Lib.hid (hb1.trans (hb2.mono hb1.size))
      have HA2 := Lib.hid (ha.below (HB2.out.mono hB))
      have HBB2 := Lib.hid (hb.below (HB2.out.mono hB))
      have hs2 := hb2.size
      clear ha hb hb1 hb2
      go_wp2
      go_loopw [6] (fun i wr => ∃ S : Nat, S ≤ 32 ∧ i = .int .i64 S ∧ Hid (Dc.misR 0 a b = Dc.misS 0 a b S (32 - S)) ∧ Hid (Below w.heap.size w wr) ∧ Hid (TokR wr B A1 n1 a) ∧ Hid (TokR wr B A2 n2 b) ∧ B ≤ wr.heap.size) (fun i _ => 32 - (intOf i).toNat)
      case atStart => exact ⟨0, by omega, rfl, rfl, HB2.out, HA2.out, HBB2.out, by omega⟩
      case round =>
        rename_i wo
        clear HB2 HA2 HBB2
        obtain ⟨S, hS, rfl, HMR, HBR, HAR, HBBR, hsr⟩ := hrel
        by_cases hS2 : S < 32
        · have hSi : (S : Int) ≤ 31 := by omega
          have hsg : Sg.isSign (S : Int) = true := Dc.isSign_nat hS2
          have HSG := Lib.hid hsg
          have HR1 := Lib.hid (specResidual_any wr B A1 n1 c1 a S hsr HAR.out hn1)
          rw [residR_yes ⟨HO1.out, hsg⟩] at HR1
          clear hsg
          go_wp2_with fail
          refine HR1.out.mono ?_
          rintro e w3 ⟨A3, c3, rfl, ho3, hb3⟩
          simp only [Option.getD_some, Option.isSome_some] at ho3 ⊢
          obtain ⟨L1, hL1⟩ : ∃ L1, (Nm.rnorm (Nm.wl (S : Int) a)).length = L1 := ⟨_, rfl⟩
          have h61 := Nm.rnorm_len (Nm.wl (S : Int) a)
          rw [hL1] at ho3 h61 ⊢
          have hb03 := HBR.out.trans (hb3.mono HBR.out.size)
          have hbb3 := HBBR.out.below (hb3.mono hsr)
          have hs3 := hb3.size
          have HR2 := Lib.hid (specResidual_any w3 B A2 n2 c2 b S (by omega) hbb3 hn2)
          rw [residR_yes ⟨HO2.out, HSG.out⟩] at HR2
          have HA3 := Lib.hid (HAR.out.below (hb3.mono hsr))
          have HL1 := Lib.hid hL1
          clear HR1 hb3 hL1
          go_wp2_with fail
          refine HR2.out.mono ?_
          rintro e w4 ⟨A4, c4, rfl, ho4, hb4⟩
          simp only [Option.getD_some, Option.isSome_some] at ho4 ⊢
          obtain ⟨L2, hL2⟩ : ∃ L2, (Nm.rnorm (Nm.wl (S : Int) b)).length = L2 := ⟨_, rfl⟩
          have h62 := Nm.rnorm_len (Nm.wl (S : Int) b)
          rw [hL2] at ho4 h62 ⊢
          have hb04 := hb03.trans (hb4.mono hb03.size)
          have HA4 := Lib.hid (HA3.out.below (hb4.mono (by omega)))
          have HBB4 := Lib.hid (hbb3.below (hb4.mono (by omega)))
          have ho34 := at_below' ho3 hb4
          have hs4 := hb4.size
          have HC3 := Lib.hid ho34
          have HX3 := Lib.hid (at_reads ho34)
          have HX4 := Lib.hid (at_reads ho4)
          have HB4 := Lib.hid hb04
          have HAL := Lib.hid (Dc.rs_rok HO1.out HSG.out)
          have HBL := Lib.hid (Dc.rs_rok HO2.out HSG.out)
          clear HR2 hL2 hb4 ho3 ho34 ho4 hbb3 hb03 hb04 HBR HAR HBBR HA3
          go_wp2
          go_loopw [11] (fun i wr => ∃ k : Nat, k ≤ L1 ∧ i = .int .i64 k ∧ Hid (Dc.misL (Dc.rs b (S : Int)) (Nm.up 0 (Dc.rs a (S : Int))) = Dc.misL (Dc.rs b (S : Int)) ((Dc.rs a (S : Int)).drop k)) ∧ Hid (Below w4.heap.size w4 wr)) (fun i _ => L1 - (intOf i).toNat)
          case atStart => exact ⟨0, Nat.zero_le _, rfl, by rw [Dc.up_zero]; rfl, Below.refl _ _⟩
          case round =>
            rename_i wp
            obtain ⟨k, hk, rfl, HM, HBK⟩ := hrel
            have hszk := HBK.out.size
            by_cases hlt : k < L1
            · have hki : (k : Int) < (L1 : Int) := by omega
              obtain ⟨g3, o3, hA3, hg3, hc3⟩ := HX3.out.2 (by omega)
              subst hA3
              obtain ⟨x1, _⟩ := hc3 k hlt
              have hcap : L1 ≤ c3 := by
                rcases HC3.out.2 with ⟨h, _⟩ | ⟨_, _, _, _, _, _, h, _⟩
                · cases h
                · exact h
              have hone := run_one g3 o3 L1 c3 k hlt hcap
              have HRL := Lib.hid (Dc.resid_one HAL.out HBL.out (k := k) (by rw [HL1.out]; exact hlt))
              have HP5 := Lib.hid (HAL.out.2.2.1.mem (Nm.mem_getD (l := Dc.rs a (S : Int)) (k := k) (by rw [HL1.out]; exact hlt)))
              have HLE := Lib.hid (specResidLe_any wr wr.heap.size (some ⟨g3, o3 + k * 2, none⟩) 1 (c3 - k) [(Dc.rs a (S : Int)).getD k (0, 0)] A4 L2 c4 (Nm.rnorm (Nm.wl (S : Int) b)) S (Nat.le_refl _) (((HX3.out.below HBK.out).one hlt).more hszk) (by omega) ((HX4.out.below HBK.out).more hszk) (by omega))
              obtain ⟨t, ht⟩ : ∃ t, (Dc.rs a (S : Int)).getD k (0, 0) = t := ⟨_, rfl⟩
              rw [ht] at x1 HRL HP5 HLE
              obtain ⟨p, y⟩ := t
              have hp1 : -1 ≤ p := HP5.out.1
              have hp5 : p < 5 := HP5.out.2.1
              have y1 := (HBK.out.cell (p := ⟨g3, o3 + k * 2, none⟩) hg3).trans x1
              have HT := Lib.hid ht
              clear hc3 ht x1
              have hkw : (k : Int) + 1 ≤ 100 := by omega
              go_wp2_with fail
              refine HLE.out.mono ?_
              rintro e w5 ⟨rfl, hb5⟩
              have HB5 := Lib.hid (HBK.out.trans (hb5.mono hszk))
              have hs5 := hb5.size
              have y2 := (hb5.cell (p := ⟨g3, o3 + k * 2, none⟩) (by show g3 < _; omega)).trans y1
              rw [HRL.out]
              clear hb5 HLE y1 hone
              cases hle : Nm.ratomLeB (p, y) (Dc.rs b (S : Int)) with
              | true =>
                have HM2 := Lib.hid (HM.out.trans (Dc.misL_go (by rw [HL1.out]; exact hlt) (by rw [HT.out]; exact hle)))
                clear hle HM
                go_wp2
                go_roundw
                case rel => exact ⟨k + 1, by omega, by go_num, HM2.out, HB5.out⟩
                case measure => simp [intOf]; omega
              | false =>
                have HM2 := Lib.hid (HM.out.trans (Dc.misL_hit (by rw [HL1.out]; exact hlt) (by rw [HT.out]; exact hle)))
                rw [HT.out] at HM2
                have HF := Lib.hid (Dc.ctrR_mis HO1.out HO2.out (HMR.out.trans (Dc.misS_hit hS2 HM2.out)))
                simp only [Option.map_some] at HF
                clear hle HM
                go_wp2_with fail
                refine (l03Least_any w5 S).mono ?_
                rintro e w6 ⟨g, cap, rfl, ho6, hb6⟩
                have HBE := Lib.hid ((HB4.out.trans (HB5.out.mono HB4.out.size)).trans (hb6.mono (Nat.le_trans HB4.out.size (by omega))))
                have HO6 := Lib.hid (own_base (base' := w.heap.size) ho6 (Nat.le_trans HB4.out.size (by omega)))
                have y3 := (hb6.cell (p := ⟨g3, o3 + k * 2, none⟩) (by show g3 < _; omega)).trans y2
                have hgB := (ho6.lt g rfl).1
                have hwg : w.heap.size ≤ g := Nat.le_trans (Nat.le_trans HB4.out.size (by omega)) hgB
                clear hb6 y2
                by_cases hp : 0 ≤ p
                · obtain ⟨P, rfl⟩ : ∃ P : Nat, p = P := ⟨p.toNat, by omega⟩
                  have HE : Hid (Dc.cenv S (P : Int) = (Sg.least S).set P 100) := by show _ = _; unfold Dc.cenv; rw [if_pos hp, Int.toNat_natCast]
                  obtain ⟨z1, z2⟩ := spotI ho6 (i := P) (by omega)
                  have hkt : ((P : Int)).toNat = P := by omega
                  clear ho6
                  go_wp2
                  go_ret2
                  rw [HF.out, HE.out]
                  exact resB_some (by simp [Sg.least_len]) (putI HO6.out 100) (HBE.out.setCell (p := ⟨g, P, none⟩) hwg _)
                · have HE : Hid (Dc.cenv S p = Sg.least S) := if_neg hp
                  clear ho6
                  go_wp2
                  go_ret2
                  rw [HF.out, HE.out]
                  exact resB_some (Sg.least_len _) HO6.out HBE.out
            · have hkk : ¬ (k : Int) < (L1 : Int) := by omega
              have HM2 := Lib.hid (HMR.out.trans (Dc.misS_go hS2 (HM.out.trans (Dc.misL_end (by rw [HL1.out]; omega)))))
              have HBE := Lib.hid (HB4.out.trans (HBK.out.mono HB4.out.size))
              have HAE := Lib.hid (HA4.out.below (HBK.out.mono (by omega)))
              have HBBE := Lib.hid (HBB4.out.below (HBK.out.mono (by omega)))
              clear HM HA4 HBB4
              go_wp2
              go_roundw
              case rel => exact ⟨S + 1, by omega, by go_num, HM2.out, HBE.out, HAE.out, HBBE.out, by omega⟩
              case measure => simp [intOf]; omega
        · have hS3 : ¬ (S : Int) ≤ 31 := by omega
          have HF := Lib.hid (Dc.ctrR_mis HO1.out HO2.out (HMR.out.trans (Dc.misS_end (by omega))))
          have HBE := HBR
          clear hS2 hS HBR HAR HBBR
          go_wp2
          go_ret2
          rw [HF.out]
          exact resB_none HBE.out
end Go.Proofs.YtghoofgfimeedaaDoor
