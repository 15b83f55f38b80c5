/- l06First, LeUnder and EqUnder of the reference model. -/
/- LeUnder and EqUnder of the program. -/
/- Words for memory: a row of pairs of levels, each level a row of the call's own. -/
import Derived.Test.YtgebjnoicgmdoaaGreatDoorUnAtom3
import Derived.Test.YtgebjnoicgmdoaaGreatDoorCsSign
import Derived.Test.YtgebjnoicgmdoaaGreatDoorSRes2
import Derived.Test.YtgebjnoicgmdoaaGreatDoorSpec
import Derived.Test.YtgebjnoicgmdoaaGreatDoorUnCu
import Derived.Test.YtgebjnoicgmdoaaGreatDoorCoTab
import Derived.Test.YtgebjnoicgmdoaaGreatDoorCoOk
import Derived.Test.YtgebjnoicgmdoaaGreatDoorDcMath4
import Derived.Test.YtgebjnoicgmdoaaGreatDoorNFree
import Derived.Test.YtgebjnoicgmdoaaGreatDoorOwnO
import Derived.Test.YtgebjnoicgmdoaaGreatDoorDcMath
import Derived.Tactics2
import Derived.Defers
import Derived.Laws.Pointers
import Derived.Laws.LoneSync
import Derived.RegionTactic
import Derived.RegionCalls
import Derived.Deep.WholeRow
import Derived.Test.YtgebjnoicgmdoaaGreatDoorSlc
import Derived.Test.YtgebjnoicgmdoaaGreatDoorNMap

namespace Go.Proofs.YtgebjnoicgmdoaaGreatDoor
open Go.RowKit
open Cs (Cn Tb)

/-- what l06First gives back -/
def fstV (r : Option (Nat × Nm.At)) : Value := .tuple #[.int .i64 ((r.map fun x => ((x.1 : Nat) : Int)).getD (-1)), .agg #[.int .i64 ((r.map fun x => x.2.1).getD 0), .int .i64 ((r.map fun x => x.2.2).getD 0)]]
theorem fstV_none : fstV none = .tuple #[.int .i64 (-1), .agg #[.int .i64 0, .int .i64 0]] := rfl
theorem fstV_some (S : Nat) (p x : Int) : fstV (some (S, (p, x))) = .tuple #[.int .i64 (S : Int), .agg #[.int .i64 p, .int .i64 x]] := rfl
theorem found_okS (l : List Cn) : Cs.foundI (gS l) 32 = (List.range 32).filter (Un.okS l) := by
  show (List.range 32).filter (fun i => !gS l i) = (List.range 32).filter (Un.okS l)
  refine List.filter_congr fun S _ => ?_
  show (!(!Cs.flat (Un.sgL l (S : Int)))) = Cs.flat (Un.sgL l (S : Int))
  exact Bool.not_not _
theorem getD_at {F : List Nat} {k : Nat} (hk : k < F.length) : F.getD k 0 = F[k] := by
  rw [List.getD_eq_getElem?_getD, List.getElem?_eq_getElem hk, Option.getD_some]

set_option maxRecDepth 100000 in
set_option maxHeartbeats 4000000 in
theorem l06First_any (w : World) (B b off n c : Nat) (l : List Cn) (A1 : Option Addr) (n1 c1 : Nat) (a : List (Int × Int)) (A2 : Option Addr) (n2 c2 : Nat) (m : List (Int × Int)) (hB : B ≤ w.heap.size) (hl : ConR w B (some ⟨b, off, none⟩) n l) (hn : (n : Int) ≤ 140737488355328)
    (ha : TokR w B A1 n1 a) (hn1 : (n1 : Int) ≤ 140737488355328) (hm : TokR w B A2 n2 m) (hn2 : (n2 : Int) ≤ 140737488355328) (hok : consOkR l = true) (hoa : Lv.levelOk a = true) (hom : Lv.levelOk m = true) :
    Calls Tryz.prog 55 #[.slice (some ⟨b, off, none⟩) n c, .slice A1 n1 c1, .slice A2 n2 c2] w fun e w' => e = .returned (fstV (Un.exR l a m)) ∧ Below w.heap.size w w' := by
  have HL := Lib.hid hl
  have HA := Lib.hid ha
  have HM := Lib.hid hm
  have HOK := Lib.hid hok
  have HOA := Lib.hid hoa
  have HOM := Lib.hid hom
  have hn24 : n ≤ 24 := by have h := (consOkR_ok hok).2; rw [hl.1] at h; exact h
  obtain ⟨F, hF⟩ : ∃ F, Cs.foundI (gS l) 32 = F := ⟨_, rfl⟩
  obtain ⟨N, hN⟩ : ∃ N, F.length = N := ⟨_, rfl⟩
  have hsg : signsR l = natI F := (signs_eq hok).trans (by rw [hF])
  have hsl : (signsR l).length = N := by rw [hsg, natI_len, hN]
  have hN32 : N ≤ 32 := by rw [← hN, ← hF]; exact Cs.foundI_len _ _
  have HF := Lib.hid hF
  have HN := Lib.hid hN
  clear hl ha hm hok hoa hom hF hN
  obtain ⟨W0, hW0⟩ : ∃ W, w.alloc (.cells #[.int .i64 0, .int .i64 0] 92) = W := ⟨_, rfl⟩
  have hB0 : Below w.heap.size w W0 := by rw [← hW0]; exact (Below.refl _ _).alloc (Nat.le_refl _) _
  have hK0 : Blk W0 w.heap.size 92 #[.int .i64 0, .int .i64 0] := by rw [← hW0]; exact Blk.made _ _ _
  have hs0 : W0.heap.size = w.heap.size + 1 := by rw [← hW0]; simp
  go_enter Tryz.func55, Tryz.ntmps55
  go_wp2_with fail
  refine (specConsSigns_any W0 B b off n c l (by omega) (HL.out.below (hB0.mono hB)) hn).mono ?_
  rintro e w1 ⟨Ao, co, rfl, ho1, hb1⟩
  rw [hsl]
  rw [hsl, hsg] at ho1
  have HI1 := Lib.hid (OwnI.reads ho1)
  have HB1 := Lib.hid (hB0.trans (hb1.mono (by omega)))
  have HK1 := Lib.hid (hK0.below hb1 (by omega))
  have hs1 := HB1.out.size
  have hs1' : w.heap.size < w1.heap.size := HK1.out.lt
  clear hsg hsl ho1 hb1 hW0 hB0 hK0
  go_wp2
  go_loopw [9] (fun i wr => ∃ k : Nat, k ≤ N ∧ i = .int .i64 k ∧ Hid (∀ j, j < k → Un.ex1 l a m (F.getD j 0) = none) ∧ Hid (Below w1.heap.size w1 wr)) (fun i _ => N - (intOf i).toNat)
  case atStart => exact ⟨0, Nat.zero_le _, rfl, (fun j hj => absurd hj (by omega)), Below.refl _ _⟩
  case round =>
    obtain ⟨k, hk, rfl, HNO, HBR⟩ := hrel
    have hsr := HBR.out.size
    by_cases hlt : k < N
    · have hki : (k : Int) < (N : Int) := by omega
      obtain ⟨S, hS⟩ : ∃ S, F.getD k 0 = S := ⟨_, rfl⟩
      have hmem : S ∈ Cs.foundI (gS l) 32 := by
        rw [HF.out, ← hS, getD_at (by rw [HN.out]; exact hlt)]
        exact List.getElem_mem _
      have hS32 := (found_mem hmem).1
      have HFL := Lib.hid (gS_no (found_mem hmem).2)
      have HSG := Lib.hid (Dc.isSign_nat hS32)
      obtain ⟨gs, os, rfl, hgs, hcs⟩ := HI1.out.2 (by omega)
      have ks0 := hcs k hlt
      rw [natI_at (by rw [HN.out]; exact hlt), ← getD_at (by rw [HN.out]; exact hlt), hS] at ks0
      have KS : ∀ X : World, Below w1.heap.size w1 X → X.cell? ⟨gs, os + k, none⟩ = some (.int .i64 (S : Int)) := fun X h => (h.cell (p := ⟨gs, os + k, none⟩) hgs).trans ks0
      have kr := KS _ HBR.out
      have HKS := Lib.hid KS
      have HS := Lib.hid hS
      have HB2 := Lib.hid (HB1.out.trans (HBR.out.mono hs1))
      have hBr : B ≤ wr.heap.size := by omega
      clear hmem hcs ks0 KS hS
      go_wp2_with fail
      refine (l05Signed_any wr B b off n c l S hBr (HL.out.below (HB2.out.mono hB)) (by omega)).mono ?_
      rintro e w2 ⟨g5, c5, rfl, ho2, hb2⟩
      have HR2 := Lib.hid (OwnC.reads ho2)
      have HBA := Lib.hid (HBR.out.trans (hb2.mono hsr))
      have hs2 := hb2.size
      clear ho2 hb2 kr
      go_wp2_with fail
      refine (l05Paths_any w2 w2.heap.size (some ⟨g5, 0, none⟩) (n + 5) c5 (Un.sgL l (S : Int)) (Nat.le_refl _) HR2.out (Cs.signed_ok (consOkR_ok HOK.out).1 _) (by omega)).mono ?_
      rintro e w3 ⟨hb3, ⟨hf, g, cap, rw', cp, rfl, ht⟩ | ⟨hf, rfl⟩⟩
      · have HT3 := Lib.hid ht
        have HBC := Lib.hid (HBA.out.trans (hb3.mono (by omega)))
        have hs3 := hb3.size
        have HBW3 := Lib.hid (HB1.out.trans (HBC.out.mono hs1))
        have kr3 := HKS.out _ HBC.out
        have HQ1 := Lib.hid (specResidual_any w3 B A1 n1 c1 a S (by omega) (HA.out.below (HBW3.out.mono hB)) hn1)
        rw [residR_yes ⟨HOA.out, HSG.out⟩] at HQ1
        clear hb3 ht hf
        go_wp2_with fail
        refine HQ1.out.mono ?_
        rintro e w4 ⟨A3, c3, rfl, ho3, hb4⟩
        simp only [Option.getD_some, Option.isSome_some] at ho3 ⊢
        obtain ⟨L1, hL1⟩ : ∃ L1, (Nm.rnorm (Nm.wl (S : Int) a)).length = L1 := ⟨_, rfl⟩
        have h61 := Nm.rnorm_len (Nm.wl (S : Int) a)
        rw [hL1] at ho3 h61 ⊢
        have hs4 := hb4.size
        have HBD := Lib.hid (HBC.out.trans (hb4.mono (by omega)))
        have HBW4 := Lib.hid (HB1.out.trans (HBD.out.mono hs1))
        have HT4 := Lib.hid (HT3.out.below (hb4.mono (by omega)))
        have kr4 := HKS.out _ HBD.out
        have HO3 := Lib.hid ho3
        have HL1 := Lib.hid hL1
        have HQ2 := Lib.hid (specResidual_any w4 B A2 n2 c2 m S (by omega) (HM.out.below (HBW4.out.mono hB)) hn2)
        rw [residR_yes ⟨HOM.out, HSG.out⟩] at HQ2
        clear HQ1 hb4 ho3 hL1 kr3
        go_wp2_with fail
        refine HQ2.out.mono ?_
        rintro e w5 ⟨A4, c4, rfl, ho4, hb5⟩
        simp only [Option.getD_some, Option.isSome_some] at ho4 ⊢
        obtain ⟨L2, hL2⟩ : ∃ L2, (Nm.rnorm (Nm.wl (S : Int) m)).length = L2 := ⟨_, rfl⟩
        have h62 := Nm.rnorm_len (Nm.wl (S : Int) m)
        rw [hL2] at ho4 h62 ⊢
        have hs5 := hb5.size
        have HBE := Lib.hid (HBD.out.trans (hb5.mono (by omega)))
        have HT5 := Lib.hid (HT4.out.below (hb5.mono (by omega)))
        have HR3 := Lib.hid (at_reads (at_below' HO3.out hb5))
        have HR4 := Lib.hid (at_reads ho4)
        have HRA := Lib.hid (Dc.rs_rok HOA.out HSG.out)
        have HRM := Lib.hid (Dc.rs_rok HOM.out HSG.out)
        obtain ⟨T, hT⟩ : ∃ T, Cs.tab (Un.sgL l (S : Int)) = T := ⟨_, rfl⟩
        have HTB : Hid (∀ i j, -1 ≤ T i j ∧ T i j ≤ 1000) := by
          show ∀ i j, _
          rw [← hT]
          exact fun i j => ⟨(Cs.tab_bd HFL.out i j).1, Int.le_trans (Cs.tab_bd HFL.out i j).2 (by decide)⟩
        have HEX : Hid (Un.ex1 l a m S = Un.exL T (Dc.rs m (S : Int)) (Dc.rs a (S : Int))) := by show _ = _; rw [Un.ex1_yes HFL.out, hT]
        rw [hT] at HT5
        clear HQ2 hb5 ho4 hL2 kr4 HO3 HT3 HT4 hT HR2
        go_wp2
        go_loopw [16] (fun i wr2 => ∃ j : Nat, j ≤ L1 ∧ i = .int .i64 j ∧ Hid (Un.ex1 l a m S = Un.exL T (Dc.rs m (S : Int)) ((Dc.rs a (S : Int)).drop j)) ∧ Hid (Below w5.heap.size w5 wr2)) (fun i _ => L1 - (intOf i).toNat)
        case atStart => exact ⟨0, Nat.zero_le _, rfl, HEX.out, Below.refl _ _⟩
        case round =>
          obtain ⟨j, hj, rfl, HE, HBJ⟩ := hrel
          have hsj := HBJ.out.size
          by_cases hjl : j < L1
          · have hji : (j : Int) < (L1 : Int) := by omega
            obtain ⟨g4, o4, rfl, hg4, hc4⟩ := HR3.out.2 (by omega)
            obtain ⟨x1, x2⟩ := hc4 j hjl
            have hjr : j < (Dc.rs a (S : Int)).length := by show j < (Nm.rnorm (Nm.wl (S : Int) a)).length; rw [HL1.out]; exact hjl
            have hat := (Nm.atOk_iff _).1 (HRA.out.2.2.1 j hjr)
            have HGO := fun h => Un.exL_go (T := T) (b := Dc.rs m (S : Int)) hjr h
            have HHI := fun h => Un.exL_hit (T := T) (b := Dc.rs m (S : Int)) hjr h
            obtain ⟨t, ht⟩ : ∃ t, (Dc.rs a (S : Int)).getD j (0, 0) = t := ⟨_, rfl⟩
            rw [ht] at x1 x2 hat HGO HHI
            obtain ⟨p, y⟩ := t
            simp only at hat
            obtain ⟨a1, a2, a3, a4⟩ := hat
            have KX : ∀ X : World, Below w5.heap.size w5 X → X.cell? ⟨g4, o4 + j * 2, none⟩ = some (.int .i64 p) ∧ X.cell? ⟨g4, o4 + j * 2 + 1, none⟩ = some (.int .i64 y) := fun X h => ⟨(h.cell (p := ⟨g4, o4 + j * 2, none⟩) hg4).trans x1, (h.cell (p := ⟨g4, o4 + j * 2 + 1, none⟩) hg4).trans x2⟩
            obtain ⟨y1, y2⟩ := KX _ HBJ.out
            have HKX := Lib.hid KX
            have HGO' := Lib.hid HGO
            have HHI' := Lib.hid HHI
            clear hc4 ht x1 x2 KX HGO HHI
            go_wp2_with fail
            refine (l06Atom_any wr w5.heap.size w2.heap.size g cap rw' cp T p y A4 L2 c4 (Dc.rs m (S : Int)) hsj (HT5.out.below HBJ.out) (HR4.out.below HBJ.out) (by omega) HRM.out.2.2.1 a1 a2 HTB.out).mono ?_
            rintro e w6 ⟨rfl, hb6⟩
            have HBK := Lib.hid (HBJ.out.trans (hb6.mono hsj))
            clear hb6 y1 y2
            cases hle : Un.atB T (p, y) (Dc.rs m (S : Int)) with
            | true =>
              have HE2 := Lib.hid (HE.out.trans (HGO'.out hle))
              clear hle HE
              go_wp2
              go_roundw
              case rel => exact ⟨j + 1, by omega, by go_num, HE2.out, HBK.out⟩
              case measure => simp [intOf]; omega
            | false =>
              have HE2 := Lib.hid (HE.out.trans (HHI'.out hle))
              have HZ : Hid (Un.exR l a m = some (S, (p, y))) := by
                show _ = _
                have h := Un.fnd_some (a := a) (b := m) (HF.out.symm.trans (found_okS l)) (k := k) (by rw [HN.out]; exact hlt) (fun i hi => by rw [← getD_at]; exact HNO.out i hi) (x := (p, y)) (by rw [← getD_at, HS.out]; exact HE2.out)
                rw [h, ← getD_at, HS.out]
              obtain ⟨y1, y2⟩ := HKX.out _ HBK.out
              have HBL := Lib.hid (HBE.out.trans (HBK.out.mono (by omega)))
              have kr6 := HKS.out _ HBL.out
              have HBZ := Lib.hid (HB1.out.trans (HBL.out.mono hs1))
              have hkz := Blk.below HK1.out HBL.out hs1'
              have z0 : w6.cell? ⟨w.heap.size, 0, none⟩ = some (.int .i64 0) := hkz.cell 0
              have z1 : w6.cell? ⟨w.heap.size, 1, none⟩ = some (.int .i64 0) := hkz.cell 1
              have t0 := hkz.thawed 0
              have t1 := hkz.thawed 1
              clear hle HE
              go_wp2_with fail
              go_region
              go_wp2
              have hkf := ((Blk.put (Blk.put hkz 0 (.int .i64 p)) 1 (.int .i64 y)))
              have f0 := hkf.cell 0
              have f1 := hkf.cell 1
              refine bodyPost_ret (v := fstV (Un.exR l a m)) ?_ rfl ⟨rfl, ((HBZ.out.setCell (p := ⟨w.heap.size, 0, none⟩) (by simp) _).setCell (p := ⟨w.heap.size, 1, none⟩) (by simp) _).drew⟩
              rw [HZ.out, fstV_some]
              simp at f0 f1
              simp [results, Tryz.f55, go_sem, f0, f1]
          · have hjj : ¬ (j : Int) < (L1 : Int) := by omega
            have HNX : Hid (∀ i, i < k + 1 → Un.ex1 l a m (F.getD i 0) = none) := fun i hi => by
              by_cases e : i = k
              · subst e
                rw [HS.out, HE.out]
                exact Un.exL_end (by show (Nm.rnorm (Nm.wl (S : Int) a)).length ≤ j; rw [HL1.out]; omega)
              · exact HNO.out i (by omega)
            have HBL := Lib.hid (HBE.out.trans (HBJ.out.mono (by omega)))
            go_wp2
            go_roundw
            case rel => exact ⟨k + 1, by omega, by go_num, HNX.out, HBL.out⟩
            case measure => simp [intOf]; omega
      · exact absurd (hf.symm.trans HFL.out) (by decide)
    · have hkk : ¬ (k : Int) < (N : Int) := by omega
      have HZ : Hid (Un.exR l a m = none) := Un.fnd_none (HF.out.symm.trans (found_okS l)) fun i hi => by rw [← getD_at]; exact HNO.out i (by have := HN.out; omega)
      have HBZ := Lib.hid (HB1.out.trans (HBR.out.mono hs1))
      have hkz := Blk.below HK1.out HBR.out hs1'
      have z0 : wr.cell? ⟨w.heap.size, 0, none⟩ = some (.int .i64 0) := hkz.cell 0
      have z1 : wr.cell? ⟨w.heap.size, 1, none⟩ = some (.int .i64 0) := hkz.cell 1
      have t0 := hkz.thawed 0
      have t1 := hkz.thawed 1
      go_wp2
      have hkf := ((Blk.put (Blk.put hkz 0 (.int .i64 0)) 1 (.int .i64 0)))
      have f0 := hkf.cell 0
      have f1 := hkf.cell 1
      refine bodyPost_ret (v := fstV (Un.exR l a m)) ?_ rfl ⟨rfl, (HBZ.out.setCell (p := ⟨w.heap.size, 0, none⟩) (by simp) _).setCell (p := ⟨w.heap.size, 1, none⟩) (by simp) _⟩
      rw [HZ.out, fstV_none]
      simp at f0 f1
      simp [results, Tryz.f55, go_sem, f0, f1]

/-- comparison under constraints -/
noncomputable def leUnR (l : List Cn) (a b : List (Int × Int)) : Bool := consOkR l && (Lv.levelOk a && (Lv.levelOk b && (Un.exR l a b).isNone))
theorem leUnR_c {l : List Cn} {a b : List (Int × Int)} (h : consOkR l = false) : leUnR l a b = false := by unfold leUnR; rw [h]; rfl
theorem leUnR_a {l : List Cn} {a b : List (Int × Int)} (h : Lv.levelOk a = false) : leUnR l a b = false := by unfold leUnR; rw [h, Bool.false_and, Bool.and_false]
theorem leUnR_b {l : List Cn} {a b : List (Int × Int)} (h : Lv.levelOk b = false) : leUnR l a b = false := by unfold leUnR; rw [h, Bool.false_and, Bool.and_false, Bool.and_false]
theorem leUnR_y {l : List Cn} {a b : List (Int × Int)} (h : consOkR l = true) (h1 : Lv.levelOk a = true) (h2 : Lv.levelOk b = true) : leUnR l a b = (Un.exR l a b).isNone := by unfold leUnR; rw [h, h1, h2, Bool.true_and, Bool.true_and, Bool.true_and]
def rightR (l : List Cn) (a b : List (Int × Int)) : Bool := consOkR l && (Lv.levelOk a && Lv.levelOk b)
set_option maxRecDepth 100000 in
set_option maxHeartbeats 1600000 in
theorem l06Right_any (w : World) (B b off n c : Nat) (l : List Cn) (A1 : Option Addr) (n1 c1 : Nat) (a : List (Int × Int)) (A2 : Option Addr) (n2 c2 : Nat) (m : List (Int × Int)) (hB : B ≤ w.heap.size) (hl : ConR w B (some ⟨b, off, none⟩) n l) (hn : (n : Int) ≤ 140737488355328)
    (ha : TokR w B A1 n1 a) (hn1 : (n1 : Int) ≤ 140737488355328) (hm : TokR w B A2 n2 m) (hn2 : (n2 : Int) ≤ 140737488355328) :
    Calls Tryz.prog 54 #[.slice (some ⟨b, off, none⟩) n c, .slice A1 n1 c1, .slice A2 n2 c2] w fun e w' => e = .returned (.bool (rightR l a m)) ∧ Below w.heap.size w w' := by
  have HL := Lib.hid hl
  have HA := Lib.hid ha
  have HM := Lib.hid hm
  clear hl ha hm
  go_enter Tryz.func54, Tryz.ntmps54
  go_wp2_with fail
  refine (specConsOk_any w B (some ⟨b, off, none⟩) n c l hB HL.out hn).mono ?_
  rintro e w1 ⟨rfl, hb1⟩
  have HB1 := Lib.hid hb1
  have hs1 := hb1.size
  clear hb1
  cases h1 : consOkR l with
  | false =>
    have HF : Hid (rightR l a m = false) := by show _ = _; unfold rightR; rw [h1]; rfl
    clear h1
    go_wp2
    go_ret
    exact ⟨by rw [HF.out]; rfl, HB1.out⟩
  | true =>
    have H1 := Lib.hid h1
    clear h1
    go_wp2_with fail
    refine (specOk_any w1 B A1 n1 c1 a (by omega) (HA.out.below (HB1.out.mono hB)) hn1).mono ?_
    rintro e w2 ⟨rfl, hb2⟩
    have HB2 := Lib.hid (HB1.out.trans (hb2.mono hs1))
    have hs2 := hb2.size
    clear hb2
    cases h2 : Lv.levelOk a with
    | false =>
      have HF : Hid (rightR l a m = false) := by show _ = _; unfold rightR; rw [h2, Bool.false_and, Bool.and_false]
      clear h2
      go_wp2
      go_ret
      exact ⟨by rw [HF.out]; rfl, HB2.out⟩
    | true =>
      have H2 := Lib.hid h2
      clear h2
      go_wp2_with fail
      refine (specOk_any w2 B A2 n2 c2 m (by omega) (HM.out.below (HB2.out.mono hB)) hn2).mono ?_
      rintro e w3 ⟨rfl, hb3⟩
      have HF : Hid (rightR l a m = Lv.levelOk m) := by show _ = _; unfold rightR; rw [H1.out, H2.out]; rfl
      have HB3 := Lib.hid (HB2.out.trans (hb3.mono (by omega)))
      obtain ⟨R, hR⟩ : ∃ R, Lv.levelOk m = R := ⟨_, rfl⟩
      rw [hR] at HF ⊢
      clear hb3 hR
      go_wp2
      go_ret
      exact ⟨by rw [HF.out]; rfl, HB3.out⟩

theorem rightR_no {l : List Cn} {a b : List (Int × Int)} (h : rightR l a b = false) : leUnR l a b = false := by
  unfold rightR at h
  unfold leUnR
  cases h1 : consOkR l with
  | false => rfl
  | true =>
    rw [h1, Bool.true_and] at h
    cases h2 : Lv.levelOk a with
    | false => rfl
    | true =>
      rw [h2, Bool.true_and] at h
      rw [h]
      rfl
theorem rightR_yes {l : List Cn} {a b : List (Int × Int)} (h : rightR l a b = true) : consOkR l = true ∧ Lv.levelOk a = true ∧ Lv.levelOk b = true := by
  unfold rightR at h
  rw [Bool.and_eq_true, Bool.and_eq_true] at h
  exact h
set_option maxRecDepth 100000 in
set_option maxHeartbeats 1600000 in
theorem specLeUnder_any (w : World) (B b off n c : Nat) (l : List Cn) (A1 : Option Addr) (n1 c1 : Nat) (a : List (Int × Int)) (A2 : Option Addr) (n2 c2 : Nat) (m : List (Int × Int)) (hB : B ≤ w.heap.size) (hl : ConR w B (some ⟨b, off, none⟩) n l) (hn : (n : Int) ≤ 140737488355328)
    (ha : TokR w B A1 n1 a) (hn1 : (n1 : Int) ≤ 140737488355328) (hm : TokR w B A2 n2 m) (hn2 : (n2 : Int) ≤ 140737488355328) :
    Calls Tryz.prog 14 #[.slice (some ⟨b, off, none⟩) n c, .slice A1 n1 c1, .slice A2 n2 c2] w fun e w' => e = .returned (.bool (leUnR l a m)) ∧ Below w.heap.size w w' := by
  have HL := Lib.hid hl
  have HA := Lib.hid ha
  have HM := Lib.hid hm
  clear hl ha hm
  go_enter Tryz.func14, Tryz.ntmps14
  go_wp2_with fail
  refine (l06Right_any w B b off n c l A1 n1 c1 a A2 n2 c2 m hB HL.out hn HA.out hn1 HM.out hn2).mono ?_
  rintro e w1 ⟨rfl, hb1⟩
  have HB1 := Lib.hid hb1
  have hs1 := hb1.size
  clear hb1
  cases h1 : rightR l a m with
  | false =>
    have HF := Lib.hid (rightR_no h1)
    clear h1
    go_wp2
    go_ret
    exact ⟨by rw [HF.out]; rfl, HB1.out⟩
  | true =>
    have HP := Lib.hid (rightR_yes h1)
    clear h1
    go_wp2_with fail
    refine (l06First_any w1 B b off n c l A1 n1 c1 a A2 n2 c2 m (by omega) (HL.out.below (HB1.out.mono hB)) hn (HA.out.below (HB1.out.mono hB)) hn1 (HM.out.below (HB1.out.mono hB)) hn2 HP.out.1 HP.out.2.1 HP.out.2.2).mono ?_
    rintro e w2 ⟨rfl, hb2⟩
    have HB2 := Lib.hid (HB1.out.trans (hb2.mono hs1))
    clear hb2
    cases hr : Un.exR l a m with
    | none =>
      have HF : Hid (leUnR l a m = true) := by show _ = _; rw [leUnR_y HP.out.1 HP.out.2.1 HP.out.2.2, hr]; rfl
      rw [fstV_none]
      clear hr
      go_wp2
      go_ret
      exact ⟨by rw [HF.out]; rfl, HB2.out.alloc HB2.out.size _⟩
    | some r =>
      obtain ⟨S, p, x⟩ := r
      have HF : Hid (leUnR l a m = false) := by show _ = _; rw [leUnR_y HP.out.1 HP.out.2.1 HP.out.2.2, hr]; rfl
      rw [fstV_some]
      have hd : decide ((S : Int) < 0) = false := by simp
      clear hr
      go_wp2
      go_ret
      exact ⟨by rw [HF.out]; rfl, HB2.out.alloc HB2.out.size _⟩
end Go.Proofs.YtgebjnoicgmdoaaGreatDoor

namespace Go.Proofs.YtgebjnoicgmdoaaGreatDoor
open Go.RowKit
open Cs (Cn Tb)

/-- compareUnder gives back nil just where the first level is at most the second one -/
theorem cmpV_le (l : List Cn) (a b : List (Int × Int)) (Tc : TypeId) (pc : Value) (T : TypeId) (pv : Value) :
    (cmpV l a b Tc pc T pv = .nilIface ∧ leUnR l a b = true) ∨ ((∃ t v, cmpV l a b Tc pc T pv = .iface t v) ∧ leUnR l a b = false) := by
  cases h : consOkR l with
  | false => exact .inr ⟨⟨_, _, cmpV_c h⟩, leUnR_c h⟩
  | true =>
    cases h1 : Lv.levelOk a with
    | false => exact .inr ⟨⟨_, _, cmpV_a h (fun q => by rw [h1] at q; cases q.1)⟩, leUnR_a h1⟩
    | true =>
      cases h2 : Lv.levelOk b with
      | false => exact .inr ⟨⟨_, _, cmpV_a h (fun q => by rw [h2] at q; cases q.2)⟩, leUnR_b h2⟩
      | true =>
        rw [cmpV_y h ⟨h1, h2⟩, leUnR_y h h1 h2]
        cases Un.exR l a b with
        | none => exact .inl ⟨rfl, rfl⟩
        | some r => exact .inr ⟨⟨_, _, rfl⟩, rfl⟩

set_option maxRecDepth 100000 in
set_option maxHeartbeats 1600000 in
theorem implLeUnder_any (w : World) (B : Nat) (A : Option Addr) (n c : Nat) (l : List Cn) (A1 : Option Addr) (n1 c1 : Nat) (a : List (Int × Int)) (A2 : Option Addr) (n2 c2 : Nat) (m : List (Int × Int)) (T : TypeId) (pv : Value) (Tc : TypeId) (pc : Value) (h0 : 1 < B) (h0c : 0 < B) (hB : B ≤ w.heap.size)
    (hA : SlOk A n c) (hl : ConR w B A n l) (hn : (n : Int) ≤ 140737488355328) (ha : TokR w B A1 n1 a) (hn1 : (n1 : Int) ≤ 140737488355328) (hm : TokR w B A2 n2 m) (hn2 : (n2 : Int) ≤ 140737488355328) (hE : ErrAt w T pv) (hEc : ErrCAt w Tc pc) :
    Calls Tryz.prog 11 #[.slice A n c, .slice A1 n1 c1, .slice A2 n2 c2] w fun e w' => e = .returned (.bool (leUnR l a m)) ∧ Below w.heap.size w w' := by
  have HE := Lib.hid hE
  have HEc := Lib.hid hEc
  have HL := Lib.hid hl
  have HA := Lib.hid ha
  have HM := Lib.hid hm
  clear hE hEc hl ha hm
  go_enter Tryz.func11, Tryz.ntmps11
  go_wp2_with fail
  refine (compareUnder_any w B A n c l A1 n1 c1 a A2 n2 c2 m T pv Tc pc h0 h0c hB hA HL.out hn HA.out hn1 HM.out hn2 HE.out HEc.out).mono ?_
  rintro e w1 ⟨rfl, hb1⟩
  have HB1 := Lib.hid hb1
  clear hb1
  rcases cmpV_le l a m Tc pc T pv with ⟨hv, hr⟩ | ⟨⟨t, v, hv⟩, hr⟩
  · have HR := Lib.hid hr
    rw [hv]
    clear hv hr
    go_wp2
    go_ret
    exact ⟨by rw [HR.out]; rfl, HB1.out⟩
  · have HR := Lib.hid hr
    rw [hv]
    clear hv hr
    go_wp2
    go_ret
    exact ⟨by rw [HR.out]; rfl, HB1.out⟩
end Go.Proofs.YtgebjnoicgmdoaaGreatDoor

namespace Go.Proofs.YtgebjnoicgmdoaaGreatDoor
open Go.RowKit
open Cs (Cn)

theorem flatMap_eq {f g : Nat → List Value} : ∀ {l : List Nat}, (∀ i ∈ l, f i = g i) → l.flatMap f = l.flatMap g
  | [], _ => rfl
  | x :: l, h => by rw [List.flatMap_cons, List.flatMap_cons, h x (by simp), flatMap_eq fun i hi => h i (by simp [hi])]
abbrev Pr := List (Int × Int) × Bool × List (Int × Int)
abbrev pr0 : Pr := ([], false, [])
/-- the cells of a row of pairs -/
def pairV (rb rc : Nat → Nat) (ps : List Pr) (i : Nat) : List Value := [.slice (some ⟨rb (2 * i), 0, none⟩) (ps.getD i pr0).1.length (rc (2 * i)), .bool (ps.getD i pr0).2.1, .slice (some ⟨rb (2 * i + 1), 0, none⟩) (ps.getD i pr0).2.2.length (rc (2 * i + 1))]
def pairVs (rb rc : Nat → Nat) (ps : List Pr) : List Value := (List.range ps.length).flatMap (pairV rb rc ps)
structure PairO (w : World) (base : Nat) (A : Option Addr) (cap n : Nat) (ps : List Pr) (rb rc : Nat → Nat) : Prop where
  len : ps.length = n
  out : w.ownsRow base 124 3 (.slice A n cap) n (pairVs rb rc ps)
  rowA : ∀ i, i < n → OwnT w base (some ⟨rb (2 * i), 0, none⟩) (ps.getD i pr0).1.length (rc (2 * i)) (ps.getD i pr0).1
  rowB : ∀ i, i < n → OwnT w base (some ⟨rb (2 * i + 1), 0, none⟩) (ps.getD i pr0).2.2.length (rc (2 * i + 1)) (ps.getD i pr0).2.2
  inj : ∀ i j, i < 2 * n → j < 2 * n → rb i = rb j → i = j
section
variable {w w' : World} {base n cap : Nat} {A : Option Addr} {ps : List Pr} {rb rc : Nat → Nat}
theorem PairO.below (h : PairO w base A cap n ps rb rc) (hb : Below w.heap.size w w') : PairO w' base A cap n ps rb rc :=
  ⟨h.len, own_below' h.out hb, fun i hi => own_below' (h.rowA i hi) hb, fun i hi => own_below' (h.rowB i hi) hb, h.inj⟩
theorem PairO.lt (h : PairO w base A cap n ps rb rc) {i : Nat} (hi : i < 2 * n) : rb i < w.heap.size := by
  rcases Nat.mod_two_eq_zero_or_one i with e | e
  · have := ((h.rowA (i / 2) (by omega)).lt (rb (2 * (i / 2))) rfl).2
    rwa [show 2 * (i / 2) = i by omega] at this
  · have := ((h.rowB (i / 2) (by omega)).lt (rb (2 * (i / 2) + 1)) rfl).2
    rwa [show 2 * (i / 2) + 1 = i by omega] at this
theorem PairO.nil (w : World) (base : Nat) (rb rc : Nat → Nat) : PairO w base none 0 0 [] rb rc :=
  ⟨rfl, World.ownsRow_nil _ _ _ _, fun i hi => absurd hi (by omega), fun i hi => absurd hi (by omega), fun i j hi => absurd hi (by omega)⟩
/-- the blocks and capacities with two more -/
def ins (f : Nat → Nat) (n x y : Nat) : Nat → Nat := fun i => if i = 2 * n then x else if i = 2 * n + 1 then y else f i
theorem ins_a (f : Nat → Nat) (n x y : Nat) : ins f n x y (2 * n) = x := if_pos rfl
theorem ins_b (f : Nat → Nat) (n x y : Nat) : ins f n x y (2 * n + 1) = y := by unfold ins; rw [if_neg (by omega), if_pos rfl]
theorem ins_o (f : Nat → Nat) {n i : Nat} (x y : Nat) (h : i < 2 * n) : ins f n x y i = f i := by unfold ins; rw [if_neg (by omega), if_neg (by omega)]
theorem getP_old {ps : List Pr} {i : Nat} (t : Pr) (h : i < ps.length) : (ps ++ [t]).getD i pr0 = ps.getD i pr0 := by
  simp [List.getD_eq_getElem?_getD, List.getElem?_append_left h]
theorem getP_new (ps : List Pr) (t : Pr) : (ps ++ [t]).getD ps.length pr0 = t := by
  simp [List.getD_eq_getElem?_getD]
theorem pairVs_snoc (rb rc : Nat → Nat) (ps : List Pr) (x y cx cy : Nat) (t : Pr) : pairVs (ins rb ps.length x y) (ins rc ps.length cx cy) (ps ++ [t]) = pairVs rb rc ps ++ [.slice (some ⟨x, 0, none⟩) t.1.length cx, .bool t.2.1, .slice (some ⟨y, 0, none⟩) t.2.2.length cy] := by
  unfold pairVs
  rw [List.length_append, List.length_singleton, List.range_succ, List.flatMap_append]
  congr 1
  · apply flatMap_eq
    intro i hi
    rw [List.mem_range] at hi
    unfold pairV
    rw [getP_old t hi, ins_o _ _ _ (by omega), ins_o _ _ _ (by omega), ins_o _ _ _ (by omega), ins_o _ _ _ (by omega)]
  · simp only [List.flatMap_cons, List.flatMap_nil, List.append_nil, pairV]
    rw [getP_new, ins_a, ins_b, ins_a, ins_b]
/-- one pair more -/
theorem PairO.add {g' cap' x y cx cy : Nat} {t : Pr} {row : Option Nat} (h : PairO w base A cap n ps rb rc) (hr : row = (Value.slice A n cap).ownBlock) (hg : w.grownBy w' row) (hx : OwnT w base (some ⟨x, 0, none⟩) t.1.length cx t.1) (hy : OwnT w base (some ⟨y, 0, none⟩) t.2.2.length cy t.2.2)
    (hxy : x ≠ y) (hxo : ∀ i, i < 2 * n → rb i ≠ x) (hyo : ∀ i, i < 2 * n → rb i ≠ y)
    (hown : w'.ownsRow base 124 3 (.slice (some ⟨g', 0, none⟩) (n + 1) cap') (n + 1) (pairVs rb rc ps ++ [.slice (some ⟨x, 0, none⟩) t.1.length cx, .bool t.2.1, .slice (some ⟨y, 0, none⟩) t.2.2.length cy])) :
    PairO w' base (some ⟨g', 0, none⟩) cap' (n + 1) (ps ++ [t]) (ins rb n x y) (ins rc n cx cy) := by
  have keep : ∀ {z m c : Nat} {l : List (Int × Int)}, OwnT w base (some ⟨z, 0, none⟩) m c l → OwnT w' base (some ⟨z, 0, none⟩) m c l := fun hz => hz.kept hg (by
    rcases own_apartK hz h.out (by decide) with q | q
    · exact .inl q
    · exact .inr (by rw [hr]; exact fun e => q e))
  have hl := h.len
  subst hl
  refine ⟨by simp, by rw [pairVs_snoc]; exact hown, fun i hi => ?_, fun i hi => ?_, fun i j hi hj e => ?_⟩
  · by_cases e : i = ps.length
    · subst e
      rw [getP_new, ins_a, ins_a]
      exact keep hx
    · rw [getP_old t (by omega), ins_o _ _ _ (by omega), ins_o _ _ _ (by omega)]
      exact keep (h.rowA i (by omega))
  · by_cases e : i = ps.length
    · subst e
      rw [getP_new, ins_b, ins_b]
      exact keep hy
    · rw [getP_old t (by omega), ins_o _ _ _ (by omega), ins_o _ _ _ (by omega)]
      exact keep (h.rowB i (by omega))
  · have key : ∀ k, k < 2 * (ps.length + 1) → k < 2 * ps.length ∨ k = 2 * ps.length ∨ k = 2 * ps.length + 1 := fun k hk => by omega
    rcases key i hi with hi' | rfl | rfl <;> rcases key j hj with hj' | rfl | rfl
    · rw [ins_o _ _ _ hi', ins_o _ _ _ hj'] at e
      exact h.inj i j hi' hj' e
    · rw [ins_o _ _ _ hi', ins_a] at e
      exact absurd e (hxo i hi')
    · rw [ins_o _ _ _ hi', ins_b] at e
      exact absurd e (hyo i hi')
    · rw [ins_o _ _ _ hj', ins_a] at e
      exact absurd e.symm (hxo j hj')
    · rfl
    · rw [ins_a, ins_b] at e
      exact absurd e hxy
    · rw [ins_o _ _ _ hj', ins_b] at e
      exact absurd e.symm (hyo j hj')
    · rw [ins_a, ins_b] at e
      exact absurd e.symm hxy
    · rfl
end
theorem info_pair : (Tryz.prog.info? 124).map (fun i => (i.zero, i.size, i.bytes)) = some (some (.agg #[.slice none 0 0, .bool false, .slice none 0 0]), 3, 56) := by kernel_rfl
end Go.Proofs.YtgebjnoicgmdoaaGreatDoor
