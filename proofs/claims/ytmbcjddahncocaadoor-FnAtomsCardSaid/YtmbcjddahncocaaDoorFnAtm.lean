/- The law FnAtoms: the walk. -/
import Derived.Test.YtmbcjddahncocaaDoorRsMath
import Derived.Test.YtmbcjddahncocaaDoorRegInvIn
import Derived.Test.YtmbcjddahncocaaDoorUnLe
import Derived.Test.YtmbcjddahncocaaDoorSigns2
import Derived.Deep.RegionHeld3

namespace Go.Proofs.YtmbcjddahncocaaDoor
open Go.RowKit
open Cs (Cn Tb)

theorem rok_alone {s : Int} {l : List (Int × Int)} (h : Nm.ROk s l) {j : Nat} (hj : j < l.length) : Nm.residOk s [l.getD j (0, 0)] = true := by
  rw [Nm.residOk_iff]
  refine ⟨h.1, Nat.le_refl _, fun k hk => ?_, fun k h1 hk => absurd hk (by show ¬ k < 1; omega), fun k hk => ?_, fun _ k hk => absurd hk (by simp)⟩
  · obtain rfl : k = 0 := Nat.lt_one_iff.1 hk
    exact h.2.2.1 j hj
  · obtain rfl : k = 0 := Nat.lt_one_iff.1 hk
    exact h.2.2.2.2.1 j hj
/-- all of the first k signs have come out none -/
noncomputable def aT (l : List Cn) (a b : List (Int × Int)) (F : List Nat) (k : Nat) : Bool := (List.range k).all fun j => (Un.ex1 l a b (F.getD j 0)).isNone
theorem aT_zero (l : List Cn) (a b : List (Int × Int)) (F : List Nat) : aT l a b F 0 = true := rfl
theorem aT_succ (l : List Cn) (a b : List (Int × Int)) (F : List Nat) (k : Nat) : aT l a b F (k + 1) = (aT l a b F k && (Un.ex1 l a b (F.getD k 0)).isNone) := by
  unfold aT
  rw [List.range_succ, List.all_append]
  simp
/-- the first k atoms are at most the list -/
def bT (T : Tb) (rb ra : List (Int × Int)) (k : Nat) : Bool := (ra.take k).all fun x => Un.atB T x rb
theorem bT_zero (T : Tb) (rb ra : List (Int × Int)) : bT T rb ra 0 = true := rfl
theorem bT_succ {T : Tb} {rb ra : List (Int × Int)} {k : Nat} (hk : k < ra.length) : bT T rb ra (k + 1) = (bT T rb ra k && Un.atB T (ra.getD k (0, 0)) rb) := by
  unfold bT
  rw [List.take_succ_eq_append_getElem hk, List.all_append, List.getD_eq_getElem?_getD, List.getElem?_eq_getElem hk]
  simp
theorem bT_all {T : Tb} {rb ra : List (Int × Int)} {k : Nat} (hk : ra.length ≤ k) : bT T rb ra k = (Un.exL T rb ra).isNone := by
  unfold bT
  rw [List.take_of_length_le hk, Bool.eq_iff_iff, List.all_eq_true, Option.isNone_iff_eq_none, Un.exL_none]
theorem aT_all {l : List Cn} {a b : List (Int × Int)} {F : List Nat} (hF : F = (List.range 32).filter (Un.okS l)) (hc : consOkR l = true) (ha : Lv.levelOk a = true) (hb : Lv.levelOk b = true) : leUnR l a b = aT l a b F F.length := by
  rw [leUnR_y hc ha hb, Bool.eq_iff_iff, Option.isNone_iff_eq_none]
  unfold aT
  rw [List.all_eq_true]
  constructor
  · intro h k hk
    rw [List.mem_range] at hk
    rw [Option.isNone_iff_eq_none]
    have hm : ∀ x, x ∈ F → x < 32 := fun x hx => by rw [hF, List.mem_filter, List.mem_range] at hx; exact hx.1
    exact Un.exR_no h _ (hm _ (by rw [getD_at hk]; exact List.getElem_mem _))
  · intro h
    refine Un.fnd_none hF fun i hi => ?_
    have := h i (List.mem_range.2 hi)
    rw [Option.isNone_iff_eq_none, getD_at hi] at this
    exact this

set_option maxRecDepth 100000 in
set_option maxHeartbeats 16000000 in
theorem fnAtoms_any (w : World) (B : Nat) (A : Option Addr) (n c : Nat) (T : TypeId) (pv : Value) (Tc : TypeId) (pc : Value) (h0 : 0 < B) (h0c : 1 < B) (hB : B ≤ w.heap.size)
    (hb : BytR w B A n) (_hnc : n ≤ c) (hE : ErrAt w T pv) (hEc : ErrCAt w Tc pc) :
    Calls Tryd.prog 6 #[.slice A n c] w fun e w' => e = .returned (.bool true) ∧ Below w.heap.size w w' := by
  by_cases hbig : 1048576 < (n : Int)
  · go_enter Tryd.func6, Tryd.ntmps6
    go_wp2_with fail
    refine (big_any w A n c).mono ?_
    rintro e w' ⟨rfl, rfl⟩
    rw [decide_eq_true (by omega)]
    go_wp2
    go_ret
    exact ⟨rfl, Below.refl _ _⟩
  · have hn : n ≤ 1048576 := by omega
    go_enter Tryd.func6, Tryd.ntmps6
    go_wp2_with fail
    refine (big_any w A n c).mono ?_
    rintro e w' ⟨rfl, rfl⟩
    rw [decide_eq_false (by omega)]
    have HB0 : Hid (Below w.heap.size w w) := Below.refl _ _
    go_wp2_with fail
    refine (drawWitness_any w B A n c hB hb hn).mono ?_
    rintro e w1 ⟨⟨g, cap, m, l, Aa, na, ca, la, Ab, nb, cb, lb, rfl, hm, hna, hnb, hol, hoa, hob⟩, hb1⟩
    have HB1 := Lib.hid hb1
    have Rl1 := Lib.hid hol
    have Ra1 := Lib.hid hoa
    have Rb1 := Lib.hid hob
    have hs1 := hb1.size
    have HLL : Hid (l.length = m) := (OwnC.reads hol).1
    clear hol hoa hob hb1
    cases hc : consOkR l with
    | false =>
      have HC := Lib.hid hc
      have HN := Lib.hid (leUnR_c (a := la) (b := lb) hc)
      clear hc
      go_wp2_with fail
      refine (specConsOk_any w1 w1.heap.size (some ⟨g, 0, none⟩) m cap l (Nat.le_refl _) (OwnC.reads Rl1.out) (by omega)).mono ?_
      rintro e w2 ⟨rfl, hb⟩
      have HB2 := Lib.hid (HB1.out.trans (hb.mono HB1.out.size))
      have Rl2 := Lib.hid (own_below' Rl1.out hb)
      have Ra2 := Lib.hid (own_below' Ra1.out hb)
      have Rb2 := Lib.hid (own_below' Rb1.out hb)
      clear hb Rl1 Ra1 Rb1 HB1
      rw [HC.out]
      go_wp2_with fail
      refine (implLeUnder_any w2 w2.heap.size (some ⟨g, 0, none⟩) m cap l Aa na ca la Ab nb cb lb T pv Tc pc (Nat.lt_of_lt_of_le h0 (Nat.le_trans hB HB2.out.size)) (Nat.lt_of_lt_of_le h0c (Nat.le_trans hB HB2.out.size)) (Nat.le_refl _) (.inl ⟨_, _, rfl⟩) (OwnC.reads Rl2.out) (by omega) (OwnT.reads Ra2.out) (by omega) (OwnT.reads Rb2.out) (by omega) (hE.below (HB2.out.mono hB) h0) (hEc.below (HB2.out.mono hB) h0c)).mono ?_
      rintro e w3 ⟨rfl, hb⟩
      have HB3 := Lib.hid (HB2.out.trans (hb.mono HB2.out.size))
      have Rl3 := Lib.hid (own_below' Rl2.out hb)
      have Ra3 := Lib.hid (own_below' Ra2.out hb)
      have Rb3 := Lib.hid (own_below' Rb2.out hb)
      clear hb Rl2 Ra2 Rb2 HB2
      rw [HN.out]
      go_wp2
      go_ret
      exact ⟨rfl, HB3.out⟩
    | true =>
      have HC := Lib.hid hc
      clear hc
      go_wp2_with fail
      refine (specConsOk_any w1 w1.heap.size (some ⟨g, 0, none⟩) m cap l (Nat.le_refl _) (OwnC.reads Rl1.out) (by omega)).mono ?_
      rintro e w2 ⟨rfl, hb⟩
      have HB2 := Lib.hid (HB1.out.trans (hb.mono HB1.out.size))
      have Rl2 := Lib.hid (own_below' Rl1.out hb)
      have Ra2 := Lib.hid (own_below' Ra1.out hb)
      have Rb2 := Lib.hid (own_below' Rb1.out hb)
      clear hb Rl1 Ra1 Rb1 HB1
      rw [HC.out]
      cases hla : Lv.levelOk la with
      | false =>
        have HOA := Lib.hid hla
        have HN := Lib.hid (leUnR_a (l := l) (b := lb) hla)
        clear hla
        go_wp2_with fail
        refine (specOk_any w2 w2.heap.size Aa na ca la (Nat.le_refl _) (OwnT.reads Ra2.out) (by omega)).mono ?_
        rintro e w3 ⟨rfl, hb⟩
        have HB3 := Lib.hid (HB2.out.trans (hb.mono HB2.out.size))
        have Rl3 := Lib.hid (own_below' Rl2.out hb)
        have Ra3 := Lib.hid (own_below' Ra2.out hb)
        have Rb3 := Lib.hid (own_below' Rb2.out hb)
        clear hb Rl2 Ra2 Rb2 HB2
        rw [HOA.out]
        go_wp2_with fail
        refine (implLeUnder_any w3 w3.heap.size (some ⟨g, 0, none⟩) m cap l Aa na ca la Ab nb cb lb T pv Tc pc (Nat.lt_of_lt_of_le h0 (Nat.le_trans hB HB3.out.size)) (Nat.lt_of_lt_of_le h0c (Nat.le_trans hB HB3.out.size)) (Nat.le_refl _) (.inl ⟨_, _, rfl⟩) (OwnC.reads Rl3.out) (by omega) (OwnT.reads Ra3.out) (by omega) (OwnT.reads Rb3.out) (by omega) (hE.below (HB3.out.mono hB) h0) (hEc.below (HB3.out.mono hB) h0c)).mono ?_
        rintro e w4 ⟨rfl, hb⟩
        have HB4 := Lib.hid (HB3.out.trans (hb.mono HB3.out.size))
        have Rl4 := Lib.hid (own_below' Rl3.out hb)
        have Ra4 := Lib.hid (own_below' Ra3.out hb)
        have Rb4 := Lib.hid (own_below' Rb3.out hb)
        clear hb Rl3 Ra3 Rb3 HB3
        rw [HN.out]
        go_wp2
        go_ret
        exact ⟨rfl, HB4.out⟩
      | true =>
        have HOA := Lib.hid hla
        clear hla
        go_wp2_with fail
        refine (specOk_any w2 w2.heap.size Aa na ca la (Nat.le_refl _) (OwnT.reads Ra2.out) (by omega)).mono ?_
        rintro e w3 ⟨rfl, hb⟩
        have HB3 := Lib.hid (HB2.out.trans (hb.mono HB2.out.size))
        have Rl3 := Lib.hid (own_below' Rl2.out hb)
        have Ra3 := Lib.hid (own_below' Ra2.out hb)
        have Rb3 := Lib.hid (own_below' Rb2.out hb)
        clear hb Rl2 Ra2 Rb2 HB2
        rw [HOA.out]
        cases hlb : Lv.levelOk lb with
        | false =>
          have HOB := Lib.hid hlb
          have HN := Lib.hid (leUnR_b (l := l) (a := la) hlb)
          clear hlb
          go_wp2_with fail
          refine (specOk_any w3 w3.heap.size Ab nb cb lb (Nat.le_refl _) (OwnT.reads Rb3.out) (by omega)).mono ?_
          rintro e w4 ⟨rfl, hb⟩
          have HB4 := Lib.hid (HB3.out.trans (hb.mono HB3.out.size))
          have Rl4 := Lib.hid (own_below' Rl3.out hb)
          have Ra4 := Lib.hid (own_below' Ra3.out hb)
          have Rb4 := Lib.hid (own_below' Rb3.out hb)
          clear hb Rl3 Ra3 Rb3 HB3
          rw [HOB.out]
          go_wp2_with fail
          refine (implLeUnder_any w4 w4.heap.size (some ⟨g, 0, none⟩) m cap l Aa na ca la Ab nb cb lb T pv Tc pc (Nat.lt_of_lt_of_le h0 (Nat.le_trans hB HB4.out.size)) (Nat.lt_of_lt_of_le h0c (Nat.le_trans hB HB4.out.size)) (Nat.le_refl _) (.inl ⟨_, _, rfl⟩) (OwnC.reads Rl4.out) (by omega) (OwnT.reads Ra4.out) (by omega) (OwnT.reads Rb4.out) (by omega) (hE.below (HB4.out.mono hB) h0) (hEc.below (HB4.out.mono hB) h0c)).mono ?_
          rintro e w5 ⟨rfl, hb⟩
          have HB5 := Lib.hid (HB4.out.trans (hb.mono HB4.out.size))
          have Rl5 := Lib.hid (own_below' Rl4.out hb)
          have Ra5 := Lib.hid (own_below' Ra4.out hb)
          have Rb5 := Lib.hid (own_below' Rb4.out hb)
          clear hb Rl4 Ra4 Rb4 HB4
          rw [HN.out]
          go_wp2
          go_ret
          exact ⟨rfl, HB5.out⟩
        | true =>
          have HOB := Lib.hid hlb
          clear hlb
          go_wp2_with fail
          refine (specOk_any w3 w3.heap.size Ab nb cb lb (Nat.le_refl _) (OwnT.reads Rb3.out) (by omega)).mono ?_
          rintro e w4 ⟨rfl, hb⟩
          have HB4 := Lib.hid (HB3.out.trans (hb.mono HB3.out.size))
          have Rl4 := Lib.hid (own_below' Rl3.out hb)
          have Ra4 := Lib.hid (own_below' Ra3.out hb)
          have Rb4 := Lib.hid (own_below' Rb3.out hb)
          clear hb Rl3 Ra3 Rb3 HB3
          rw [HOB.out]
          have hm24 : m ≤ 24 := by have h := (consOkR_ok HC.out).2; rw [HLL.out] at h; exact h
          obtain ⟨F, hF⟩ : ∃ F, Cs.foundI (gS l) 32 = F := ⟨_, rfl⟩
          obtain ⟨N, hN⟩ : ∃ N, F.length = N := ⟨_, rfl⟩
          have hsg : signsR l = natI F := (signs_eq HC.out).trans (by rw [hF])
          have hsl : (signsR l).length = N := by rw [hsg, natI_len, hN]
          have hN32 : N ≤ 32 := by rw [← hN, ← hF]; exact Cs.foundI_len _ _
          have HF := Lib.hid hF
          have HN := Lib.hid hN
          have HAT := Lib.hid (aT_all (HF.out.symm.trans (found_okS l)) HC.out HOA.out HOB.out)
          clear hF hN
          go_wp2_with fail
          refine (implConsSigns_any w4 w4.heap.size g 0 m cap l (Nat.le_refl _) (OwnC.reads Rl4.out) (by omega)).mono ?_
          rintro e ws ⟨Ao, co, rfl, ho1, hb'⟩
          rw [hsl]
          rw [hsl, hsg] at ho1
          have HI := Lib.hid (OwnI.reads ho1)
          have HBs := Lib.hid (HB4.out.trans (hb'.mono HB4.out.size))
          have RLs := Lib.hid (OwnC.reads (own_below' Rl4.out hb'))
          have RAs := Lib.hid (OwnT.reads (own_below' Ra4.out hb'))
          have RBs := Lib.hid (OwnT.reads (own_below' Rb4.out hb'))
          have hss := HBs.out.size
          clear hsg hsl ho1 hb' HB4 Rl4 Ra4 Rb4
          have hvz := aT_zero l la lb F
          go_wp2
          go_loopw [8, 7] (fun i v wr => ∃ j : Nat, j ≤ N ∧ i = .int .i64 j ∧ v = .bool (aT l la lb F j) ∧ Hid (Below ws.heap.size ws wr)) (fun i _ _ => N - (intOf i).toNat)
          case atStart => exact ⟨0, Nat.zero_le _, rfl, by rw [hvz], Below.refl _ _⟩
          case round =>
            obtain ⟨j, hj, rfl, rfl, HBR⟩ := hrel
            have hsr := HBR.out.size
            obtain ⟨V0, hV0⟩ : ∃ V0, aT l la lb F j = V0 := ⟨_, rfl⟩
            have HV0 := Lib.hid hV0
            rw [hV0]
            clear hV0 hvz
            have HBw := Lib.hid (HBs.out.trans (HBR.out.mono hss))
            by_cases hlt : j < N
            · have hki : (j : Int) < (N : Int) := by omega
              obtain ⟨S, hS⟩ : ∃ S, F.getD j 0 = S := ⟨_, rfl⟩
              have hmem : S ∈ Cs.foundI (gS l) 32 := by
                rw [HF.out, ← hS, getD_at (by rw [HN.out]; exact hlt)]
                exact List.getElem_mem _
              have hS32 := (found_mem hmem).1
              have HFL := Lib.hid (gS_no (found_mem hmem).2)
              have HSG := Lib.hid (Dc.isSign_nat hS32)
              obtain ⟨gs, os, rfl, hgs, hcs⟩ := HI.out.2 (by omega)
              have ks0 := hcs j hlt
              rw [natI_at (by rw [HN.out]; exact hlt), ← getD_at (by rw [HN.out]; exact hlt), hS] at ks0
              have KS : ∀ X : World, Below ws.heap.size ws X → X.cell? ⟨gs, os + j, none⟩ = some (.int .i64 (S : Int)) := fun X h => (h.cell (p := ⟨gs, os + j, none⟩) hgs).trans ks0
              have kr := KS _ HBR.out
              have HKS := Lib.hid KS
              have HS := Lib.hid hS
              have hpos : 0 < ws.heap.size := Nat.lt_of_lt_of_le h0 (Nat.le_trans hB hss)
              have hEs := hE.below (HBs.out.mono hB) h0
              have HQ1 := Lib.hid (implResidual_any wr ws.heap.size Aa na ca la S T pv hpos hsr (RAs.out.below HBR.out) (by omega) (hEs.below HBR.out hpos))
              rw [residR_yes ⟨HOA.out, HSG.out⟩] at HQ1
              clear hmem hcs ks0 KS hS
              go_wp2_with fail
              refine HQ1.out.mono ?_
              rintro e w4 ⟨A3, c3, rfl, ho3, hb4⟩
              simp only [Option.getD_some, Option.isSome_some] at ho3 ⊢
              obtain ⟨L1, hL1⟩ : ∃ L1, (Nm.rnorm (Nm.wl (S : Int) la)).length = L1 := ⟨_, rfl⟩
              have h61 := Nm.rnorm_len (Nm.wl (S : Int) la)
              rw [hL1] at ho3 h61 ⊢
              have hs4 := hb4.size
              have HBD := Lib.hid (HBR.out.trans (hb4.mono hsr))
              have kr4 := HKS.out _ HBD.out
              have HO3 := Lib.hid ho3
              have HL1 := Lib.hid hL1
              have HQ2 := Lib.hid (implResidual_any w4 ws.heap.size Ab nb cb lb S T pv hpos (by omega) (RBs.out.below HBD.out) (by omega) (hEs.below HBD.out hpos))
              rw [residR_yes ⟨HOB.out, HSG.out⟩] at HQ2
              clear HQ1 hb4 ho3 hL1 kr
              go_wp2_with fail
              refine HQ2.out.mono ?_
              rintro e w5 ⟨A4, c4, rfl, ho4, hb5⟩
              simp only [Option.getD_some, Option.isSome_some] at ho4 ⊢
              obtain ⟨L2, hL2⟩ : ∃ L2, (Nm.rnorm (Nm.wl (S : Int) lb)).length = L2 := ⟨_, rfl⟩
              have h62 := Nm.rnorm_len (Nm.wl (S : Int) lb)
              rw [hL2] at ho4 h62 ⊢
              have hs5 := hb5.size
              have HBE := Lib.hid (HBD.out.trans (hb5.mono (by omega)))
              have HR3 := Lib.hid (at_reads (at_below' HO3.out hb5))
              have HR4 := Lib.hid (at_reads ho4)
              have hnc4 : L2 ≤ c4 := by
                rcases ho4.2 with ⟨_, q, _⟩ | ⟨_, _, _, _, _, _, q, _⟩
                · omega
                · exact q
              have HRA := Lib.hid (Dc.rs_rok HOA.out HSG.out)
              have HRM := Lib.hid (Dc.rs_rok HOB.out HSG.out)
              have HROK := Lib.hid ((Nm.residOk_iff _ _).2 HRM.out)
              obtain ⟨Tt, hT⟩ : ∃ Tt, Cs.tab (Un.sgL l (S : Int)) = Tt := ⟨_, rfl⟩
              have HTT := Lib.hid hT
              have HSB : Hid (sgnB l (S : Int) = true) := by show _ = _; rw [sgnB_ok HC.out HSG.out]; exact HFL.out
              have HEX : Hid (Un.ex1 l la lb S = Un.exL Tt (Dc.rs lb (S : Int)) (Dc.rs la (S : Int))) := by show _ = _; rw [Un.ex1_yes HFL.out, hT]
              have hvb := bT_zero Tt (Dc.rs lb (S : Int)) (Dc.rs la (S : Int))
              have hvc : (V0 && true) = V0 := Bool.and_true V0
              clear HQ2 hb5 ho4 hL2 kr4 HO3 hT
              go_wp2
              go_loopw [13, 7] (fun i v wr2 => ∃ q : Nat, q ≤ L1 ∧ i = .int .i64 q ∧ v = .bool (V0 && bT Tt (Dc.rs lb (S : Int)) (Dc.rs la (S : Int)) q) ∧ Hid (Below w5.heap.size w5 wr2)) (fun i _ _ => L1 - (intOf i).toNat)
              case atStart => exact ⟨0, Nat.zero_le _, rfl, by rw [hvb, hvc], Below.refl _ _⟩
              case round =>
                obtain ⟨q, hq, rfl, rfl, HBJ⟩ := hrel
                clear hvb hvc
                have hsj := HBJ.out.size
                obtain ⟨V1, hV1⟩ : ∃ V1, (V0 && bT Tt (Dc.rs lb (S : Int)) (Dc.rs la (S : Int)) q) = V1 := ⟨_, rfl⟩
                have HV1 := Lib.hid hV1
                rw [hV1]
                clear hV1
                by_cases hql : q < L1
                · have hqi : (q : Int) < (L1 : Int) := by omega
                  obtain ⟨g4, o4, rfl, hg4, hc4⟩ := HR3.out.2 (by omega)
                  obtain ⟨x1, x2⟩ := hc4 q hql
                  have hjr : q < (Dc.rs la (S : Int)).length := by show q < (Nm.rnorm (Nm.wl (S : Int) la)).length; rw [HL1.out]; exact hql
                  have hone := rok_alone HRA.out hjr
                  have HNX := Lib.hid (bT_succ (T := Tt) (rb := Dc.rs lb (S : Int)) hjr)
                  obtain ⟨t, ht⟩ : ∃ t, (Dc.rs la (S : Int)).getD q (0, 0) = t := ⟨_, rfl⟩
                  rw [ht] at x1 x2 hone HNX
                  obtain ⟨p, y⟩ := t
                  have HATM := Lib.hid (atmR_yes HSB.out hone HROK.out)
                  rw [HTT.out] at HATM
                  have KX : ∀ X : World, Below w5.heap.size w5 X → X.cell? ⟨g4, o4 + q * 2, none⟩ = some (.int .i64 p) ∧ X.cell? ⟨g4, o4 + q * 2 + 1, none⟩ = some (.int .i64 y) := fun X h => ⟨(h.cell (p := ⟨g4, o4 + q * 2, none⟩) hg4).trans x1, (h.cell (p := ⟨g4, o4 + q * 2 + 1, none⟩) hg4).trans x2⟩
                  have HKX := Lib.hid KX
                  obtain ⟨y1, y2⟩ := KX _ HBJ.out
                  have HBQ := Lib.hid (HBE.out.trans (HBJ.out.mono (by omega)))
                  have kq := HKS.out _ HBQ.out
                  obtain ⟨R, hR⟩ : ∃ R, Un.atB Tt (p, y) (Dc.rs lb (S : Int)) = R := ⟨_, rfl⟩
                  rw [hR] at HATM HNX
                  clear hc4 ht x1 x2 KX hone hR
                  cases R with
                  | false =>
                    go_wp2_with fail
                    refine region_tail 10 (by kernel_rfl) (by kernel_rfl) ?_
                    simp only [List.take_succ_cons, List.take_zero, List.drop_succ_cons, List.drop_zero]
                    repeat still_step
                    refine wpStill_nil ?_
                    go_wp2_with fail
                    refine (implAtomUnder_any wr.drew w5.heap.size g 0 m cap l S p y A4 L2 c4 (Dc.rs lb (S : Int)) hsj ((RLs.out.below HBQ.out.drew).more (by omega)) (by omega) (HR4.out.below HBJ.out.drew) (by omega) hnc4).mono ?_
                    rintro e w6 ⟨rfl, hb6⟩
                    rw [HATM.out]
                    have HB6 := Lib.hid (HBJ.out.drew.trans (hb6.mono hsj))
                    have hs6 := HB6.out.size
                    have HBQ6 := Lib.hid (HBE.out.trans (HB6.out.mono (by omega)))
                    have kq6 := HKS.out _ HBQ6.out
                    obtain ⟨z1, z2⟩ := HKX.out _ HB6.out
                    clear hb6 y1 y2 kq
                    go_wp2_with fail
                    go_region_held3 (fun w' => w'.cell? ⟨gs, os + j, none⟩ = some (.int .i64 (S : Int)) ∧ w'.cell? ⟨g4, o4 + q * 2, none⟩ = some (.int .i64 p) ∧ w'.cell? ⟨g4, o4 + q * 2 + 1, none⟩ = some (.int .i64 y))
                      (first
                        | go_keep
                        | exact ⟨HKS.out _ HBQ7.out, (HKX.out _ HB7.out).1, (HKX.out _ HB7.out).2⟩)
                      (first
                        | (go_at_call 39
                           refine (specAtomUnder_any w6.drew w5.heap.size g 0 m cap l S p y A4 L2 c4 (Dc.rs lb (S : Int)) hs6 ((RLs.out.below HBQ6.out.drew).more (by omega)) (by omega) (HR4.out.below HB6.out.drew) (by omega)).mono ?_
                           rintro e w7 ⟨rfl, hb7⟩
                           have HB7 := Lib.hid (HB6.out.drew.trans (hb7.mono hs6))
                           have HBQ7 := Lib.hid (HBE.out.trans (HB7.out.mono (by omega)))))
                    rw [HATM.out]
                    clear hb7 z1 z2 kq6
                    cases V1 with
                    | false =>
                      have HV2 : Hid ((V0 && bT Tt (Dc.rs lb (S : Int)) (Dc.rs la (S : Int)) (q + 1)) = false) := by show _ = _; rw [HNX.out, ← Bool.and_assoc, HV1.out]; rfl
                      go_wp2
                      go_roundw
                      case rel => exact ⟨q + 1, by omega, by go_num, by rw [HV2.out], HB7.out⟩
                      case measure => simp [intOf]; omega
                    | true =>
                      have HV2 : Hid ((V0 && bT Tt (Dc.rs lb (S : Int)) (Dc.rs la (S : Int)) (q + 1)) = false) := by show _ = _; rw [HNX.out, ← Bool.and_assoc, HV1.out]; rfl
                      go_wp2
                      go_roundw
                      case rel => exact ⟨q + 1, by omega, by go_num, by rw [HV2.out], HB7.out⟩
                      case measure => simp [intOf]; omega
                  | true =>
                    go_wp2_with fail
                    refine region_tail 10 (by kernel_rfl) (by kernel_rfl) ?_
                    simp only [List.take_succ_cons, List.take_zero, List.drop_succ_cons, List.drop_zero]
                    repeat still_step
                    refine wpStill_nil ?_
                    go_wp2_with fail
                    refine (implAtomUnder_any wr.drew w5.heap.size g 0 m cap l S p y A4 L2 c4 (Dc.rs lb (S : Int)) hsj ((RLs.out.below HBQ.out.drew).more (by omega)) (by omega) (HR4.out.below HBJ.out.drew) (by omega) hnc4).mono ?_
                    rintro e w6 ⟨rfl, hb6⟩
                    rw [HATM.out]
                    have HB6 := Lib.hid (HBJ.out.drew.trans (hb6.mono hsj))
                    have hs6 := HB6.out.size
                    have HBQ6 := Lib.hid (HBE.out.trans (HB6.out.mono (by omega)))
                    have kq6 := HKS.out _ HBQ6.out
                    obtain ⟨z1, z2⟩ := HKX.out _ HB6.out
                    clear hb6 y1 y2 kq
                    go_wp2_with fail
                    go_region_held3 (fun w' => w'.cell? ⟨gs, os + j, none⟩ = some (.int .i64 (S : Int)) ∧ w'.cell? ⟨g4, o4 + q * 2, none⟩ = some (.int .i64 p) ∧ w'.cell? ⟨g4, o4 + q * 2 + 1, none⟩ = some (.int .i64 y))
                      (first
                        | go_keep
                        | exact ⟨HKS.out _ HBQ7.out, (HKX.out _ HB7.out).1, (HKX.out _ HB7.out).2⟩)
                      (first
                        | (go_at_call 39
                           refine (specAtomUnder_any w6.drew w5.heap.size g 0 m cap l S p y A4 L2 c4 (Dc.rs lb (S : Int)) hs6 ((RLs.out.below HBQ6.out.drew).more (by omega)) (by omega) (HR4.out.below HB6.out.drew) (by omega)).mono ?_
                           rintro e w7 ⟨rfl, hb7⟩
                           have HB7 := Lib.hid (HB6.out.drew.trans (hb7.mono hs6))
                           have HBQ7 := Lib.hid (HBE.out.trans (HB7.out.mono (by omega)))))
                    rw [HATM.out]
                    clear hb7 z1 z2 kq6
                    cases V1 with
                    | false =>
                      have HV2 : Hid ((V0 && bT Tt (Dc.rs lb (S : Int)) (Dc.rs la (S : Int)) (q + 1)) = false) := by show _ = _; rw [HNX.out, ← Bool.and_assoc, HV1.out]; rfl
                      go_wp2
                      go_roundw
                      case rel => exact ⟨q + 1, by omega, by go_num, by rw [HV2.out], HB7.out⟩
                      case measure => simp [intOf]; omega
                    | true =>
                      have HV2 : Hid ((V0 && bT Tt (Dc.rs lb (S : Int)) (Dc.rs la (S : Int)) (q + 1)) = true) := by show _ = _; rw [HNX.out, ← Bool.and_assoc, HV1.out]; rfl
                      go_wp2
                      go_roundw
                      case rel => exact ⟨q + 1, by omega, by go_num, by rw [HV2.out], HB7.out⟩
                      case measure => simp [intOf]; omega
                · have hqq : ¬ (q : Int) < (L1 : Int) := by omega
                  have HV2 : Hid (aT l la lb F (j + 1) = V1) := by
                    show _ = _
                    rw [aT_succ, HV0.out, HS.out, HEX.out, ← HV1.out, bT_all (by show (Nm.rnorm (Nm.wl (S : Int) la)).length ≤ q; rw [HL1.out]; omega)]
                  have HBL := Lib.hid (HBE.out.trans (HBJ.out.mono (by omega)))
                  go_wp2
                  go_roundw
                  case rel => exact ⟨j + 1, by omega, by go_num, by rw [HV2.out], HBL.out⟩
                  case measure => simp [intOf]; omega
            · have hkk : ¬ (j : Int) < (N : Int) := by omega
              have HEQ : Hid (leUnR l la lb = V0) := by
                show _ = _
                have e : j = N := by omega
                rw [HAT.out, HN.out, ← e]
                exact HV0.out
              have hbe : (V0 == V0) = true := by simp
              have hpos : 0 < wr.heap.size := Nat.lt_of_lt_of_le h0 (Nat.le_trans hB HBw.out.size)
              have hposc : 1 < wr.heap.size := Nat.lt_of_lt_of_le h0c (Nat.le_trans hB HBw.out.size)
              go_wp2_with fail
              refine (implLeUnder_any wr wr.heap.size (some ⟨g, 0, none⟩) m cap l Aa na ca la Ab nb cb lb T pv Tc pc hpos hposc (Nat.le_refl _) (.inl ⟨_, _, rfl⟩) ((RLs.out.below HBR.out).more hsr) (by omega) ((RAs.out.below HBR.out).more hsr) (by omega) ((RBs.out.below HBR.out).more hsr) (by omega) (hE.below (HBw.out.mono hB) h0) (hEc.below (HBw.out.mono hB) h0c)).mono ?_
              rintro e wz ⟨rfl, hbz⟩
              rw [HEQ.out]
              have HZ := Lib.hid (HBw.out.trans (hbz.mono HBw.out.size))
              clear hbz
              go_wp2
              go_ret
              exact ⟨rfl, HZ.out⟩
end Go.Proofs.YtmbcjddahncocaaDoor
