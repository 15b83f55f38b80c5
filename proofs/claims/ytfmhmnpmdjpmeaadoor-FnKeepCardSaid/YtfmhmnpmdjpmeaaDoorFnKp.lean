/- The law FnKeep: the walk. -/
import Derived.Test.YtfmhmnpmdjpmeaaDoorMkBase
import Derived.Test.YtfmhmnpmdjpmeaaDoorAvI
import Derived.Test.YtfmhmnpmdjpmeaaDoorNdKpT

namespace Go.Proofs.YtfmhmnpmdjpmeaaDoor
open Go.RowKit

set_option maxRecDepth 100000 in
set_option maxHeartbeats 1600000 in
theorem sameNodes_any (w : World) (B : Nat) (A1 A2 : Option Addr) (n c1 c2 : Nat) (l : List Nd) (hB : B ≤ w.heap.size) (h1 : NodR w B A1 n l) (h2 : NodR w B A2 n l) (hn : n ≤ 1048576) :
    Calls Tryd.prog 31 #[.slice A1 n c1, .slice A2 n c2] w fun e w' => e = .returned (.bool true) ∧ Below w.heap.size w w' := by
  have en : ((n : Int) != (n : Int)) = false := by simp
  go_enter Tryd.func31, Tryd.ntmps31
  go_wp2
  go_loopw [5] (fun i wr => ∃ k : Nat, k ≤ n ∧ i = .int .i64 k ∧ Below w.heap.size w wr) (fun i _ => n - (intOf i).toNat)
  case atStart => exact ⟨0, Nat.zero_le _, rfl, Below.refl _ _⟩
  case round =>
    obtain ⟨k, hk, rfl, hbel⟩ := hrel
    by_cases hlt : k < n
    · obtain ⟨b, off, rfl, hb, hc⟩ := h1.2 (by omega)
      obtain ⟨x1, x2, x3, x4⟩ := hc k hlt
      obtain ⟨b', off', rfl, hb', hc'⟩ := h2.2 (by omega)
      obtain ⟨y1, y2, y3, y4⟩ := hc' k hlt
      obtain ⟨t, ht⟩ : ∃ t, l.getD k nd0 = t := ⟨_, rfl⟩
      rw [ht] at x1 x2 x3 x4 y1 y2 y3 y4
      obtain ⟨o, u, a, z⟩ := t
      have k1 := (hbel.cell (p := ⟨b, off + k * 4, none⟩) (by show b < _; omega)).trans x1
      have k2 := (hbel.cell (p := ⟨b, off + k * 4 + 1, none⟩) (by show b < _; omega)).trans x2
      have k3 := (hbel.cell (p := ⟨b, off + k * 4 + 2, none⟩) (by show b < _; omega)).trans x3
      have k4 := (hbel.cell (p := ⟨b, off + k * 4 + 3, none⟩) (by show b < _; omega)).trans x4
      have m1 := (hbel.cell (p := ⟨b', off' + k * 4, none⟩) (by show b' < _; omega)).trans y1
      have m2 := (hbel.cell (p := ⟨b', off' + k * 4 + 1, none⟩) (by show b' < _; omega)).trans y2
      have m3 := (hbel.cell (p := ⟨b', off' + k * 4 + 2, none⟩) (by show b' < _; omega)).trans y3
      have m4 := (hbel.cell (p := ⟨b', off' + k * 4 + 3, none⟩) (by show b' < _; omega)).trans y4
      have HBD := Lib.hid hbel.drew
      clear x1 x2 x3 x4 y1 y2 y3 y4 hc hc' ht h1 h2 hbel
      go_wp2_with fail
      refine region_tail 8 (by kernel_rfl) (by kernel_rfl) ?_
      simp only [List.take_succ_cons, List.take_zero, List.drop_succ_cons, List.drop_zero]
      repeat still_step
      refine wpStill_nil ?_
      go_wp2
      go_roundw
      case rel => exact ⟨k + 1, by omega, by go_num, HBD.out⟩
      case measure => simp [intOf]; omega
    · obtain rfl : k = n := by omega
      go_wp2
      go_ret
      exact ⟨rfl, hbel⟩
theorem aevR_some {l : List Nd} {n i : Nat} {env : List Int} (ha : arenaOkR l = true) (hi : i < n) (he : envOk env = true) : aevR l n (i : Int) env = some (avN env l i) := by
  unfold aevR
  rw [if_pos (by rw [ha, he, idx_one, decide_eq_true (by omega), decide_eq_true (by omega)]; rfl), Int.toNat_natCast]
  rfl
/-- what is kept: an arena, no longer, with a place for each root that has the root's values -/
theorem keep_facts {l : List Nd} {m : Nat} {is : List Int} (hl : l.length = m) (hok : (arenaOkR l && idxR m is) = true) :
    arenaOkR (keepN l m is) = true ∧ (keepN l m is).length ≤ m ∧ (keepI l m is).length = is.length ∧
      ∀ env, envOk env = true → ∀ k, k < is.length → ∃ V, aevR l m (is.getD k 0) env = some V ∧ aevR (keepN l m is) (keepN l m is).length ((keepI l m is).getD k 0) env = some V := by
  have hN : keepN l m is = leftN l (rootsR l m is) m := by unfold keepN; rw [if_pos hok]
  have hI : keepI l m is = is.map fun r => ((cntK (rootsR l m is) r.toNat : Nat) : Int) := by unfold keepI; rw [if_pos hok]
  rw [hN, hI]
  rw [Bool.and_eq_true] at hok
  obtain ⟨ha, hix⟩ := hok
  have ha' := ha
  unfold arenaOkR at ha'
  rw [Bool.and_eq_true, decide_eq_true_eq, decide_eq_true_eq, hl] at ha'
  obtain ⟨hn, hall⟩ := ha'
  obtain ⟨_, k2, k3⟩ := kp_arena (f := is.foldl bit1 fun _ => false) hl hn hall
  refine ⟨k2, k3, by simp, fun env he k hk => ?_⟩
  have hmem : is.getD k 0 ∈ is := by
    rw [List.getD_eq_getElem?_getD, List.getElem?_eq_getElem hk]
    exact List.getElem_mem hk
  have hb : 0 ≤ is.getD k 0 ∧ is.getD k 0 < m := by
    unfold idxR at hix
    rw [List.all_eq_true] at hix
    simpa using hix _ hmem
  obtain ⟨i, hi⟩ : ∃ i : Nat, is.getD k 0 = i := ⟨(is.getD k 0).toNat, by omega⟩
  rw [hi] at hmem hb ⊢
  have hr : rootsR l m is i = true := root_in hmem
  have hat : (is.map fun r => ((cntK (rootsR l m is) r.toNat : Nat) : Int)).getD k 0 = ((cntK (rootsR l m is) i : Nat) : Int) := by
    rw [List.getD_eq_getElem?_getD, List.getElem?_map, List.getElem?_eq_getElem hk]
    rw [List.getD_eq_getElem?_getD, List.getElem?_eq_getElem hk] at hi
    simp only [Option.getD_some] at hi
    simp [hi]
  rw [hat]
  have hin : i < m := by omega
  exact ⟨_, aevR_some ha hin he, by rw [aevR_some k2 (kp_at l hin hr).2 he, kp_av env hall i hin hr]⟩

set_option maxRecDepth 100000 in
set_option maxHeartbeats 4000000 in
theorem fnKeep_any (w : World) (B : Nat) (A : Option Addr) (n c : Nat) (T : TypeId) (pv : Value) (h0 : 0 < B) (hB : B ≤ w.heap.size) (hb : BytR w B A n) (hE : ErrAt w T pv) :
    Calls Tryd.prog 8 #[.slice A n c] w fun e w' => e = .returned (.bool true) ∧ Below w.heap.size w w' := by
  by_cases hbig : (1048576 : Int) < n
  · go_enter Tryd.func8, Tryd.ntmps8
    go_wp2_with fail
    refine (big_any w A n c).mono ?_
    rintro e w' ⟨rfl, rfl⟩
    rw [decide_eq_true hbig]
    go_wp2
    go_ret
    exact ⟨rfl, Below.refl _ _⟩
  · have hn : n ≤ 1048576 := by omega
    have hG : 0 < w.heap.size := by omega
    go_enter Tryd.func8, Tryd.ntmps8
    go_wp2_with fail
    refine (big_any w A n c).mono ?_
    rintro e w' ⟨rfl, rfl⟩
    rw [decide_eq_false (by omega)]
    go_wp2_with fail
    refine (drawArKeep_any w B A n c hB hb hn).mono ?_
    rintro e w1 ⟨g, cap, m, l, g2, c2, m2, is, rfl, hm, hm2, ho1, hi1, hb1⟩
    have hl : l.length = m := (OwnN.reads ho1).1
    have hil : is.length = m2 := (OwnI.reads hi1).1
    have hs1 := hb1.size
    have HO1 := Lib.hid ho1
    have HI1 := Lib.hid hi1
    have HB1 := Lib.hid hb1
    clear ho1 hi1 hb1
    have hsp := specKeep_any w1 w1.heap.size (some ⟨g, 0, none⟩) m cap l w1.heap.size (some ⟨g2, 0, none⟩) m2 c2 is (Nat.le_refl _) (OwnN.reads HO1.out) (by omega) (Nat.le_refl _) (OwnI.reads HI1.out) (by omega)
    have him : ∀ w, OwnN w w1.heap.size (some ⟨g, 0, none⟩) m cap l ∨ OwnN w w1.heap.size (some ⟨g, 0, none⟩) m cap l → True := fun _ _ => trivial
    obtain ⟨ok, hok⟩ : ∃ ok, (arenaOkR l && idxR m is) = ok := ⟨_, rfl⟩
    obtain ⟨N, hN⟩ : ∃ N, keepN l m is = N := ⟨_, rfl⟩
    obtain ⟨I, hI⟩ : ∃ I, keepI l m is = I := ⟨_, rfl⟩
    rw [hok, hN, hI] at hsp
    clear him
    have HSP := Lib.hid hsp
    have HOK := Lib.hid hok
    have HN := Lib.hid hN
    have HI := Lib.hid hI
    clear hsp hok hN hI
    go_wp2_with fail
    refine HSP.out.mono ?_
    rintro e w2 ⟨A3, c3, A4, c4, rfl, ho2, hi2, hb2⟩
    have HB2 := Lib.hid (HB1.out.trans (hb2.mono hs1))
    have HO2 : Hid (OwnN w2 w.heap.size (some ⟨g, 0, none⟩) m cap l) := own_below' HO1.out hb2
    have HI2 : Hid (OwnI w2 w.heap.size (some ⟨g2, 0, none⟩) m2 c2 is) := own_below' HI1.out hb2
    have HW2 := Lib.hid ho2
    have HV2 := Lib.hid hi2
    have him := implKeep_any w2 w2.heap.size (some ⟨g, 0, none⟩) m cap l w2.heap.size (some ⟨g2, 0, none⟩) m2 c2 is (Nat.le_refl _) (OwnN.reads HO2.out) (by omega) (Nat.le_refl _) (OwnI.reads HI2.out) (by omega)
    rw [HOK.out, HN.out, HI.out] at him
    have HIM := Lib.hid him
    have hs2 : w.heap.size ≤ w2.heap.size := HB2.out.size
    obtain ⟨nl, hnl⟩ : ∃ nl, N.length = nl := ⟨_, rfl⟩
    obtain ⟨il, hiln⟩ : ∃ il, I.length = il := ⟨_, rfl⟩
    have hnl2 : nl ≤ 1048576 := by
      rw [← hnl, ← HN.out]
      unfold keepN
      split
      · rw [leftN_len]; have := pickTo_len (rootsR l m is) m; omega
      · simp
    have hil2 : il ≤ 1048576 := by
      rw [← hiln, ← HI.out]
      unfold keepI
      split
      · simp; omega
      · simp
    unfold KeepOut at HIM
    rw [hnl] at HW2
    rw [hiln] at HV2
    rw [hnl, hiln] at HIM
    rw [hnl, hiln]
    have HNL := Lib.hid hnl
    have HIL := Lib.hid hiln
    clear ho2 hi2 hb2 him HO1 HI1 HSP hnl hiln
    go_wp2_with fail
    refine HIM.out.mono ?_
    rintro e w3 ⟨A5, c5, A6, c6, rfl, ho3, hi3, hb3⟩
    have HB3 := Lib.hid (HB2.out.trans (hb3.mono hs2))
    have HO3 : Hid (OwnN w3 w.heap.size (some ⟨g, 0, none⟩) m cap l) := own_below' HO2.out hb3
    have HI3 : Hid (OwnI w3 w.heap.size (some ⟨g2, 0, none⟩) m2 c2 is) := own_below' HI2.out hb3
    have HW3 : Hid (OwnN w3 w1.heap.size A3 nl c3 N) := own_below' HW2.out hb3
    have HV3 : Hid (OwnI w3 w1.heap.size A4 il c4 I) := own_below' HV2.out hb3
    have HG3 : Hid (OwnN w3 w2.heap.size A5 nl c5 N) := ho3
    have HH3 : Hid (OwnI w3 w2.heap.size A6 il c6 I) := hi3
    have hbb : (ok != ok) = false := by simp
    have hbe : (ok == ok) = true := by simp
    have hs3 : w.heap.size ≤ w3.heap.size := HB3.out.size
    clear ho3 hi3 hb3 HO2 HI2 HW2 HV2 HIM
    go_wp2_with fail
    refine (sameNodes_any w3 w3.heap.size A5 A3 nl c5 c3 N (Nat.le_refl _) (OwnN.reads HG3.out) (OwnN.reads HW3.out) hnl2).mono ?_
    rintro e w4 ⟨rfl, hb4⟩
    have HB4 := Lib.hid (HB3.out.trans (hb4.mono hs3))
    have HO4 : Hid (OwnN w4 w.heap.size (some ⟨g, 0, none⟩) m cap l) := own_below' HO3.out hb4
    have HI4 : Hid (OwnI w4 w.heap.size (some ⟨g2, 0, none⟩) m2 c2 is) := own_below' HI3.out hb4
    have HW4 : Hid (OwnN w4 w1.heap.size A3 nl c3 N) := own_below' HW3.out hb4
    have HV4 : Hid (OwnI w4 w1.heap.size A4 il c4 I) := own_below' HV3.out hb4
    have HG4 : Hid (OwnN w4 w2.heap.size A5 nl c5 N) := own_below' HG3.out hb4
    have HH4 : Hid (OwnI w4 w2.heap.size A6 il c6 I) := own_below' HH3.out hb4
    have hs4 : w.heap.size ≤ w4.heap.size := HB4.out.size
    clear hb4 HO3 HI3 HW3 HV3 HG3 HH3
    go_wp2_with fail
    refine (same_any w4 w4.heap.size A6 A4 il il c6 c4 I I (Nat.le_refl _) (OwnI.reads HH4.out) (OwnI.reads HV4.out) (by omega) (by omega)).mono ?_
    rintro e w5 ⟨rfl, hb5⟩
    rw [decide_eq_true rfl]
    have HB5 := Lib.hid (HB4.out.trans (hb5.mono hs4))
    have HO5 : Hid (OwnN w5 w.heap.size (some ⟨g, 0, none⟩) m cap l) := own_below' HO4.out hb5
    have HI5 : Hid (OwnI w5 w.heap.size (some ⟨g2, 0, none⟩) m2 c2 is) := own_below' HI4.out hb5
    have HW5 : Hid (OwnN w5 w1.heap.size A3 nl c3 N) := own_below' HW4.out hb5
    have HG5 : Hid (OwnN w5 w2.heap.size A5 nl c5 N) := own_below' HG4.out hb5
    have HH5 : Hid (OwnI w5 w2.heap.size A6 il c6 I) := own_below' HH4.out hb5
    have hs5 : w.heap.size ≤ w5.heap.size := HB5.out.size
    clear hb5 HO4 HI4 HW4 HV4 HG4 HH4
    cases ok with
    | false =>
      go_wp2_with fail
      refine (sameNodes_any w5 w5.heap.size A5 A3 nl c5 c3 N (Nat.le_refl _) (OwnN.reads HG5.out) (OwnN.reads HW5.out) hnl2).mono ?_
      rintro e w6 ⟨rfl, hb6⟩
      have HB6 := Lib.hid (HB5.out.trans (hb6.mono hs5))
      clear hb6
      go_wp2
      go_ret
      exact ⟨rfl, HB6.out⟩
    | true =>
      obtain ⟨f1, f2, f3, f4⟩ := keep_facts hl HOK.out
      rw [HN.out, HI.out] at f4
      rw [HN.out] at f1 f2
      rw [HI.out, HIL.out, hil] at f3
      rw [HNL.out] at f2 f4
      have HF1 := Lib.hid f1
      have HF4 := Lib.hid f4
      have hbe := hb.below (HB5.out.mono hB)
      have HBY := Lib.hid hb
      clear f1 f4 HW5 hb hbe
      go_wp2_with fail
      refine (envs_any w5 B A n c 3 5 (by omega) (HBY.out.below (HB5.out.mono hB)) hn (by omega) (by omega)).mono ?_
      rintro e w6 ⟨ge, ce, env, rfl, he5, hebd, hoe, hb6⟩
      have hek : envOk env = true := by
        simp only [envOk, Bool.and_eq_true, decide_eq_true_eq, List.all_eq_true]
        exact ⟨he5, fun x hx => by have := hebd x hx; omega⟩
      have HEK := Lib.hid hek
      have HB6 := Lib.hid (HB5.out.trans (hb6.mono hs5))
      have HO6 : Hid (OwnN w6 w.heap.size (some ⟨g, 0, none⟩) m cap l) := own_below' HO5.out hb6
      have HI6 : Hid (OwnI w6 w.heap.size (some ⟨g2, 0, none⟩) m2 c2 is) := own_below' HI5.out hb6
      have HG6 : Hid (OwnN w6 w2.heap.size A5 nl c5 N) := own_below' HG5.out hb6
      have HH6 : Hid (OwnI w6 w2.heap.size A6 il c6 I) := own_below' HH5.out hb6
      have HV6 := Lib.hid hoe
      clear hek hebd he5 hoe hb6 HO5 HI5 HG5 HH5
      subst f3
      go_wp2
      go_loopw [12] (fun j wr => ∃ k : Nat, k ≤ il ∧ j = .int .i64 k ∧ Hid (Below w6.heap.size w6 wr)) (fun j _ => il - (intOf j).toNat)
      case atStart => exact ⟨0, Nat.zero_le _, rfl, Below.refl _ _⟩
      case round =>
        obtain ⟨k, hk, rfl, HR⟩ := hrel
        have hsr := HR.out.size
        have HBR : Hid (Below w.heap.size w wr) := HB6.out.trans (HR.out.mono HB6.out.size)
        have hsw : w.heap.size ≤ wr.heap.size := HBR.out.size
        have hGr : 0 < wr.heap.size := by omega
        by_cases hlt : k < il
        · obtain ⟨V, hv1, hv2⟩ := HF4.out env HEK.out k (by omega)
          obtain ⟨b1, o1, e1, _, q1⟩ := (OwnI.reads (own_below' HI6.out HR.out)).2 (by omega)
          injection e1 with e1
          injection e1 with e1 e1'
          subst e1 e1'
          have d1 := q1 k (by omega)
          obtain ⟨b2, o2, rfl, _, q2⟩ := (OwnI.reads (own_below' HH6.out HR.out)).2 (by omega)
          have d2 := q2 k hlt
          generalize is.getD k 0 = x at d1 hv1
          obtain ⟨y, hy⟩ : ∃ y, I.getD k 0 = y := ⟨_, rfl⟩
          rw [hy] at d2 hv2
          have HY := Lib.hid hy
          clear hy
          rw [Nat.zero_add] at d1
          have hC1 := implAEval_any wr wr.heap.size (some ⟨g, 0, none⟩) m cap l x wr.heap.size (some ⟨ge, 0, none⟩) 5 ce env T pv hGr (Nat.le_refl _) (OwnN.reads (own_below' HO6.out HR.out)) (by omega) (Nat.le_refl _) (OwnI.reads (own_below' HV6.out HR.out)) (by omega) (hE.below (HBR.out.mono hB) h0)
          rw [hv1] at hC1
          have HC1 := Lib.hid hC1
          have HV2 := Lib.hid hv2
          have HD2 := Lib.hid d2
          clear q1 q2 hv1 hv2 hC1 d2
          go_wp2_with fail
          refine HC1.out.mono ?_
          rintro e wa ⟨rfl, hba⟩
          unfold evalV
          have HRa := Lib.hid (HR.out.trans (hba.mono hsr))
          have HBa : Hid (Below w.heap.size w wa) := HB6.out.trans (HRa.out.mono HB6.out.size)
          have hsa : w6.heap.size ≤ wa.heap.size := HRa.out.size
          have hswa : w.heap.size ≤ wa.heap.size := HBa.out.size
          have hGa : 0 < wa.heap.size := by omega
          obtain ⟨b3, o3, e3, _, q3⟩ := (OwnI.reads (own_below' HH6.out HRa.out)).2 (by omega)
          injection e3 with e3
          injection e3 with e3 e3'
          subst e3 e3'
          have d3 := q3 k hlt
          rw [HY.out] at d3
          have hC2 := implAEval_any wa wa.heap.size A5 nl c5 N y wa.heap.size (some ⟨ge, 0, none⟩) 5 ce env T pv hGa (Nat.le_refl _) (OwnN.reads (own_below' HG6.out HRa.out)) hnl2 (Nat.le_refl _) (OwnI.reads (own_below' HV6.out HRa.out)) (by omega) (hE.below (HBa.out.mono hB) h0)
          rw [HV2.out] at hC2
          have HC2 := Lib.hid hC2
          have hvv : (V != V) = false := by simp
          clear q3 hC2 hba HC1
          go_wp2_with fail
          refine HC2.out.mono ?_
          rintro e wc ⟨rfl, hbc⟩
          unfold evalV
          have HRc := Lib.hid (HRa.out.trans (hbc.mono hsa))
          clear hbc HC2
          go_wp2
          go_roundw
          case rel => exact ⟨k + 1, by omega, by go_num, HRc.out⟩
          case measure => simp [intOf]; omega
        · obtain rfl : k = il := by omega
          have hle : (nl : Int) ≤ m := by omega
          go_wp2_with fail
          refine (implArenaOk_any wr wr.heap.size A5 nl c5 N (Nat.le_refl _) (OwnN.reads (own_below' HG6.out HR.out)) hnl2).mono ?_
          rintro e wd ⟨rfl, hbd⟩
          rw [HF1.out]
          have HBd := Lib.hid (HBR.out.trans (hbd.mono hsw))
          clear hbd
          go_wp2
          go_ret
          exact ⟨rfl, HBd.out⟩
end Go.Proofs.YtfmhmnpmdjpmeaaDoor
