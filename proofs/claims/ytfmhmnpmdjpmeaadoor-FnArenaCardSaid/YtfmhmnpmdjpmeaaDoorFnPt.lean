/- The law FnParts: the walk. -/
import Derived.Test.YtfmhmnpmdjpmeaaDoorFnKp
import Derived.Test.YtfmhmnpmdjpmeaaDoorAlI2

namespace Go.Proofs.YtfmhmnpmdjpmeaaDoor
open Go.RowKit

set_option maxHeartbeats 2000000 in
theorem sameToks_eq (w : World) (B : Nat) (A1 A2 : Option Addr) (n c1 c2 : Nat) (l : List (Int × Int)) (hB : B ≤ w.heap.size) (h1 : TokR w B A1 n l) (h2 : TokR w B A2 n l) (hn : n ≤ 1048576) :
    Calls Tryd.prog 34 #[.slice A1 n c1, .slice A2 n c2] w fun e w' => e = .returned (.bool true) ∧ Below w.heap.size w w' := by
  have en : ((n : Int) != (n : Int)) = false := by simp
  go_enter Tryd.func34, Tryd.ntmps34
  go_wp2
  go_loopw [5] (fun i wr => ∃ k : Nat, k ≤ n ∧ i = .int .i64 k ∧ Below w.heap.size w wr) (fun i _ => n - (intOf i).toNat)
  case atStart => exact ⟨0, Nat.zero_le _, rfl, Below.refl _ _⟩
  case round =>
    obtain ⟨k, hk, rfl, hbel⟩ := hrel
    by_cases hlt : k < n
    · obtain ⟨b, off, rfl, hb, hc⟩ := h1.2 (by omega)
      obtain ⟨x1, x2⟩ := hc k hlt
      obtain ⟨b', off', rfl, hb', hc'⟩ := h2.2 (by omega)
      obtain ⟨y1, y2⟩ := hc' k hlt
      obtain ⟨t, ht⟩ : ∃ t, l.getD k (0, 0) = t := ⟨_, rfl⟩
      rw [ht] at x1 x2 y1 y2
      obtain ⟨p, q⟩ := t
      have k1 := (hbel.cell (p := ⟨b, off + k * 2, none⟩) (by show b < _; omega)).trans x1
      have k2 := (hbel.cell (p := ⟨b, off + k * 2 + 1, none⟩) (by show b < _; omega)).trans x2
      have k3 := (hbel.cell (p := ⟨b', off' + k * 2, none⟩) (by show b' < _; omega)).trans y1
      have k4 := (hbel.cell (p := ⟨b', off' + k * 2 + 1, none⟩) (by show b' < _; omega)).trans y2
      have HH1 := Lib.hid h1
      have HH2 := Lib.hid h2
      clear x1 x2 y1 y2 hc hc' ht h1 h2
      go_wp2_with fail
      go_region
      go_wp2
      go_roundw
      case rel => exact ⟨k + 1, by omega, by go_num, hbel.drew⟩
      case measure => simp [intOf]; omega
    · obtain rfl : k = n := by omega
      go_wp2
      go_ret
      exact ⟨rfl, hbel⟩

theorem alvR_at {l : List Nd} {n i : Nat} (ha : arenaOkR l = true) (hi : i < n) : alvR l n (i : Int) = if (flN l i).length ≤ 24 then some (flN l i) else none := by
  unfold alvR
  rw [if_pos (by rw [ha, idx_one, decide_eq_true (by omega), decide_eq_true (by omega)]; rfl), Int.toNat_natCast]
theorem parts_facts {l : List Nd} {m : Nat} {x : Int} (hl : l.length = m) (hok : (arenaOkR l && idxR m [x]) = true) :
    (partsR l m x).length = (keepN l m [x]).length ∧ (∃ p, (partsR l m x).length = p + 1 ∧ (partsR l m x).getD p 0 = x) ∧ ∃ y, keepI l m [x] = [y] ∧ alvR (keepN l m [x]) (keepN l m [x]).length y = alvR l m x := by
  have hok' := hok
  rw [Bool.and_eq_true, idx_one, Bool.and_eq_true, decide_eq_true_eq, decide_eq_true_eq] at hok'
  obtain ⟨ha, h0, h1⟩ := hok'
  have ha' := ha
  unfold arenaOkR at ha'
  rw [Bool.and_eq_true, decide_eq_true_eq, decide_eq_true_eq, hl] at ha'
  obtain ⟨hn, hall⟩ := ha'
  obtain ⟨i, rfl⟩ : ∃ i : Nat, x = i := ⟨x.toNat, by omega⟩
  have hi : i < m := by omega
  have hN : keepN l m [(i : Int)] = leftN l (rootsR l m [(i : Int)]) m := by unfold keepN; rw [if_pos hok]
  have hI : keepI l m [(i : Int)] = [((cntK (rootsR l m [(i : Int)]) i : Nat) : Int)] := by unfold keepI; rw [if_pos hok]; rfl
  have hP : partsR l m (i : Int) = pickTo (needR l i) (i + 1) := by unfold partsR; rw [if_pos hok, Int.toNat_natCast]
  have hR : rootsR l m [(i : Int)] = needR l i := needD_all hi
  have hri : rootsR l m [(i : Int)] i = true := root_in (by simp)
  have hself : needR l i i = true := by rw [← hR]; exact hri
  have hpk : pickTo (needR l i) m = pickTo (needR l i) (i + 1) := by
    obtain ⟨c, rfl⟩ : ∃ c, m = i + 1 + c := ⟨m - (i + 1), by omega⟩
    exact pickTo_above (fun j hj => needR_above (fun q hq => hall q (by omega)) hj) c
  have hlast : pickTo (needR l i) (i + 1) = pickTo (needR l i) i ++ [(i : Int)] := by rw [pickTo, if_pos hself]
  have h4 := (kp_arena (f := [(i : Int)].foldl bit1 fun _ => false) hl hn hall).2.1
  refine ⟨?_, ⟨(pickTo (needR l i) i).length, ?_, ?_⟩, _, hI, ?_⟩
  · rw [hN, leftN_len, hR, hpk, hP]
  · rw [hP, hlast]; simp
  · rw [hP, hlast]; exact last_getD _ _ _ _ rfl
  · rw [hN, alvR_at h4 (kp_at l hi hri).2, alvR_at ha hi, kp_fl hall i hi hri]

set_option maxRecDepth 100000 in
set_option maxHeartbeats 4000000 in
theorem fnParts_any (w : World) (B : Nat) (A : Option Addr) (n c : Nat) (T : TypeId) (pv : Value) (h0 : 0 < B) (hB : B ≤ w.heap.size) (hb : BytR w B A n) (hE : ErrAt w T pv) :
    Calls Tryd.prog 7 #[.slice A n c] w fun e w' => e = .returned (.bool true) ∧ Below w.heap.size w w' := by
  by_cases hbig : (1048576 : Int) < n
  · go_enter Tryd.func7, Tryd.ntmps7
    go_wp2_with fail
    refine (big_any w A n c).mono ?_
    rintro e w' ⟨rfl, rfl⟩
    rw [decide_eq_true hbig]
    go_wp2
    go_ret
    exact ⟨rfl, Below.refl _ _⟩
  · have hn : n ≤ 1048576 := by omega
    have hG : 0 < w.heap.size := by omega
    go_enter Tryd.func7, Tryd.ntmps7
    go_wp2_with fail
    refine (big_any w A n c).mono ?_
    rintro e w' ⟨rfl, rfl⟩
    rw [decide_eq_false (by omega)]
    go_wp2_with fail
    refine (drawArPart_any w B A n c hB hb hn).mono ?_
    rintro e w1 ⟨g, cap, m, l, x, rfl, hm, ho1, hb1⟩
    have hl : l.length = m := (OwnN.reads ho1).1
    have hs1 := hb1.size
    have HO1 := Lib.hid ho1
    have HB1 := Lib.hid hb1
    have HBY := Lib.hid hb
    clear ho1 hb1 hb
    obtain ⟨PS, hPS⟩ : ∃ PS, partsR l m x = PS := ⟨_, rfl⟩
    obtain ⟨pl, hpl⟩ : ∃ pl, PS.length = pl := ⟨_, rfl⟩
    have hplb : pl ≤ 301 := by
      rw [← hpl, ← hPS]
      have := partsR_len (l := l) (n := m) (x := x)
      omega
    have hRI : ∀ w W Q, RowI w PS W Q → ∃ A c, W = .returned (.slice A pl c) ∧ OwnI Q w.heap.size A pl c PS ∧ Below w.heap.size w Q := by
      rintro w W Q ⟨A, c, h1, h2, h3⟩
      rw [hpl] at h1 h2
      exact ⟨A, c, h1, h2, h3⟩
    have HRI := Lib.hid hRI
    have HPS := Lib.hid hPS
    have HPL := Lib.hid hpl
    clear hRI hPS hpl
    have him := implParts_any w1 w1.heap.size (some ⟨g, 0, none⟩) m cap l x (Nat.le_refl _) (OwnN.reads HO1.out) (by omega)
    rw [HPS.out] at him
    have HIM := Lib.hid him
    clear him
    go_wp2_with fail
    refine HIM.out.mono ?_
    rintro e w2 hr2
    obtain ⟨A2, c2, rfl, ho2, hb2⟩ := HRI.out _ _ _ hr2
    have HB2 := Lib.hid (HB1.out.trans (hb2.mono hs1))
    have HO2 : Hid (OwnN w2 w.heap.size (some ⟨g, 0, none⟩) m cap l) := own_below' HO1.out hb2
    have HP2 := Lib.hid ho2
    have hs2 : w.heap.size ≤ w2.heap.size := HB2.out.size
    clear ho2 hb2 hr2 HO1 HIM
    have hsp := specParts_any w2 w2.heap.size (some ⟨g, 0, none⟩) m cap l x (Nat.le_refl _) (OwnN.reads HO2.out) (by omega)
    rw [HPS.out] at hsp
    have HSP := Lib.hid hsp
    clear hsp
    go_wp2_with fail
    refine HSP.out.mono ?_
    rintro e w3 hr3
    obtain ⟨A3, c3, rfl, ho3, hb3⟩ := HRI.out _ _ _ hr3
    have HB3 := Lib.hid (HB2.out.trans (hb3.mono hs2))
    have HO3 : Hid (OwnN w3 w.heap.size (some ⟨g, 0, none⟩) m cap l) := own_below' HO2.out hb3
    have HP3 : Hid (OwnI w3 w1.heap.size A2 pl c2 PS) := own_below' HP2.out hb3
    have HS3 := Lib.hid ho3
    have hs3 : w.heap.size ≤ w3.heap.size := HB3.out.size
    clear ho3 hb3 hr3 HO2 HP2 HSP
    go_wp2_with fail
    refine (same_any w3 w3.heap.size A2 A3 pl pl c2 c3 PS PS (Nat.le_refl _) (OwnI.reads HP3.out) (OwnI.reads HS3.out) (by omega) (by omega)).mono ?_
    rintro e w4 ⟨rfl, hb4⟩
    rw [decide_eq_true rfl]
    have HB4 := Lib.hid (HB3.out.trans (hb4.mono hs3))
    have HO4 : Hid (OwnN w4 w.heap.size (some ⟨g, 0, none⟩) m cap l) := own_below' HO3.out hb4
    have HP4 : Hid (OwnI w4 w1.heap.size A2 pl c2 PS) := own_below' HP3.out hb4
    have hs4 : w.heap.size ≤ w4.heap.size := HB4.out.size
    clear hb4 HO3 HP3 HS3
    cases hok : (arenaOkR l && idxR m [x]) with
    | false =>
      have hp0 : PS = [] := by
        rw [← HPS.out]
        unfold partsR
        rw [if_neg (by rw [hok]; decide)]
      have hpl0 : pl = 0 := by rw [← HPL.out, hp0]; rfl
      subst hpl0
      have hsp := specParts_any w4 w4.heap.size (some ⟨g, 0, none⟩) m cap l x (Nat.le_refl _) (OwnN.reads HO4.out) (by omega)
      rw [HPS.out] at hsp
      have HSP := Lib.hid hsp
      clear hsp hok hp0
      go_wp2_with fail
      refine HSP.out.mono ?_
      rintro e w5 hr5
      obtain ⟨A5, c5, rfl, ho5, hb5⟩ := HRI.out _ _ _ hr5
      have HB5 := Lib.hid (HB4.out.trans (hb5.mono hs4))
      have HP5 : Hid (OwnI w5 w1.heap.size A2 0 c2 PS) := own_below' HP4.out hb5
      have HS5 := Lib.hid ho5
      have hs5 : w.heap.size ≤ w5.heap.size := HB5.out.size
      clear ho5 hb5 hr5 HP4 HSP
      go_wp2_with fail
      refine (same_any w5 w5.heap.size A2 A5 0 0 c2 c5 PS PS (Nat.le_refl _) (OwnI.reads HP5.out) (OwnI.reads HS5.out) (by omega) (by omega)).mono ?_
      rintro e w6 ⟨rfl, hb6⟩
      rw [decide_eq_true rfl]
      have HB6 := Lib.hid (HB5.out.trans (hb6.mono hs5))
      clear hb6
      go_wp2
      go_ret
      exact ⟨rfl, HB6.out⟩
    | true =>
      obtain ⟨f1, ⟨p, f2, f3⟩, y, f4, f5⟩ := parts_facts hl hok
      obtain ⟨k1, k2, _, k4⟩ := keep_facts hl hok
      obtain ⟨N, hN⟩ : ∃ N, keepN l m [x] = N := ⟨_, rfl⟩
      obtain ⟨nl, hnl⟩ : ∃ nl, N.length = nl := ⟨_, rfl⟩
      rw [HPS.out, hN, HPL.out, hnl] at f1
      subst f1
      rw [HPS.out, HPL.out] at f2
      rw [HPS.out] at f3
      rw [hN, hnl] at f5
      rw [hN] at k1
      rw [hN, hnl] at k2
      rw [hN, hnl, f4] at k4
      have hpne : ((pl : Int) == 0) = false := by simp; omega
      have hW5b : Below w4.heap.size w4 (w4.alloc (.cells #[.int .i64 x] 3)) := (Below.refl _ _).alloc (Nat.le_refl _) _
      obtain ⟨W5, hW5⟩ : ∃ X, w4.alloc (.cells #[.int .i64 x] 3) = X := ⟨_, rfl⟩
      have hrx : IntR W5 (w4.heap.size + 1) (some ⟨w4.heap.size, 0, none⟩) 1 [x] := by
        refine ⟨rfl, fun _ => ⟨w4.heap.size, 0, rfl, by omega, fun k hk => ?_⟩⟩
        obtain rfl : k = 0 := by omega
        rw [← hW5]
        exact (Blk.made w4 3 #[.int .i64 x]).cell 0
      have hs5 : w4.heap.size + 1 ≤ W5.heap.size := by rw [← hW5]; simp
      rw [hW5] at hW5b
      have HB5 := Lib.hid (HB4.out.trans (hW5b.mono hs4))
      have HO5 : Hid (OwnN W5 w.heap.size (some ⟨g, 0, none⟩) m cap l) := own_below' HO4.out hW5b
      have HP5 : Hid (OwnI W5 w1.heap.size A2 pl c2 PS) := own_below' HP4.out hW5b
      have hkp := implKeep_any W5 W5.heap.size (some ⟨g, 0, none⟩) m cap l (w4.heap.size + 1) (some ⟨w4.heap.size, 0, none⟩) 1 1 [x] (Nat.le_refl _) (OwnN.reads HO5.out) (by omega) hs5 hrx (by omega)
      rw [hok, hN, f4] at hkp
      unfold KeepOut at hkp
      rw [hnl] at hkp
      have HKP := Lib.hid hkp
      have HK1 := Lib.hid k1
      have HK4 := Lib.hid k4
      have HF3 := Lib.hid f3
      have HF5 := Lib.hid f5
      have hp1 : (pl : Int) - 1 = (p : Int) := by omega
      have hppl : p < pl := by omega
      have hppi : (p : Int) < pl := by omega
      have hnne : ((pl : Int) != (pl : Int)) = false := by simp
      have HNL := Lib.hid hnl
      have hsw5 : w.heap.size ≤ W5.heap.size := HB5.out.size
      clear hkp k1 k4 f3 f5 hok hN f4 f2 hW5b hrx HO4 HP4 hnl hs5
      go_wp2_with fail
      refine HKP.out.mono ?_
      rintro e w6 ⟨A6, c6, A7, c7, rfl, ho6, hi6, hb6⟩
      have HB6 := Lib.hid (HB5.out.trans (hb6.mono hsw5))
      have HO6 : Hid (OwnN w6 w.heap.size (some ⟨g, 0, none⟩) m cap l) := own_below' HO5.out hb6
      have HP6 : Hid (OwnI w6 w1.heap.size A2 pl c2 PS) := own_below' HP5.out hb6
      have HG6 : Hid (OwnN w6 W5.heap.size A6 pl c6 N) := ho6
      have HH6 : Hid (OwnI w6 W5.heap.size A7 1 c7 [y]) := hi6
      have hs6 : w.heap.size ≤ w6.heap.size := HB6.out.size
      clear ho6 hi6 hb6 HO5 HP5 HKP hW5
      go_wp2_with fail
      refine (envs_any w6 B A n c 3 5 (by omega) (HBY.out.below (HB6.out.mono hB)) hn (by omega) (by omega)).mono ?_
      rintro e w7 ⟨ge, ce, env, rfl, he5, hebd, hoe, hb7⟩
      have hek : envOk env = true := by
        simp only [envOk, Bool.and_eq_true, decide_eq_true_eq, List.all_eq_true]
        exact ⟨he5, fun x hx => by have := hebd x hx; omega⟩
      obtain ⟨V, hv1, hv2⟩ := HK4.out env hek 0 (by simp)
      have hv1' : aevR l m x env = some V := hv1
      have hv2' : aevR N pl y env = some V := hv2
      have HB7 := Lib.hid (HB6.out.trans (hb7.mono hs6))
      have HO7 : Hid (OwnN w7 w.heap.size (some ⟨g, 0, none⟩) m cap l) := own_below' HO6.out hb7
      have HP7 : Hid (OwnI w7 w1.heap.size A2 pl c2 PS) := own_below' HP6.out hb7
      have HG7 : Hid (OwnN w7 W5.heap.size A6 pl c6 N) := own_below' HG6.out hb7
      have HH7 : Hid (OwnI w7 W5.heap.size A7 1 c7 [y]) := own_below' HH6.out hb7
      have HV7 := Lib.hid hoe
      have hs7 : w.heap.size ≤ w7.heap.size := HB7.out.size
      have hC1 := implAEval_any w7 w7.heap.size (some ⟨g, 0, none⟩) m cap l x w7.heap.size (some ⟨ge, 0, none⟩) 5 ce env T pv (by omega) (Nat.le_refl _) (OwnN.reads HO7.out) (by omega) (Nat.le_refl _) (OwnI.reads HV7.out) (by omega) (hE.below (HB7.out.mono hB) h0)
      rw [hv1'] at hC1
      have HC1 := Lib.hid hC1
      have HV2 := Lib.hid hv2'
      clear hek hebd he5 hoe hb7 hv1 hv2 hv1' hv2' hC1 HO6 HP6 HG6 HH6 HK4
      go_wp2_with fail
      refine HC1.out.mono ?_
      rintro e w8 ⟨rfl, hb8⟩
      unfold evalV
      have HB8 := Lib.hid (HB7.out.trans (hb8.mono hs7))
      have HO8 : Hid (OwnN w8 w.heap.size (some ⟨g, 0, none⟩) m cap l) := own_below' HO7.out hb8
      have HP8 : Hid (OwnI w8 w1.heap.size A2 pl c2 PS) := own_below' HP7.out hb8
      have HG8 : Hid (OwnN w8 W5.heap.size A6 pl c6 N) := own_below' HG7.out hb8
      have HH8 : Hid (OwnI w8 W5.heap.size A7 1 c7 [y]) := own_below' HH7.out hb8
      have HV8 := own_below' HV7.out hb8
      have hs8 : w.heap.size ≤ w8.heap.size := HB8.out.size
      obtain ⟨ga, rfl⟩ : ∃ ga, A7 = some ⟨ga, 0, none⟩ := by
        rcases HH8.out.2 with ⟨_, h⟩ | ⟨ga, _, _, h, _⟩
        · omega
        · injection h with h; exact ⟨ga, h⟩
      have d8 : w8.cell? ⟨ga, 0, none⟩ = some (.int .i64 y) := ownI_spot HH8.out (i := 0) (by omega)
      have hC2 := implAEval_any w8 w8.heap.size A6 pl c6 N y w8.heap.size (some ⟨ge, 0, none⟩) 5 ce env T pv (by omega) (Nat.le_refl _) (OwnN.reads HG8.out) (by omega) (Nat.le_refl _) (OwnI.reads HV8) (by omega) (hE.below (HB8.out.mono hB) h0)
      rw [HV2.out] at hC2
      have HC2 := Lib.hid hC2
      clear hb8 hC2 HO7 HP7 HG7 HH7 HV7 HV8 HC1
      go_wp2_with fail
      refine HC2.out.mono ?_
      rintro e w9 ⟨rfl, hb9⟩
      unfold evalV
      have HB9 := Lib.hid (HB8.out.trans (hb9.mono hs8))
      have HO9 : Hid (OwnN w9 w.heap.size (some ⟨g, 0, none⟩) m cap l) := own_below' HO8.out hb9
      have HP9 : Hid (OwnI w9 w1.heap.size A2 pl c2 PS) := own_below' HP8.out hb9
      have HG9 : Hid (OwnN w9 W5.heap.size A6 pl c6 N) := own_below' HG8.out hb9
      have HH9 : Hid (OwnI w9 W5.heap.size (some ⟨ga, 0, none⟩) 1 c7 [y]) := own_below' HH8.out hb9
      have hs9 : w.heap.size ≤ w9.heap.size := HB9.out.size
      obtain ⟨RR, hRR⟩ : ∃ RR, alvR l m x = RR := ⟨_, rfl⟩
      have hrl : (RR.getD []).length ≤ 24 := by
        rw [← hRR]
        unfold alvR
        split
        · split
          · simpa
          · simp
        · simp
      obtain ⟨rl, hrle⟩ : ∃ rl, (RR.getD []).length = rl := ⟨_, rfl⟩
      have hC3 := implALevel_any w9 w9.heap.size (some ⟨g, 0, none⟩) m cap l x T pv (by omega) (Nat.le_refl _) (OwnN.reads HO9.out) (by omega) (hE.below (HB9.out.mono hB) h0)
      rw [hRR] at hC3
      unfold ResP at hC3
      rw [hrle] at hC3 hrl
      have HC3 := Lib.hid hC3
      have HF6 : Hid (alvR N pl y = RR) := HF5.out.trans hRR
      have HRL := Lib.hid hrle
      clear hb9 hC3 HO8 HP8 HG8 HH8 HC2 d8 hRR hrle HF5
      go_wp2_with fail
      refine HC3.out.mono ?_
      rintro e wa ⟨A8, c8, rfl, hoa, hba⟩
      have HBa := Lib.hid (HB9.out.trans (hba.mono hs9))
      have HPa : Hid (OwnI wa w1.heap.size A2 pl c2 PS) := own_below' HP9.out hba
      have HGa : Hid (OwnN wa W5.heap.size A6 pl c6 N) := own_below' HG9.out hba
      have hHa : OwnI wa W5.heap.size (some ⟨ga, 0, none⟩) 1 c7 [y] := own_below' HH9.out hba
      have HTa := Lib.hid hoa
      have hsa : w.heap.size ≤ wa.heap.size := HBa.out.size
      have da : wa.cell? ⟨ga, 0, none⟩ = some (.int .i64 y) := ownI_spot hHa (i := 0) (by omega)
      have hC4 := implALevel_any wa wa.heap.size A6 pl c6 N y T pv (by omega) (Nat.le_refl _) (OwnN.reads HGa.out) (by omega) (hE.below (HBa.out.mono hB) h0)
      rw [HF6.out] at hC4
      unfold ResP at hC4
      rw [HRL.out] at hC4
      have HC4 := Lib.hid hC4
      clear hoa hba hHa hC4 HO9 HP9 HG9 HH9 HC3
      go_wp2_with fail
      refine HC4.out.mono ?_
      rintro e wb ⟨A9, c9, rfl, hob, hbb⟩
      have HBb := Lib.hid (HBa.out.trans (hbb.mono hsa))
      have HPb : Hid (OwnI wb w1.heap.size A2 pl c2 PS) := own_below' HPa.out hbb
      have HGb : Hid (OwnN wb W5.heap.size A6 pl c6 N) := own_below' HGa.out hbb
      have HTb : Hid (OwnT wb w9.heap.size A8 rl c8 (RR.getD [])) := own_below' HTa.out hbb
      have HUb := Lib.hid hob
      have hsb : w.heap.size ≤ wb.heap.size := HBb.out.size
      have hvv : (V == V) = true := by simp
      have hss : (RR.isSome == RR.isSome) = true := by simp
      have hxx : (x == x) = true := by simp
      clear hob hbb HPa HGa HTa HC4 da
      go_wp2_with fail
      refine (sameToks_eq wb wb.heap.size A8 A9 rl c8 c9 (RR.getD []) (Nat.le_refl _) (OwnT.reads HTb.out) (OwnT.reads HUb.out) (by omega)).mono ?_
      rintro e wc ⟨rfl, hbc⟩
      have HBc := Lib.hid (HBb.out.trans (hbc.mono hsb))
      have HPc : Hid (OwnI wc w1.heap.size A2 pl c2 PS) := own_below' HPb.out hbc
      have HGc : Hid (OwnN wc W5.heap.size A6 pl c6 N) := own_below' HGb.out hbc
      have hsc : w.heap.size ≤ wc.heap.size := HBc.out.size
      clear hbc HPb HGb HTb HUb
      go_wp2_with fail
      refine (implArenaOk_any wc wc.heap.size A6 pl c6 N (Nat.le_refl _) (OwnN.reads HGc.out) (by omega)).mono ?_
      rintro e wd ⟨rfl, hbd⟩
      rw [HK1.out]
      have HBd := Lib.hid (HBc.out.trans (hbd.mono hsc))
      have hPd : OwnI wd w1.heap.size A2 pl c2 PS := own_below' HPc.out hbd
      obtain ⟨gq, rfl⟩ : ∃ gq, A2 = some ⟨gq, 0, none⟩ := by
        rcases hPd.2 with ⟨_, h⟩ | ⟨gq, _, _, h, _⟩
        · omega
        · injection h with h; exact ⟨gq, h⟩
      have dp : wd.cell? ⟨gq, p, none⟩ = some (.int .i64 x) := by
        have h := ownI_spot hPd (i := p) hppl
        rw [HF3.out] at h
        exact h
      clear hbd hPd HPc HGc
      go_wp2
      go_ret
      exact ⟨rfl, HBd.out⟩
end Go.Proofs.YtfmhmnpmdjpmeaaDoor
