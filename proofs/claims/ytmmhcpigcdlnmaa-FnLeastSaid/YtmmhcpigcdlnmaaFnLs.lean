/- The law FnLeast: the walk. -/
import Derived.Test.YtmmhcpigcdlnmaaDrawC
import Derived.Test.YtmmhcpigcdlnmaaLeast2
import Derived.Test.YtmmhcpigcdlnmaaCore2
import Derived.Test.YtmmhcpigcdlnmaaHold2
import Derived.Test.YtmmhcpigcdlnmaaCsHd
import Derived.Test.YtmmhcpigcdlnmaaPtsG

namespace Go.Proofs.Ytmmhcpigcdlnmaa
open Go.RowKit
open Cs (Cn Tb)

theorem least_some (l : List Cn) : (leastO l).isSome = satR l := by
  unfold leastO
  cases satR l <;> rfl
theorem coreR_no {l : List Cn} (h : consOkR l = false ∨ satR l = true) : coreR l = [] := by
  unfold coreR
  rw [if_neg]
  rintro ⟨h1, h2⟩
  rcases h with h | h
  · rw [h] at h1; cases h1
  · rw [h] at h2; cases h2
/-- what is left of a list that cannot hold -/
def coreL (l : List Cn) : List Cn := Cs.skip l (Cs.coreTo l l.length)
theorem coreR_yes {l : List Cn} (h1 : consOkR l = true) (h2 : satR l = false) : coreR l = natI (Cs.keptI l (Cs.coreTo l l.length)) := if_pos ⟨h1, h2⟩
theorem coreL_len (l : List Cn) : (coreL l).length = (Cs.keptI l (Cs.coreTo l l.length)).length := by
  unfold coreL
  rw [Cs.skip_eq]
  simp [Cs.pickC]
theorem core_at {l : List Cn} {i : Nat} (hi : i < (coreL l).length) : ∃ j : Nat, j < l.length ∧ (natI (Cs.keptI l (Cs.coreTo l l.length))).getD i 0 = (j : Int) ∧ (coreL l).getD i (0, 0, 0) = l.getD j (0, 0, 0) := by
  have hi2 := hi
  rw [coreL_len] at hi2
  have hm := kept_mem (List.getElem_mem hi2)
  refine ⟨(Cs.keptI l (Cs.coreTo l l.length))[i], hm.1, ?_, ?_⟩
  · rw [natI_get _ hi2, List.getD_eq_getElem?_getD, List.getElem?_eq_getElem hi2]
    rfl
  · unfold coreL
    rw [Cs.skip_eq]
    simp [Cs.pickC, List.getD_eq_getElem?_getD, List.getElem?_map, List.getElem?_eq_getElem hi2]
theorem not_flat_of {l : List Cn} (h1 : consOkR l = true) (h2 : satR l = false) : Cs.flat l = false := by rw [← satR_ok h1]; exact h2
theorem core_alone {l : List Cn} (h1 : consOkR l = true) {i : Nat} (hi : i < (coreL l).length) : satR ((coreL l).eraseIdx i) = true := by
  obtain ⟨j, hj, hg, _, e2⟩ := skip_erase hi
  unfold coreL
  rw [e2, satR_skip h1]
  exact Cs.core_min (consOkR_ok h1).1 hj hg
theorem core_unsat {l : List Cn} (h1 : consOkR l = true) (h2 : satR l = false) : satR (coreL l) = false := by
  unfold coreL
  rw [satR_skip h1]
  exact Cs.core_bad (consOkR_ok h1).1 (not_flat_of h1 h2) _
theorem core_some {l : List Cn} (h1 : consOkR l = true) (h2 : satR l = false) : 0 < (coreL l).length := by
  rcases Nat.eq_zero_or_pos (coreL l).length with h | h
  · have e := core_unsat h1 h2
    rw [List.length_eq_zero_iff.1 h, satR_ok (by rfl), (Cs.sat_iff (l := []) (fun c hc => by cases hc)).2 ⟨fun _ => 0, ⟨rfl, fun _ => Int.le_refl _⟩, fun c hc => by cases hc⟩] at e
    cases e
  · exact h
theorem hold_not {l : List Cn} (h2 : satR l = false) (env : List Int) : consHoldR l env = false := by
  cases h : consHoldR l env with
  | false => rfl
  | true =>
    obtain ⟨h1, he⟩ := consHold_ok h
    have hs := (consHold_sat h1 he).1 h
    rw [satR_ok h1, (Cs.sat_iff (consOkR_ok h1).1).2 ⟨_, hs⟩] at h2
    cases h2
theorem rowA_any {A : Option Addr} {co : Nat} {w : World} {base k : Nat} {l : List Int} (h : OwnI w base A k co l) (hk : 0 < k) : ∃ g, A = some ⟨g, 0, none⟩ ∧ g < w.heap.size := by
  rcases h.2 with ⟨h0, hn⟩ | ⟨g, cap, cur, hv, _⟩
  · injection h0 with e1 e2 e3; omega
  · injection hv with e1 e2 e3; exact ⟨g, e1, (h.lt g (by rw [e1]; rfl)).2⟩
theorem rowA_cell {g co : Nat} {w : World} {base k i : Nat} {l : List Int} (h : OwnI w base (some ⟨g, 0, none⟩) k co l) (hi : i < k) : w.cell? ⟨g, i, none⟩ = some (.int .i64 (l.getD i 0)) := by
  obtain ⟨b, off, e, _, hc⟩ := (OwnI.reads h).2 (by omega)
  injection e with e
  injection e with e1 e2
  subst e1; subst e2
  have := hc i hi
  rw [Nat.zero_add] at this
  exact this
theorem take_next {L : List Cn} {i : Nat} (hi : i < L.length) : L.take (i + 1) = L.take i ++ [L.getD i (0, 0, 0)] := by
  rw [List.take_succ_eq_append_getElem hi, List.getD_eq_getElem?_getD, List.getElem?_eq_getElem hi]
  rfl
/-- what lies in the slot of each operation once it has come up -/
def LsC (gt ct M i : Nat) (W : World) (L : List Cn) (_U _R _V : Int) (j : Nat) (v : Value) : Prop :=
  match j with
  | 1 | 5 => v = .slice (some ⟨gt, 0, none⟩) M ct
  | 2 | 6 => v = .int .i64 (i : Int)
  | 3 => v = .slice (some ⟨gt, 0, none⟩) i ct
  | 7 => v = .int .i64 ((i : Int) + 1)
  | 8 => ∃ A' c', v = .slice (some A') (M - (i + 1)) c' ∧ ∀ j u, (conCells (L.drop (i + 1)))[j]? = some u → W.cell? (A'.add j) = some u
  | 10 => v = .bool true
  | 11 => v = .bool false
  | _ => True

set_option maxRecDepth 100000 in
set_option maxHeartbeats 16000000 in
theorem fnLeast_any (w : World) (B : Nat) (A : Option Addr) (n c : Nat) (hB : B ≤ w.heap.size) (hb : BytR w B A n) :
    Calls Try.prog 3 #[.slice A n c] w fun e w' => e = .returned (.bool true) ∧ Below w.heap.size w w' := by
  obtain ⟨i0, hi, hz0, hz1, hz2⟩ := info_parts info_con
  by_cases hbig : 1048576 < (n : Int)
  · go_enter Try.func3, Try.ntmps3
    go_wp2_with fail
    refine (big_any w A n c).mono ?_
    rintro e w' ⟨rfl, rfl⟩
    rw [decide_eq_true (by omega)]
    go_wp2
    go_ret
    exact ⟨rfl, Below.refl _ _⟩
  · have hn : n ≤ 1048576 := by omega
    go_enter Try.func3, Try.ntmps3
    go_wp2_with fail
    refine (big_any w A n c).mono ?_
    rintro e w' ⟨rfl, rfl⟩
    rw [decide_eq_false (by omega)]
    go_wp2_with fail
    refine (drawCore_any w B A n c hB hb hn).mono ?_
    rintro e w1 ⟨⟨g, cap, m, l, rfl, hm, ho1⟩, hb1⟩
    have HB1 := Lib.hid hb1
    have HO1 := Lib.hid ho1
    have hs1 := hb1.size
    have hlm : l.length = m := (OwnC.reads ho1).1
    have HLM := Lib.hid hlm
    clear ho1 hb1 hlm
    go_wp2_with fail
    refine (implConsLeast_any w1 w1.heap.size (some ⟨g, 0, none⟩) m cap l (Nat.le_refl _) (OwnC.reads HO1.out) (by omega)).mono ?_
    rintro e w2 ⟨Ae, ce, rfl, ho2, hb2⟩
    have HB2 := Lib.hid (HB1.out.trans (hb2.mono hs1))
    have HO2 := Lib.hid (own_below' HO1.out hb2)
    have HE2 := Lib.hid (own_base (base' := w.heap.size) ho2 hs1)
    have hs2 := HB2.out.size
    clear hb2 ho2 HO1 HB1
    go_wp2_with fail
    refine (specConsLeast_any w2 w2.heap.size (some ⟨g, 0, none⟩) m cap l (Nat.le_refl _) (OwnC.reads HO2.out) (by omega)).mono ?_
    rintro e w3 ⟨Av, cv, rfl, ho3, hb3⟩
    have HB3 := Lib.hid (HB2.out.trans (hb3.mono hs2))
    have HO3 := Lib.hid (own_below' HO2.out hb3)
    have HE3 := Lib.hid (own_below' HE2.out hb3)
    have HV3 := Lib.hid (own_base (base' := w.heap.size) ho3 hs2)
    have hs3 := HB3.out.size
    clear hb3 ho3 HO2 HB2 HE2
    go_wp2_with fail
    refine (implConsCore_any w3 w3.heap.size (some ⟨g, 0, none⟩) m cap l (Nat.le_refl _) (OwnC.reads HO3.out) (by omega)).mono ?_
    rintro e w4 ⟨Ac, cc, rfl, ho4, hb4⟩
    have HB4 := Lib.hid (HB3.out.trans (hb4.mono hs3))
    have HO4 := Lib.hid (own_below' HO3.out hb4)
    have HE4 := Lib.hid (own_below' HE3.out hb4)
    have HV4 := Lib.hid (own_below' HV3.out hb4)
    have HC4 := Lib.hid (own_base (base' := w.heap.size) ho4 hs3)
    have hs4 := HB4.out.size
    clear hb4 ho4 HO3 HB3 HE3 HV3
    cases hok : consOkR l with
    | false =>
      have hsat := satR_no hok
      have HK := Lib.hid hok
      have HF := Lib.hid (leastO_no hsat)
      have HCR := Lib.hid (coreR_no (.inl hok))
      have HS := Lib.hid hsat
      rw [HF.out] at HE4 HV4 ⊢
      rw [HCR.out] at HC4 ⊢
      simp only [Option.getD_none, Option.isSome_none, List.length_nil] at HE4 HV4 HC4 ⊢
      clear hok hsat
      go_wp2_with fail
      refine (same_any w4 w4.heap.size Ae Av 0 0 ce cv [] [] (Nat.le_refl _) (OwnI.reads HE4.out) (OwnI.reads HV4.out) (by omega) (by omega)).mono ?_
      rintro e w5 ⟨rfl, hb5⟩
      rw [decide_eq_true rfl]
      have HB5 := Lib.hid (HB4.out.trans (hb5.mono hs4))
      have HO5 := Lib.hid (own_below' HO4.out hb5)
      have HC5 := Lib.hid (own_below' HC4.out hb5)
      have hs5 := HB5.out.size
      clear hb5 HB4 HO4 HC4
      go_wp2_with fail
      refine (specConsCore_any w5 w5.heap.size (some ⟨g, 0, none⟩) m cap l (Nat.le_refl _) (OwnC.reads HO5.out) (by omega)).mono ?_
      rintro e w6 ⟨A6, c6, rfl, ho6, hb6⟩
      rw [HCR.out] at ho6 ⊢
      simp only [List.length_nil] at ho6 ⊢
      have HB6 := Lib.hid (HB5.out.trans (hb6.mono hs5))
      have HO6 := Lib.hid (own_below' HO5.out hb6)
      have HC6 := Lib.hid (own_below' HC5.out hb6)
      have hs6 := HB6.out.size
      have HX6 := Lib.hid (OwnI.reads ho6)
      clear hb6 ho6 HB5 HO5 HC5
      go_wp2_with fail
      refine (same_any w6 w6.heap.size Ac A6 0 0 cc c6 [] [] (Nat.le_refl _) (OwnI.reads HC6.out) HX6.out (by omega) (by omega)).mono ?_
      rintro e w7 ⟨rfl, hb7⟩
      rw [decide_eq_true rfl]
      have HB7 := Lib.hid (HB6.out.trans (hb7.mono hs6))
      have HO7 := Lib.hid (own_below' HO6.out hb7)
      have HC7 := Lib.hid (own_below' HC6.out hb7)
      have hs7 := HB7.out.size
      clear hb7 HB6 HO6 HC6 HX6
      go_wp2_with fail
      refine (implConsSat_any w7 w7.heap.size (some ⟨g, 0, none⟩) m cap l (Nat.le_refl _) (OwnC.reads HO7.out) (by omega)).mono ?_
      rintro e w8 ⟨rfl, hb8⟩
      rw [HS.out]
      have HB8 := Lib.hid (HB7.out.trans (hb8.mono hs7))
      have HO8 := Lib.hid (own_below' HO7.out hb8)
      have HC8 := Lib.hid (own_below' HC7.out hb8)
      have hs8 := HB8.out.size
      clear hb8 HB7 HO7 HC7
      go_wp2_with fail
      refine (specConsOk_any w8 w8.heap.size (some ⟨g, 0, none⟩) m cap l (Nat.le_refl _) (OwnC.reads HO8.out) (by omega)).mono ?_
      rintro e w9 ⟨rfl, hb9⟩
      rw [HK.out]
      have HB9 := Lib.hid (HB8.out.trans (hb9.mono hs8))
      clear hb9
      go_wp2
      go_ret
      exact ⟨rfl, HB9.out⟩
    | true =>
      have HK := Lib.hid hok
      cases hsat : satR l with
      | false =>
        have HS := Lib.hid hsat
        have HF := Lib.hid (leastO_no hsat)
        have HCR := Lib.hid (coreR_yes hok hsat)
        have HAT := Lib.hid (fun i h => core_at (l := l) (i := i) h)
        have HAL := Lib.hid (fun i h => core_alone hok (i := i) h)
        have HUN := Lib.hid (core_unsat hok hsat)
        have hpos := core_some hok hsat
        have hlen := coreL_len l
        rw [HF.out] at HE4 HV4 ⊢
        rw [HCR.out] at HC4 ⊢
        simp only [Option.getD_none, Option.isSome_none, List.length_nil] at HE4 HV4 ⊢
        obtain ⟨L, hL⟩ : ∃ L, coreL l = L := ⟨_, rfl⟩
        rw [hL] at HAT HAL HUN hpos hlen
        obtain ⟨K, hKK⟩ : ∃ K, natI (Cs.keptI l (Cs.coreTo l l.length)) = K := ⟨_, rfl⟩
        have hKL : K.length = L.length := by rw [← hKK, natI_len, hlen]
        rw [hKK] at HC4 HAT HCR ⊢
        rw [hKL] at HC4 ⊢
        obtain ⟨M, hM⟩ : ∃ M, L.length = M := ⟨_, rfl⟩
        have hMm : M ≤ m := by rw [← hM, ← hL, ← HLM.out]; exact Cs.skip_len _ _
        rw [hM] at HC4 HAT HAL hpos ⊢
        have HM := Lib.hid hM
        have hKM : Hid (K.length = M) := by show _ = _; rw [hKL, hM]
        clear hok hsat hL hKK hKL hlen hM
        go_wp2_with fail
        refine (same_any w4 w4.heap.size Ae Av 0 0 ce cv [] [] (Nat.le_refl _) (OwnI.reads HE4.out) (OwnI.reads HV4.out) (by omega) (by omega)).mono ?_
        rintro e w5 ⟨rfl, hb5⟩
        rw [decide_eq_true rfl]
        have HB5 := Lib.hid (HB4.out.trans (hb5.mono hs4))
        have HO5 := Lib.hid (own_below' HO4.out hb5)
        have HC5 := Lib.hid (own_below' HC4.out hb5)
        have hs5 := HB5.out.size
        clear hb5 HB4 HO4 HC4
        go_wp2_with fail
        refine (specConsCore_any w5 w5.heap.size (some ⟨g, 0, none⟩) m cap l (Nat.le_refl _) (OwnC.reads HO5.out) (by omega)).mono ?_
        rintro e w6 ⟨A6, c6, rfl, ho6, hb6⟩
        rw [HCR.out] at ho6 ⊢
        rw [hKM.out] at ho6 ⊢
        have HB6 := Lib.hid (HB5.out.trans (hb6.mono hs5))
        have HO6 := Lib.hid (own_below' HO5.out hb6)
        have HC6 := Lib.hid (own_below' HC5.out hb6)
        have hs6 := HB6.out.size
        have HX6 := Lib.hid (OwnI.reads ho6)
        clear hb6 ho6 HB5 HO5 HC5
        go_wp2_with fail
        refine (same_any w6 w6.heap.size Ac A6 M M cc c6 K K (Nat.le_refl _) (OwnI.reads HC6.out) HX6.out (by omega) (by omega)).mono ?_
        rintro e w7 ⟨rfl, hb7⟩
        rw [decide_eq_true rfl]
        have HB7 := Lib.hid (HB6.out.trans (hb7.mono hs6))
        have HO7 := Lib.hid (own_below' HO6.out hb7)
        have HC7 := Lib.hid (own_below' HC6.out hb7)
        have hs7 := HB7.out.size
        clear hb7 HB6 HO6 HC6 HX6
        go_wp2_with fail
        refine (implConsSat_any w7 w7.heap.size (some ⟨g, 0, none⟩) m cap l (Nat.le_refl _) (OwnC.reads HO7.out) (by omega)).mono ?_
        rintro e w8 ⟨rfl, hb8⟩
        rw [HS.out]
        have HB8 := Lib.hid (HB7.out.trans (hb8.mono hs7))
        have HO8 := Lib.hid (own_below' HO7.out hb8)
        have HC8 := Lib.hid (own_below' HC7.out hb8)
        have hs8 := HB8.out.size
        clear hb8 HB7 HO7 HC7
        go_wp2_with fail
        refine (specConsOk_any w8 w8.heap.size (some ⟨g, 0, none⟩) m cap l (Nat.le_refl _) (OwnC.reads HO8.out) (by omega)).mono ?_
        rintro e w9 ⟨rfl, hb9⟩
        rw [HK.out]
        have HB9 := Lib.hid (HB8.out.trans (hb9.mono hs8))
        have HO9 := Lib.hid (own_below' HO8.out hb9)
        have HC9 := Lib.hid (own_below' HC8.out hb9)
        have hs9 := HB9.out.size
        clear hb9 HB8 HO8 HC8
        go_wp2_with fail
        refine (envs_any w9 B A n c 3 3 (Nat.le_trans hB HB9.out.size) (hb.below (HB9.out.mono hB)) hn (by omega) (by omega)).mono ?_
        rintro e w10 ⟨ge, cge, env, rfl, he5, heb, hoe, hb10⟩
        have HB10 := Lib.hid (HB9.out.trans (hb10.mono hs9))
        have HO10 := Lib.hid (own_below' HO9.out hb10)
        have HC10 := Lib.hid (own_below' HC9.out hb10)
        have HN10 := Lib.hid (own_base (base' := w.heap.size) hoe hs9)
        have hs10 := HB10.out.size
        have HHN := Lib.hid (hold_not HS.out env)
        have HBY := Lib.hid hb
        clear hb10 hoe HB9 HO9 HC9 hb he5 heb
        have HP0 : Hid (OwnC (w10.alloc (.cells #[] 34)) w10.heap.size (some ⟨w10.heap.size, 0, none⟩) 0 0 (L.take 0)) := World.ownsRow_made w10 #[] 0 (Nat.le_refl _) (by simp [maxLen]) (by simp)
        have HBP : Hid (Below w10.heap.size w10 (w10.alloc (.cells #[] 34))) := (Below.refl _ _).alloc (Nat.le_refl _) _
        go_wp2
        go_loopw [10, 11] (fun v iv wr => ∃ (k gp cp : Nat), k ≤ M ∧ iv = .int .i64 k ∧ v = .slice (some ⟨gp, 0, none⟩) k cp ∧ Hid (Below w10.heap.size w10 wr) ∧ Hid (OwnC wr w10.heap.size (some ⟨gp, 0, none⟩) k cp (L.take k))) (fun _ iv _ => M - (intOf iv).toNat)
        case atStart => exact ⟨0, w10.heap.size, 0, by omega, rfl, rfl, HBP.out, HP0.out⟩
        case round =>
          clear HP0 HBP
          obtain ⟨k, gp, cp, hk, rfl, rfl, HBW, HP⟩ := hrel
          have hsw := HBW.out.size
          have HB := Lib.hid (HB10.out.trans (HBW.out.mono hs10))
          have HO := Lib.hid (own_below' HO10.out HBW.out)
          have HC := Lib.hid (own_below' HC10.out HBW.out)
          have HN := Lib.hid (own_below' HN10.out HBW.out)
          have hsr := HB.out.size
          by_cases hlt : k < M
          · have hki : (k : Int) < (M : Int) := by omega
            obtain ⟨j, hj, hkj, hLj⟩ := HAT.out k hlt
            rw [HLM.out] at hj
            obtain ⟨gc, rfl, hgc⟩ := rowA_any HC.out (by omega)
            have q0 := rowA_cell HC.out hlt
            rw [hkj] at q0
            have hji : (j : Int) < (m : Int) := by omega
            have hc := HO.out.cells (g := g) rfl
            have hat := conCells_at l j (by rw [HLM.out]; exact hj)
            have q1 := hc _ _ hat.1
            have q2 := hc _ _ hat.2.1
            have q3 := hc _ _ hat.2.2
            rw [own_adds] at q1 q2 q3
            have HTN := Lib.hid (take_next (L := L) (i := k) (by rw [HM.out]; exact hlt))
            rw [hLj] at HTN
            obtain ⟨t, ht⟩ : ∃ t, l.getD j (0, 0, 0) = t := ⟨_, rfl⟩
            rw [ht] at q1 q2 q3 HTN
            obtain ⟨U, R, V⟩ := t
            simp only at q1 q2 q3
            have hp := HP.out
            clear hc hat ht hkj hLj
            go_wp2_with (at_builtin; refine wpList_append_own _ rfl (.tmp 73) (.tmp 81) 24 rfl w10.heap.size 34 i0 (.agg #[.int .i64 0, .int .i64 0, .int .i64 0]) 3 24 Try.underlying24 hi hz0 hz1 hz2 rfl (by decide) (.slice (some ⟨gp, 0, none⟩) k cp) k (conCells (L.take k)) rfl (World.ownsRow.alloc hp _) ⟨wr.heap.size, 0, none⟩ 1 1 (conCells [(U, R, V)]) rfl rfl (con_new wr U R V) (conCells_one _) (by unfold maxLen; omega) (by omega) (by simp; omega) ?_; intro v' w5 hown' hgrow hnil)
            obtain ⟨g5, c5, rfl⟩ : ∃ g' c', v' = .slice (some ⟨g', 0, none⟩) (k + 1) c' := by
              rcases hown'.2 with ⟨h0, _⟩ | ⟨g', c', _, h0, _⟩
              · have := (hnil.1 h0).1
                cases this
              · exact ⟨g', c', h0⟩
            have hr5 : ∀ q, (Value.slice (some ⟨gp, 0, none⟩) k cp).ownBlock = some q → w10.heap.size ≤ q := fun q h => (hp.lt q h).1
            have HP5 : Hid (OwnC w5 w10.heap.size (some ⟨g5, 0, none⟩) (k + 1) c5 (L.take (k + 1))) := by
              show OwnC _ _ _ _ _ _
              rw [HTN.out]
              unfold OwnC
              rw [conCells_append]
              exact hown'
            have HBW5 : Hid (Below w10.heap.size w10 w5) := (HBW.out.alloc hsw _).grown hgrow (by simp; omega) hr5
            clear hown' hgrow hnil hp hr5 q0 q1 q2 q3 HB HO HC HN HP HBW
            go_wp2
            go_roundw
            case rel => exact ⟨k + 1, g5, c5, by omega, by go_num, rfl, HBW5.out, HP5.out⟩
            case measure => simp [intOf]; omega
          · have hki : ¬ (k : Int) < (M : Int) := by omega
            have HKM : Hid (k = M) := by show k = M; omega
            have HPM : Hid (OwnC wr w10.heap.size (some ⟨gp, 0, none⟩) M cp L) := by
              have h := HP.out
              rw [HKM.out, List.take_of_length_le (by rw [HM.out]; omega)] at h
              exact h
            have hkM : k = M := HKM.out
            clear HP HB HO HC HN hki HKM
            subst hkM
            go_wp2
            go_loopw [12] (fun v wr => ∃ i : Nat, i ≤ k ∧ v = .int .i64 i ∧ Hid (Below w10.heap.size w10 wr) ∧ Hid (OwnC wr w10.heap.size (some ⟨gp, 0, none⟩) k cp L)) (fun v _ => k - (intOf v).toNat)
            case atStart => exact ⟨0, by omega, rfl, HBW.out, HPM.out⟩
            case round =>
              clear HBW HPM
              obtain ⟨i, hiM, rfl, HBW, HPM⟩ := hrel
              have hsr2 := HBW.out.size
              by_cases hlt2 : i < k
              · have hii : (i : Int) < (k : Int) := by omega
                obtain ⟨hgt0, hMc⟩ : gp < wr.heap.size ∧ k ≤ cp := by
                  rcases HPM.out.2 with ⟨h0, hq⟩ | ⟨gt, cpp, cur, hv, _, _, hle, _⟩
                  · cases h0
                  · injection hv with e1 e2 e3
                    exact ⟨(HPM.out.lt gp rfl).2, by rw [e3]; exact hle⟩
                have hcells0 := HPM.out.cells (g := gp) rfl
                have HNO := Lib.hid (HAL.out i hlt2)
                have HCE := Lib.hid hcells0
                clear hcells0
                go_wp2_with fail
                obtain ⟨W, hW⟩ : ∃ W, wr.drew = W := ⟨_, rfl⟩
                have hbW : Below W.heap.size W wr.drew := by rw [hW]; exact Below.refl _ _
                have hgt : gp < W.heap.size := by rw [← hW]; exact hgt0
                have hcells : ∀ j u, (conCells L)[j]? = some u → W.cell? ((⟨gp, 0, none⟩ : Addr).add j) = some u := by rw [← hW]; exact HCE.out
                have hLM : L.length = k := HM.out
                have hM60 : k ≤ 60 := by omega
                rw [act_tm _ 139 rfl]
                refine region_slots2 139 _ (fun _ d f w' => PtsG 89 93 98 W L k i d f w') (fun j v _ => LsC gp cp k i W L 0 0 0 j v) (fun _ _ => True) (by kernel_rfl) (by kernel_rfl) ⟨hbW, (fun e => by cases e), (fun e => by cases e), (fun e => by cases e)⟩ (fun _ _ _ _ _ hx => hx) (AllFrom.all (AllFrom.cons ?o0 (AllFrom.cons ?o1 (AllFrom.cons ?o2 (AllFrom.cons ?o3 (AllFrom.cons ?o4 (AllFrom.cons ?o5 (AllFrom.cons ?o6 (AllFrom.cons ?o7 (AllFrom.cons ?o8 (AllFrom.cons ?o9 (AllFrom.cons ?o10 (AllFrom.cons ?o11 AllFrom.nil))))))))))))) ?fin
                case o0 =>
                  intro kk d f w3 hkk hun hcl hwt hG hf hC
                  have d4 := not_fed (top := 4) (by kernel_rfl) hcl (i := 0) (by omega) hun
                  have d9 := not_fed (top := 9) (by kernel_rfl) hcl (i := 0) (by omega) hun
                  refine op_wp rfl rfl fun K' hK' => ?_
                  go_simp
                  exact hK' _ _ ⟨.slice (some ⟨w3.heap.size, 0, none⟩) 0 0, rfl, trivial, hG.first d4 d9, trivial⟩
                case o1 =>
                  intro kk d f w3 hkk hun hcl hwt hG hf hC
                  have e0 : (tm 139 f).tmps[10]?.getD undef = .slice (some ⟨gp, 0, none⟩) k cp := (tm_get (by omega) f).trans (hf 10 (frame_of (by kernel_rfl)))
                  refine op_wp rfl rfl fun K' hK' => ?_
                  go_simp
                  exact hK' _ _ ⟨_, rfl, trivial, hG.same (by decide) (by decide) (by decide) (by decide) (by decide) (by decide), rfl⟩
                case o2 =>
                  intro kk d f w3 hkk hun hcl hwt hG hf hC
                  have e0 : (tm 139 f).tmps[12]?.getD undef = .int .i64 (i : Int) := (tm_get (by omega) f).trans (hf 12 (frame_of (by kernel_rfl)))
                  refine op_wp rfl rfl fun K' hK' => ?_
                  go_simp
                  exact hK' _ _ ⟨_, rfl, trivial, hG.same (by decide) (by decide) (by decide) (by decide) (by decide) (by decide), rfl⟩
                case o5 =>
                  intro kk d f w3 hkk hun hcl hwt hG hf hC
                  have e0 : (tm 139 f).tmps[10]?.getD undef = .slice (some ⟨gp, 0, none⟩) k cp := (tm_get (by omega) f).trans (hf 10 (frame_of (by kernel_rfl)))
                  refine op_wp rfl rfl fun K' hK' => ?_
                  go_simp
                  exact hK' _ _ ⟨_, rfl, trivial, hG.same (by decide) (by decide) (by decide) (by decide) (by decide) (by decide), rfl⟩
                case o6 =>
                  intro kk d f w3 hkk hun hcl hwt hG hf hC
                  have e0 : (tm 139 f).tmps[12]?.getD undef = .int .i64 (i : Int) := (tm_get (by omega) f).trans (hf 12 (frame_of (by kernel_rfl)))
                  refine op_wp rfl rfl fun K' hK' => ?_
                  go_simp
                  exact hK' _ _ ⟨_, rfl, trivial, hG.same (by decide) (by decide) (by decide) (by decide) (by decide) (by decide), rfl⟩
                case o3 =>
                  intro kk d f w3 hkk hun hcl hwt hG hf hC
                  have e1 : (tm 139 f).tmps[90]?.getD undef = .slice (some ⟨gp, 0, none⟩) k cp := (tm_get (by omega) f).trans (hC 1 (by kernel_rfl))
                  have e2 : (tm 139 f).tmps[91]?.getD undef = .int .i64 (i : Int) := (tm_get (by omega) f).trans (hC 2 (by kernel_rfl))
                  have hru := run_upto gp k cp i (by omega) hMc
                  refine op_wp rfl rfl fun K' hK' => ?_
                  go_simp
                  exact hK' _ _ ⟨_, rfl, trivial, hG.same (by decide) (by decide) (by decide) (by decide) (by decide) (by decide), rfl⟩
                case o4 =>
                  intro kk d f w3 hkk hun hcl hwt hG hf hC
                  have d9 := not_fed (top := 9) (by kernel_rfl) hcl (i := 4) (by omega) hun
                  have d0 : d 0 = true := hwt 0 (by kernel_rfl)
                  obtain ⟨q, hq, hown⟩ := hG.p0 d0 hun
                  have e1 : (tm 139 f).eval (.tmp 89) = .slice (some ⟨q, 0, none⟩) 0 0 := (tm_eval (by omega) f).trans hq
                  have e2 : (tm 139 f).eval (.tmp 92) = .slice (some ⟨gp, 0, none⟩) i cp := (tm_eval (by omega) f).trans (hC 3 (by kernel_rfl))
                  refine op_wp rfl rfl fun K' hK' => ?_
                  refine wp_append_own w3 (.tmp 89) (.tmp 92) 24 rfl W.heap.size 34 i0 (.agg #[.int .i64 0, .int .i64 0, .int .i64 0]) 3 24 Try.underlying24 hi hz0 hz1 hz2 rfl (by decide) (.slice (some ⟨q, 0, none⟩) 0 0) 0 (conCells []) e1 hown ⟨gp, 0, none⟩ i cp (conCells (L.take i)) e2 (by rw [conCells_len, List.length_take]; omega) (fun j u hu => (hG.bel.cell (by rw [own_adds]; exact hgt)).trans (hcells j u (conCells_take L i j u hu))) (conCells_one _) (by unfold maxLen; omega) (by omega) hG.bel.size ?_
                  intro v' w5 hown' hgrow hnil
                  obtain ⟨g5, c5, rfl⟩ : ∃ g' c', v' = .slice (some ⟨g', 0, none⟩) (i) c' := by
                    rcases hown'.2 with ⟨h0, _⟩ | ⟨g', c', _, h0, _⟩
                    · have := (hnil.1 h0).1
                      cases this
                    · rw [Nat.zero_add] at h0; exact ⟨g', c', h0⟩
                  have hB5 : Below W.heap.size W w5 := hG.bel.grown hgrow hG.bel.size (fun q h => (hown.lt q h).1)
                  have HO5 : OwnC w5 W.heap.size (some ⟨g5, 0, none⟩) i c5 (L.take i) := by
                    have h := hown'
                    rw [conCells_nil, List.nil_append, Nat.zero_add] at h
                    exact h
                  exact hK' _ _ ⟨_, rfl, trivial, PtsG.second d9 hB5 HO5, trivial⟩
                case o7 =>
                  intro kk d f w3 hkk hun hcl hwt hG hf hC
                  have e1 : (tm 139 f).tmps[95]?.getD undef = .int .i64 (i : Int) := (tm_get (by omega) f).trans (hC 6 (by kernel_rfl))
                  have hwr : IntKind.i64.wrap ((i : Int) + 1) = (i : Int) + 1 := IntWalk.i64_in _ ⟨by omega, by omega⟩
                  refine op_wp rfl rfl fun K' hK' => ?_
                  go_simp
                  exact hK' _ _ ⟨_, rfl, trivial, hG.same (by decide) (by decide) (by decide) (by decide) (by decide) (by decide), rfl⟩
                case o8 =>
                  intro kk d f w3 hkk hun hcl hwt hG hf hC
                  have e1 : (tm 139 f).tmps[94]?.getD undef = .slice (some ⟨gp, 0, none⟩) k cp := (tm_get (by omega) f).trans (hC 5 (by kernel_rfl))
                  have e2 : (tm 139 f).tmps[96]?.getD undef = .int .i64 ((i : Int) + 1) := (tm_get (by omega) f).trans (hC 7 (by kernel_rfl))
                  obtain ⟨A', hrf, hnews⟩ := run_from gp k cp (i + 1) (by omega) hMc
                  have hrf' : ∀ wx : World, (Instr.slice 24 (.slice (some ⟨gp, 0, none⟩) k cp) (some (.int .i64 ((i : Int) + 1))) none none).run Try.prog wx = .ok (.slice (some A') (k - (i + 1)) (cp - (i + 1))) wx := by
                    intro wx
                    have := hrf wx
                    rw [show ((i + 1 : Nat) : Int) = (i : Int) + 1 by omega] at this
                    exact this
                  have HN := Lib.hid hnews
                  clear hrf hnews
                  refine op_wp rfl rfl fun K' hK' => ?_
                  go_simp
                  exact hK' _ _ ⟨_, rfl, trivial, hG.same (by decide) (by decide) (by decide) (by decide) (by decide) (by decide), A', cp - (i + 1), rfl, fun j u hu => HN.out W L hLM (fun j u h => by have := hcells j u h; rwa [own_adds] at this) j u hu⟩
                case o9 =>
                  intro kk d f w3 hkk hun hcl hwt hG hf hC
                  have d4 : d 4 = true := hwt 4 (by kernel_rfl)
                  obtain ⟨q, cq, hq, hown⟩ := hG.p4 d4 hun
                  obtain ⟨A', c', hv8, hnews⟩ := hC 8 (by kernel_rfl)
                  have e1 : (tm 139 f).eval (.tmp 93) = .slice (some ⟨q, 0, none⟩) i cq := (tm_eval (by omega) f).trans hq
                  have e2 : (tm 139 f).eval (.tmp 97) = .slice (some A') (k - (i + 1)) c' := (tm_eval (by omega) f).trans hv8
                  refine op_wp rfl rfl fun K' hK' => ?_
                  refine wp_append_own w3 (.tmp 93) (.tmp 97) 24 rfl W.heap.size 34 i0 (.agg #[.int .i64 0, .int .i64 0, .int .i64 0]) 3 24 Try.underlying24 hi hz0 hz1 hz2 rfl (by decide) (.slice (some ⟨q, 0, none⟩) i cq) i (conCells (L.take i)) e1 hown A' (k - (i + 1)) c' (conCells (L.drop (i + 1))) e2 (by rw [conCells_len, List.length_drop]; omega) (fun j u hu => (hG.bel.cell (World.block_lt_of_cell? W _ (hnews j u hu))).trans (hnews j u hu)) (conCells_one _) (by unfold maxLen; omega) (by omega) hG.bel.size ?_
                  intro v' w5 hown' hgrow hnil
                  obtain ⟨g5, c5, rfl⟩ : ∃ g' c', v' = .slice (some ⟨g', 0, none⟩) (k - 1) c' := by
                    rcases hown'.2 with ⟨h0, _⟩ | ⟨g', c', _, h0, _⟩
                    · have := (hnil.1 h0).1
                      cases this
                    · rw [show i + (k - (i + 1)) = k - 1 by omega] at h0; exact ⟨g', c', h0⟩
                  have hB5 : Below W.heap.size W w5 := hG.bel.grown hgrow hG.bel.size (fun q h => (hown.lt q h).1)
                  have hM1 : i + (k - (i + 1)) = k - 1 := by omega
                  rw [hM1] at hown'
                  have HO5 : OwnC w5 W.heap.size (some ⟨g5, 0, none⟩) (k - 1) c5 (L.eraseIdx i) := by
                    have h := hown'
                    rw [← conCells_append, ← List.eraseIdx_eq_take_drop_succ] at h
                    exact h
                  exact hK' _ _ ⟨_, rfl, trivial, PtsG.third d4 hB5 HO5, trivial⟩
                case o10 =>
                  intro kk d f w3 hkk hun hcl hwt hG hf hC
                  have h9 : d 9 = true := hwt 9 (by kernel_rfl)
                  obtain ⟨q, cq, hq, hown⟩ := hG.p9 h9
                  have e1 : (tm 139 f).tmps[98]?.getD undef = .slice (some ⟨q, 0, none⟩) (k - 1) cq := (tm_get (by omega) f).trans hq
                  refine op_wp rfl rfl fun K' hK' => ?_
                  go_simp
                  refine (implConsSat_any w3 w3.heap.size (some ⟨q, 0, none⟩) (k - 1) cq (L.eraseIdx i) (Nat.le_refl _) (OwnC.reads hown) (by omega)).mono ?_
                  rintro e w4 ⟨rfl, hb4⟩
                  rw [HNO.out]
                  exact hK' _ _ ⟨_, rfl, trivial, hG.step hb4 (by decide) (by decide) (by decide) (by decide) (by decide) (by decide), rfl⟩
                case o11 =>
                  intro kk d f w3 hkk hun hcl hwt hG hf hC
                  have e1 : (tm 139 f).tmps[99]?.getD undef = .bool true := (tm_get (by omega) f).trans (hC 10 (by kernel_rfl))
                  refine op_wp rfl rfl fun K' hK' => ?_
                  go_simp
                  exact hK' _ _ ⟨_, rfl, trivial, hG.same (by decide) (by decide) (by decide) (by decide) (by decide) (by decide), rfl⟩
                case fin =>
                  intro k2 d f w3 hk2 hall hG hf hC
                  have e100 : f 100 = .bool false := hC 11 (by decide)
                  have hfr : ∀ t, t ∉ [89, 90, 91, 92, 93, 94, 95, 96, 97, 98, 99, 100] → f t = _ := fun t ht => hf t (covers_not (by kernel_rfl) ht)
                  rw [tm_frame 139 f _ _ hfr, ← act_tm _ 139 rfl]
                  have hgb := hG.bel
                  rw [← hW] at hgb
                  have HBW5 : Hid (Below w10.heap.size w10 w3) := (HBW.out.drew).trans (hgb.mono hsr2)
                  have HPM5 : Hid (OwnC w3 w10.heap.size (some ⟨gp, 0, none⟩) k cp L) := own_below' (show OwnC wr.drew w10.heap.size (some ⟨gp, 0, none⟩) k cp L from HPM.out) hgb
                  simp only [List.foldl_cons, List.foldl_nil, Act.put, List.setIfInBounds_toArray, List.set_cons_succ, List.set_cons_zero, e100]
                  generalize f 89 = v89
                  generalize f 90 = v90
                  generalize f 91 = v91
                  generalize f 92 = v92
                  generalize f 93 = v93
                  generalize f 94 = v94
                  generalize f 95 = v95
                  generalize f 96 = v96
                  generalize f 97 = v97
                  generalize f 98 = v98
                  generalize f 99 = v99
                  clear e100 hfr hG hf hC hall hcells hbW hW hLM hgb
                  go_wp2
                  go_roundw
                  case rel => exact ⟨i + 1, by omega, by go_num, HBW5.out, HPM5.out⟩
                  case measure => simp [intOf]; omega
              · have hii : ¬ (i : Int) < (k : Int) := by omega
                have hk0 : (0 : Int) < (k : Int) := by omega
                have HB := Lib.hid (HB10.out.trans (HBW.out.mono hs10))
                have HO := Lib.hid (own_below' HO10.out HBW.out)
                have HN := Lib.hid (own_below' HN10.out HBW.out)
                have hsr := HB.out.size
                go_wp2_with fail
                refine (implConsSat_any wr wr.heap.size (some ⟨gp, 0, none⟩) k cp L (Nat.le_refl _) (OwnC.reads HPM.out) (by omega)).mono ?_
                rintro e w11 ⟨rfl, hb11⟩
                rw [HUN.out]
                have HB11 := Lib.hid (HB.out.trans (hb11.mono hsr))
                have HO11 := Lib.hid (own_below' HO.out hb11)
                have HN11 := Lib.hid (own_below' HN.out hb11)
                have hs11 := HB11.out.size
                clear hb11
                go_wp2_with fail
                refine (implConsHold_any w11 w11.heap.size (some ⟨g, 0, none⟩) m cap l (some ⟨ge, 0, none⟩) 5 cge env (Nat.le_refl _) (OwnC.reads HO11.out) (by omega) (OwnI.reads HN11.out) (by omega)).mono ?_
                rintro e w12 ⟨rfl, hb12⟩
                rw [HHN.out]
                have HB12 := Lib.hid (HB11.out.trans (hb12.mono hs11))
                clear hb12
                go_wp2
                go_ret
                exact ⟨rfl, HB12.out⟩
      | true =>
        have HS := Lib.hid hsat
        have HF := Lib.hid (leastO_yes hsat)
        have HCR := Lib.hid (coreR_no (.inr hsat))
        have hfl : Cs.flat l = true := by rw [← satR_ok hok]; exact hsat
        have HLE := Lib.hid (fun (env : List Int) (h : consHoldR l env = true) (p : Nat) (hp : p < 5) => Cs.leastEnv_le (consOkR_ok hok).1 ((consHold_sat hok (consHold_ok h).2).1 h) hp)
        have HHE : Hid (consHoldR l (Cs.leastEnv l) = true) := (consHold_sat hok (leastEnv_ok hfl)).2 (Cs.leastEnv_sat (consOkR_ok hok).1 hfl)
        rw [HF.out] at HE4 HV4 ⊢
        rw [HCR.out] at HC4 ⊢
        simp only [Option.getD_some, Option.isSome_some, List.length_nil] at HE4 HV4 HC4 ⊢
        rw [Cs.leastEnv_len] at HE4 HV4 ⊢
        obtain ⟨E, hE⟩ : ∃ E, Cs.leastEnv l = E := ⟨_, rfl⟩
        rw [hE] at HE4 HV4 HLE HHE
        clear hok hsat hfl hE HF
        go_wp2_with fail
        refine (same_any w4 w4.heap.size Ae Av 5 5 ce cv E E (Nat.le_refl _) (OwnI.reads HE4.out) (OwnI.reads HV4.out) (by omega) (by omega)).mono ?_
        rintro e w5 ⟨rfl, hb5⟩
        rw [decide_eq_true rfl]
        have HB5 := Lib.hid (HB4.out.trans (hb5.mono hs4))
        have HO5 := Lib.hid (own_below' HO4.out hb5)
        have HE5 := Lib.hid (own_below' HE4.out hb5)
        have HC5 := Lib.hid (own_below' HC4.out hb5)
        have hs5 := HB5.out.size
        clear hb5 HB4 HO4 HC4 HE4
        go_wp2_with fail
        refine (specConsCore_any w5 w5.heap.size (some ⟨g, 0, none⟩) m cap l (Nat.le_refl _) (OwnC.reads HO5.out) (by omega)).mono ?_
        rintro e w6 ⟨A6, c6, rfl, ho6, hb6⟩
        rw [HCR.out] at ho6 ⊢
        simp only [List.length_nil] at ho6 ⊢
        have HB6 := Lib.hid (HB5.out.trans (hb6.mono hs5))
        have HO6 := Lib.hid (own_below' HO5.out hb6)
        have HE6 := Lib.hid (own_below' HE5.out hb6)
        have HC6 := Lib.hid (own_below' HC5.out hb6)
        have hs6 := HB6.out.size
        have HX6 := Lib.hid (OwnI.reads ho6)
        clear hb6 ho6 HB5 HO5 HC5 HE5
        go_wp2_with fail
        refine (same_any w6 w6.heap.size Ac A6 0 0 cc c6 [] [] (Nat.le_refl _) (OwnI.reads HC6.out) HX6.out (by omega) (by omega)).mono ?_
        rintro e w7 ⟨rfl, hb7⟩
        rw [decide_eq_true rfl]
        have HB7 := Lib.hid (HB6.out.trans (hb7.mono hs6))
        have HO7 := Lib.hid (own_below' HO6.out hb7)
        have HE7 := Lib.hid (own_below' HE6.out hb7)
        have HC7 := Lib.hid (own_below' HC6.out hb7)
        have hs7 := HB7.out.size
        clear hb7 HB6 HO6 HC6 HX6 HE6
        go_wp2_with fail
        refine (implConsSat_any w7 w7.heap.size (some ⟨g, 0, none⟩) m cap l (Nat.le_refl _) (OwnC.reads HO7.out) (by omega)).mono ?_
        rintro e w8 ⟨rfl, hb8⟩
        rw [HS.out]
        have HB8 := Lib.hid (HB7.out.trans (hb8.mono hs7))
        have HO8 := Lib.hid (own_below' HO7.out hb8)
        have HE8 := Lib.hid (own_below' HE7.out hb8)
        have HC8 := Lib.hid (own_below' HC7.out hb8)
        have hs8 := HB8.out.size
        clear hb8 HB7 HO7 HC7 HE7
        go_wp2_with fail
        refine (specConsOk_any w8 w8.heap.size (some ⟨g, 0, none⟩) m cap l (Nat.le_refl _) (OwnC.reads HO8.out) (by omega)).mono ?_
        rintro e w9 ⟨rfl, hb9⟩
        rw [HK.out]
        have HB9 := Lib.hid (HB8.out.trans (hb9.mono hs8))
        have HO9 := Lib.hid (own_below' HO8.out hb9)
        have HE9 := Lib.hid (own_below' HE8.out hb9)
        have hs9 := HB9.out.size
        clear hb9 HB8 HO8 HC8 HE8
        go_wp2_with fail
        refine (envs_any w9 B A n c 3 3 (Nat.le_trans hB HB9.out.size) (hb.below (HB9.out.mono hB)) hn (by omega) (by omega)).mono ?_
        rintro e w10 ⟨ge, cge, env, rfl, he5, heb, hoe, hb10⟩
        have HB10 := Lib.hid (HB9.out.trans (hb10.mono hs9))
        have HO10 := Lib.hid (own_below' HO9.out hb10)
        have HE10 := Lib.hid (own_below' HE9.out hb10)
        have HN10 := Lib.hid (own_base (base' := w.heap.size) hoe hs9)
        have hs10 := HB10.out.size
        clear hb10 hoe HB9 HO9 HE9 hb he5 heb
        go_wp2_with fail
        refine (implConsHold_any w10 w10.heap.size (some ⟨g, 0, none⟩) m cap l (some ⟨ge, 0, none⟩) 5 cge env (Nat.le_refl _) (OwnC.reads HO10.out) (by omega) (OwnI.reads HN10.out) (by omega)).mono ?_
        rintro e w11 ⟨rfl, hb11⟩
        have HB11 := Lib.hid (HB10.out.trans (hb11.mono hs10))
        have HO11 := Lib.hid (own_below' HO10.out hb11)
        have HE11 := Lib.hid (own_below' HE10.out hb11)
        have HN11 := Lib.hid (own_below' HN10.out hb11)
        have hs11 := HB11.out.size
        clear hb11 HB10 HO10 HE10 HN10
        cases hh : consHoldR l env with
        | false =>
          clear hh
          go_wp2_with fail
          refine (implConsHold_any w11 w11.heap.size (some ⟨g, 0, none⟩) m cap l Ae 5 ce E (Nat.le_refl _) (OwnC.reads HO11.out) (by omega) (OwnI.reads HE11.out) (by omega)).mono ?_
          rintro e w12 ⟨rfl, hb12⟩
          rw [HHE.out]
          have HB12 := Lib.hid (HB11.out.trans (hb12.mono hs11))
          clear hb12
          go_wp2
          go_ret
          exact ⟨rfl, HB12.out⟩
        | true =>
          have HLX := Lib.hid (HLE.out env hh)
          clear hh
          obtain ⟨gE, rfl, hgE⟩ := rowA_any HE11.out (by omega)
          have hgN := (HN11.out.lt ge rfl).2
          have HQE := Lib.hid (fun (p : Nat) (hp : p < 5) => rowA_cell HE11.out hp)
          have HQN := Lib.hid (fun (p : Nat) (hp : p < 5) => rowA_cell HN11.out hp)
          go_wp2
          go_loopw [13] (fun v wr => ∃ p : Nat, p ≤ 5 ∧ v = .int .i64 p ∧ Hid (Below w11.heap.size w11 wr)) (fun v _ => 5 - (intOf v).toNat)
          case atStart => exact ⟨0, by omega, rfl, Below.refl _ _⟩
          case round =>
            obtain ⟨p, hp5, rfl, HBW⟩ := hrel
            by_cases hlt : p < 5
            · have hpi : (p : Int) < 5 := by omega
              have q1 := (HBW.out.cell (p := ⟨gE, p, none⟩) hgE).trans (HQE.out p hlt)
              have q2 := (HBW.out.cell (p := ⟨ge, p, none⟩) hgN).trans (HQN.out p hlt)
              have hle := HLX.out p hlt
              obtain ⟨x, hx⟩ : ∃ x, env.getD p 0 = x := ⟨_, rfl⟩
              obtain ⟨y, hy⟩ : ∃ y, E.getD p 0 = y := ⟨_, rfl⟩
              rw [hx] at q2 hle
              rw [hy] at q1 hle
              have hxy : ¬ x < y := by omega
              have dxy : decide (x < y) = false := decide_eq_false hxy
              clear hx hy hle
              go_wp2_with fail
              go_region
              go_wp2
              go_roundw
              case rel => exact ⟨p + 1, by omega, by go_num, HBW.out.drew⟩
              case measure => simp [intOf]; omega
            · have hpi : ¬ (p : Int) < 5 := by omega
              have HBX := Lib.hid (HB11.out.trans (HBW.out.mono hs11))
              have HOX := Lib.hid (own_below' HO11.out HBW.out)
              have HEX := Lib.hid (own_below' HE11.out HBW.out)
              have hsx := HBX.out.size
              go_wp2_with fail
              refine (implConsHold_any wr wr.heap.size (some ⟨g, 0, none⟩) m cap l (some ⟨gE, 0, none⟩) 5 ce E (Nat.le_refl _) (OwnC.reads HOX.out) (by omega) (OwnI.reads HEX.out) (by omega)).mono ?_
              rintro e w12 ⟨rfl, hb12⟩
              rw [HHE.out]
              have HB12 := Lib.hid (HBX.out.trans (hb12.mono hsx))
              clear hb12
              go_wp2
              go_ret
              exact ⟨rfl, HB12.out⟩
end Go.Proofs.Ytmmhcpigcdlnmaa
