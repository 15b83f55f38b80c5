/- The law FnResidual: the walk. -/
import Derived.Test.YtijiohdddfdjfaaDoorSgDraw
import Derived.Test.YtijiohdddfdjfaaDoorIResid
import Derived.Test.YtijiohdddfdjfaaDoorRsMath3
import Derived.Test.YtijiohdddfdjfaaDoorFnMono
namespace Go.Proofs.YtijiohdddfdjfaaDoor
open Go.RowKit

theorem at_not {a b : World} {base g : Nat} {A : Option Addr} {n c : Nat} {xs : List Value} (h : OwnO a base A n c xs) (hk : Kp g a b) (hne : ∀ k, (Value.slice A n c).ownBlock = some k → k ≠ g) : OwnO b base A n c xs :=
  at_kept h hk fun k hk' e => hne k hk' (by injection e with e; exact e.symm)
theorem at_cap {w : World} {base : Nat} {A : Option Addr} {n c : Nat} {xs : List Value} (h : OwnO w base A n c xs) : n ≤ c := by
  rcases h.2 with ⟨_, h0, _⟩ | ⟨_, _, _, _, _, _, h1, _⟩
  · omega
  · exact h1

/-- the env that the law lays: 0 where the sign says so, one more elsewhere -/
def laidTo (s : Int) (env : List Int) (k : Nat) (j : Nat) : Int := if j < k then (if Sg.has s j = true then env.getD j 0 + 1 else 0) else env.getD j 0

theorem envOf_laid {s : Int} {env env' : List Int} (h5 : env'.length = 5) (he : ∀ i, 0 ≤ env.getD i 0 ∧ env.getD i 0 ≤ 4) (h : ∀ j, env'.getD j 0 = laidTo s env 5 j) : Nm.EnvOf s env' ∧ envOk env' = true := by
  have hj : ∀ j, j < 5 → 0 ≤ env'.getD j 0 ∧ env'.getD j 0 ≤ 5 := by
    intro j hj
    have := he j
    rw [h j]
    unfold laidTo
    rw [if_pos hj]
    split <;> omega
  have hall := env_all h5 hj
  refine ⟨⟨fun x hx => (hall x hx).1, fun p hp => ?_, fun p h0 h5' hp => ?_⟩, envOk_of h5 hall (by omega)⟩
  · have hb := Nm.has_bd hp
    have := he p.toNat
    rw [h, laidTo, if_pos (by omega), show ((p.toNat : Nat) : Int) = p by omega, if_pos hp]
    omega
  · rw [h, laidTo, if_pos (by omega), show ((p.toNat : Nat) : Int) = p by omega, if_neg (by rw [hp]; decide)]

set_option maxRecDepth 100000 in
set_option maxHeartbeats 8000000 in
theorem fnResidual_any (w : World) (B : Nat) (A : Option Addr) (n c : Nat) (T : TypeId) (pv : Value) (h0 : 0 < B) (hB : B ≤ w.heap.size)
    (hb : BytR w B A n) (hE : ErrAt w T pv) :
    Calls Tryd.prog 4 #[.slice A n c] w fun e w' => e = .returned (.bool true) ∧ Below w.heap.size w w' := by
  by_cases hbig : 1048576 < (n : Int)
  · go_enter Tryd.func4, Tryd.ntmps4
    go_wp2_with fail
    refine (big_any w A n c).mono ?_
    rintro e w' ⟨rfl, rfl⟩
    rw [decide_eq_true (by omega)]
    go_wp2
    go_ret
    exact ⟨rfl, Below.refl _ _⟩
  · have hn : n ≤ 1048576 := by omega
    go_enter Tryd.func4, Tryd.ntmps4
    go_wp2_with fail
    refine (big_any w A n c).mono ?_
    rintro e w' ⟨rfl, rfl⟩
    rw [decide_eq_false (by omega)]
    go_wp2_with fail
    refine (drawResidual_any w B A n c hB hb hn).mono ?_
    rintro e w5 ⟨g, cap, l, s, rfl, hl1, hl25, ol5, hB5⟩
    have s5 := hB5.size
    obtain ⟨L, hL⟩ : ∃ L, l.length = L := ⟨_, rfl⟩
    rw [hL] at hl1 hl25 ol5 ⊢
    have HB5 := Lib.hid hB5
    have HL5 := Lib.hid ol5
    have il5 := own_in ol5
    clear ol5 hB5
    go_wp2_with fail
    refine (implResidual_any w5 w5.heap.size (some ⟨g, 0, none⟩) L cap l s T pv (by omega) (Nat.le_refl _) (OwnT.reads HL5.out) (by omega) (hE.below (HB5.out.mono hB) h0)).mono ?_
    rintro e w6 ⟨A6, c6, rfl, ho6, hb6⟩
    have HB6 := Lib.hid (HB5.out.trans (hb6.mono s5))
    have HL6 := Lib.hid (own_below' HL5.out hb6)
    have s6 := HB6.out.size
    have s56 := hb6.size
    have hlen : ((Nm.residR s l).getD []).length ≤ 6 := by
      unfold Nm.residR
      split
      · exact Nm.rnorm_len _
      · simp
    obtain ⟨m, hm⟩ : ∃ m, ((Nm.residR s l).getD []).length = m := ⟨_, rfl⟩
    obtain ⟨ok, hok⟩ : ∃ ok, (Nm.residR s l).isSome = ok := ⟨_, rfl⟩
    rw [hm, hok]
    rw [hm] at ho6 hlen
    have HM := Lib.hid hm
    have HOK := Lib.hid hok
    have HO6 := Lib.hid ho6
    clear hb6 hm hok ho6
    go_wp2_with fail
    refine (specResidual_any w6 w6.heap.size (some ⟨g, 0, none⟩) L cap l s (Nat.le_refl _) (OwnT.reads HL6.out) (by omega)).mono ?_
    rintro e w7 ⟨A7, c7, rfl, ho7, hb7⟩
    rw [HM.out, HOK.out]
    rw [HM.out] at ho7
    have HB7 := Lib.hid (HB6.out.trans (hb7.mono s6))
    have HL7 := Lib.hid (own_below' HL6.out hb7)
    have s7 := HB7.out.size
    have s67 := hb7.size
    have HO67 := Lib.hid (at_below' HO6.out hb7)
    have HO7 := Lib.hid ho7
    clear hb7 ho7
    cases ok with
    | false =>
      go_wp2_with fail
      refine (sameAtoms_any w7 w7.heap.size A6 A7 m m c6 c7 _ _ (Nat.le_refl _) (at_reads HO67.out) (at_reads HO7.out) (by omega) (by omega)).mono ?_
      rintro e w8 ⟨rfl, hb8⟩
      rw [decide_eq_true rfl]
      have HB8 := Lib.hid (HB7.out.trans (hb8.mono s7))
      have HO68 := Lib.hid (at_below' HO67.out hb8)
      have HO8 := Lib.hid (at_below' HO7.out hb8)
      have s8 := HB8.out.size
      clear hb8
      go_wp2_with fail
      refine (sameAtoms_any w8 w8.heap.size A6 A7 m m c6 c7 _ _ (Nat.le_refl _) (at_reads HO68.out) (at_reads HO8.out) (by omega) (by omega)).mono ?_
      rintro e w9 ⟨rfl, hb9⟩
      rw [decide_eq_true rfl]
      have HB9 := Lib.hid (HB8.out.trans (hb9.mono s8))
      clear hb9
      go_wp2
      go_ret
      exact ⟨rfl, HB9.out⟩
    | true =>
      have hres : Lv.levelOk l = true ∧ Sg.isSign s = true := by
        by_cases h : Lv.levelOk l = true ∧ Sg.isSign s = true
        · exact h
        · have := HOK.out
          rw [residR_no h] at this
          cases this
      have HR := Lib.hid (residR_yes hres)
      have HS := Lib.hid hres
      have HRR : Hid ((Nm.residR s l).getD [] = Nm.rnorm (Nm.wl s l)) := by rw [Hid, HR.out]; rfl
      go_wp2_with fail
      refine (sameAtoms_any w7 w7.heap.size A6 A7 m m c6 c7 _ _ (Nat.le_refl _) (at_reads HO67.out) (at_reads HO7.out) (by omega) (by omega)).mono ?_
      rintro e w8 ⟨rfl, hb8⟩
      rw [decide_eq_true rfl]
      have HB8 := Lib.hid (HB7.out.trans (hb8.mono s7))
      have HL8 := Lib.hid (own_below' HL7.out hb8)
      have HO8 := Lib.hid (at_below' HO67.out hb8)
      have i68 := at_in HO67.out
      have s8 := HB8.out.size
      have s78 := hb8.size
      have be8 := hb.below (HB8.out.mono hB)
      clear hb8 HO67 HO7 HL5 HL6 HL7 HO6 HB5 HB6 HB7 hb hres
      go_wp2_with fail
      refine (envs_any w8 B A n c 3 4 (by omega) be8 hn (by omega) (by omega)).mono ?_
      rintro e w9 ⟨g1, cap1, env, rfl, h15, h1e, o19, hb9⟩
      have HB9 := Lib.hid (HB8.out.trans (hb9.mono s8))
      have HL9 := Lib.hid (own_below' HL8.out hb9)
      have HO9 := Lib.hid (at_below' HO8.out hb9)
      have s9 := HB9.out.size
      have s89 := hb9.size
      have hg1 := (o19.lt g1 rfl).1
      have H19 := Lib.hid o19
      have H1E := Lib.hid (fun i => getD_mem h1e (by omega) i)
      clear hb9 HL8 HO8 HB8 be8 o19 h1e
      go_wp2
      go_loopw [10] (fun i wr => ∃ (k : Nat) (env' : List Int), k ≤ 5 ∧ i = .int .i64 k ∧ env'.length = 5 ∧ Hid (∀ j, env'.getD j 0 = laidTo s env k j) ∧ OwnI wr w8.heap.size (some ⟨g1, 0, none⟩) 5 cap1 env' ∧ Kp g1 w9 wr) (fun i _ => 5 - (intOf i).toNat)
      case atStart => exact ⟨0, env, Nat.zero_le _, rfl, h15, (fun j => by unfold laidTo; rw [if_neg (by omega)]), H19.out, Kp.refl _ _⟩
      case round =>
        obtain ⟨k, env', hk, rfl, h5, hag, hown, hkp⟩ := hrel
        by_cases hlt : k < 5
        · have hlt' : (k : Int) < 5 := by omega
          obtain ⟨x3, f3⟩ := ownI_spot hown hlt
          have hgk := hag.out k
          unfold laidTo at hgk
          rw [if_neg (by omega)] at hgk
          have r1 := H1E.out k
          obtain ⟨y, hy⟩ : ∃ y, env.getD k 0 = y := ⟨_, rfl⟩
          rw [hgk, hy] at x3
          rw [hy] at r1
          obtain ⟨r11, r12⟩ := r1
          have HAG : ∀ v : Int, v = (if Sg.has s k = true then y + 1 else 0) → Hid (∀ j, (env'.set k v).getD j 0 = laidTo s env (k + 1) j) := by
            intro v hv j
            by_cases hjk : j = k
            · subst hjk
              rw [List.getD_eq_getElem?_getD, List.getElem?_set_self (by omega), laidTo, if_pos (by omega), hy, ← hv]
              rfl
            · rw [List.getD_eq_getElem?_getD, List.getElem?_set_ne (fun e => hjk e.symm), ← List.getD_eq_getElem?_getD, hag.out j]
              unfold laidTo
              by_cases hj : j < k
              · rw [if_pos hj, if_pos (show j < k + 1 by omega)]
              · rw [if_neg hj, if_neg (show ¬ j < k + 1 by omega)]
          have hlen' : ∀ v : Int, (env'.set k v).length = 5 := fun v => by simp [h5]
          have HO := fun v : Int => Lib.hid (ownI_put (i := k) hown v)
          have HK := fun v : Int => Lib.hid (hkp.trans (Kp.put wr g1 k (.int .i64 v)))
          clear hown hkp hy hag hgk
          go_wp2_with fail
          refine (implSignHas_any wr s k).mono ?_
          rintro e w' ⟨rfl, rfl⟩
          cases hh : Sg.has s k with
          | false =>
            have HAG0 := HAG 0 (by rw [hh, if_neg (by decide)])
            have HO0 := HO 0
            have HK0 := HK 0
            clear HAG HO HK hh
            go_wp2
            go_roundw
            case rel => exact ⟨k + 1, env'.set k 0, by omega, by go_num, hlen' 0, HAG0.out, HO0.out, HK0.out⟩
            case measure => simp [intOf]; omega
          | true =>
            have HAG0 := HAG (y + 1) (by rw [hh, if_pos rfl])
            have HO0 := HO (y + 1)
            have HK0 := HK (y + 1)
            clear HAG HO HK hh
            go_wp2
            go_roundw
            case rel => exact ⟨k + 1, env'.set k (y + 1), by omega, by go_num, hlen' _, HAG0.out, HO0.out, HK0.out⟩
            case measure => simp [intOf]; omega
        · obtain rfl : k = 5 := by omega
          have HLr := Lib.hid (own_not HL9.out hkp (fun q hq => by have := il5 q hq; omega))
          have HOr := Lib.hid (at_not HO9.out hkp (fun q hq => by have := i68 q hq; omega))
          have HBr := Lib.hid (Kp.below HB9.out hkp (by omega) s9)
          have HEr := Lib.hid (hE.below (HBr.out.mono hB) h0)
          have HVr := Lib.hid hown
          have sr := HBr.out.size
          obtain ⟨hof, hok5⟩ := envOf_laid h5 H1E.out hag.out
          obtain ⟨hwl0, hwl1, hwl2⟩ := wl_fine (s := s) HS.out.1
          have hev := Nm.eval_resid hof HS.out.1
          have hrk : Nm.residOk s (Nm.rnorm (Nm.wl s l)) = true := (Nm.residOk_iff _ _).2 (Nm.rnorm_rok HS.out.2 hwl0 hwl1 hwl2)
          have hsg := Nm.sgR_of HS.out.2 hok5 hof
          rw [← HRR.out] at hev hrk
          obtain ⟨R, hR⟩ : ∃ R, (Nm.residR s l).getD [] = R := ⟨_, rfl⟩
          rw [hR] at hev hrk HOr
          obtain ⟨V, hV⟩ : ∃ V, Nm.value env' R = V := ⟨_, rfl⟩
          have HEV : Hid (evalR env' l = some V) := by rw [Hid, ← hV]; unfold evalR; rw [if_pos hok5]; exact hev
          have HRV : Hid (revR R env' = some V) := by rw [Hid, ← hV]; exact revR_yes (by rw [hsg]; exact hrk)
          have HRK := Lib.hid hrk
          have hmc : m ≤ c6 := at_cap HOr.out
          have hm6 : ¬ ((6 : Int) < m) := by omega
          clear hag hkp hown hof hok5 hev hrk hsg hV hR HL9 HO9 HB9 H19 HRR HR HS hwl0 hwl1 hwl2
          go_wp2_with fail
          refine (levelEval_any wr wr.heap.size _ _ L cap 5 cap1 env' l T pv (by omega) (Nat.le_refl _) (OwnT.reads HLr.out) (by omega) (OwnI.reads HVr.out) (by omega) HEr.out).mono ?_
          rintro e wa ⟨rfl, hba⟩
          rw [HEV.out]
          unfold evalV
          have HBa := Lib.hid (HBr.out.trans (hba.mono sr))
          have HOa := Lib.hid (at_below' HOr.out hba)
          have HVa := Lib.hid (own_below' HVr.out hba)
          have sa := HBa.out.size
          clear hba HLr HOr HVr HBr
          go_wp2_with fail
          refine (implResidEval_any wa wa.heap.size A6 m c6 R _ 5 cap1 env' (Nat.le_refl _) (at_reads HOa.out) (by omega) hmc (OwnI.reads HVa.out) (by omega)).mono ?_
          rintro e wb ⟨rfl, hbb⟩
          unfold revV
          rw [HRV.out]
          have HBb := Lib.hid (HBa.out.trans (hbb.mono sa))
          have HOb := Lib.hid (at_below' HOa.out hbb)
          have sb := HBb.out.size
          clear hbb HOa HVa HBa
          simp only [Option.getD_some, Option.isSome_some]
          go_wp2_with fail
          refine (implResidOk_any wb wb.heap.size A6 m c6 R s (Nat.le_refl _) (at_reads HOb.out) (by omega) hmc).mono ?_
          rintro e wc ⟨rfl, hbc⟩
          rw [HRK.out]
          have HBc := Lib.hid (HBb.out.trans (hbc.mono sb))
          clear hbc HOb HBb
          go_wp2
          go_ret
          exact ⟨ret_bool (by simp), HBc.out⟩
end Go.Proofs.YtijiohdddfdjfaaDoor
