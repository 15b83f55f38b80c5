/- The law FnMonotone: the plain fact and the walk. -/
import Derived.Test.YtkpelkbkemohlaaDoorDraw2
import Derived.Test.YtkpelkbkemohlaaDoorSpecEval
namespace Go.Proofs.YtkpelkbkemohlaaDoor
open Go.RowKit

/-- two stacks of one height, the first nowhere higher, nothing below zero -/
def LeS : List Int → List Int → Prop
  | [], [] => True
  | a :: s, b :: t => 0 ≤ a ∧ a ≤ b ∧ LeS s t
  | _, _ => False

theorem step_mono {e1 e2 : List Int} {t : Int × Int} {s s' u : List Int} (he : ∀ i, 0 ≤ e1.getD i 0 ∧ e1.getD i 0 ≤ e2.getD i 0) (hs : LeS s u) (h : Lv.step e1 t s = some s') : ∃ u', Lv.step e2 t u = some u' ∧ LeS s' u' := by
  unfold Lv.step at h ⊢
  by_cases hok : Lv.tkOk t = true
  · rw [if_pos hok] at h ⊢
    by_cases h0 : t.1 = 0
    · rw [if_pos h0] at h ⊢
      injection h with h
      subst h
      exact ⟨_, rfl, by omega, by omega, hs⟩
    · rw [if_neg h0] at h ⊢
      by_cases h4 : t.1 = 4
      · rw [if_pos h4] at h ⊢
        injection h with h
        subst h
        exact ⟨_, rfl, (he _).1, (he _).2, hs⟩
      · rw [if_neg h4] at h ⊢
        by_cases h1 : t.1 = 1
        · rw [if_pos h1] at h ⊢
          match s, u, hs, h with
          | a :: s, b :: u, hs, h =>
            simp only at h ⊢
            injection h with h
            subst h
            exact ⟨_, rfl, by have := hs.1; omega, by have := hs.2.1; omega, hs.2.2⟩
        · rw [if_neg h1] at h ⊢
          match s, u, hs, h with
          | b :: a :: s, d :: c :: u, hs, h =>
            simp only at h ⊢
            injection h with h
            subst h
            obtain ⟨q1, q2, q3, q4, q5⟩ := hs
            refine ⟨_, rfl, ?_, ?_, q5⟩
            · split <;> omega
            · by_cases h3 : t.1 = 3
              · by_cases hb : b = 0
                · rw [if_pos ⟨h3, hb⟩]
                  split <;> omega
                · rw [if_neg (fun hh => hb hh.2), if_neg (fun hh => by omega)]
                  omega
              · rw [if_neg (fun hh => h3 hh.1), if_neg (fun hh => h3 hh.1)]
                omega
          | [b], [d], hs, h => simp at h
          | [], [], hs, h => simp at h
  · rw [if_neg hok] at h; cases h
theorem run_mono {e1 e2 : List Int} (he : ∀ i, 0 ≤ e1.getD i 0 ∧ e1.getD i 0 ≤ e2.getD i 0) : ∀ (l : List (Int × Int)) (s u s' : List Int), LeS s u → Lv.run e1 l s = some s' → ∃ u', Lv.run e2 l u = some u' ∧ LeS s' u' := by
  intro l
  induction l with
  | nil =>
    intro s u s' hs h
    simp only [Lv.run] at h ⊢
    injection h with h
    subst h
    exact ⟨u, rfl, hs⟩
  | cons t r ih =>
    intro s u s' hs h
    simp only [Lv.run] at h ⊢
    cases hq : Lv.step e1 t s with
    | none => rw [hq] at h; cases h
    | some s1 =>
      rw [hq, Option.bind_some] at h
      obtain ⟨u1, hu, hl⟩ := step_mono he hs hq
      rw [hu, Option.bind_some]
      exact ih s1 u1 s' hl h
theorem eval_mono {e1 e2 : List Int} {l : List (Int × Int)} (hok : Lv.levelOk l = true) (he : ∀ i, 0 ≤ e1.getD i 0 ∧ e1.getD i 0 ≤ e2.getD i 0) : ∃ v u, Lv.eval e1 l = some v ∧ Lv.eval e2 l = some u ∧ v ≤ u := by
  obtain ⟨v, hv⟩ := Lv.run_of_ok (env := e1) hok
  obtain ⟨u', hu, hl⟩ := run_mono he l [] [] [v] trivial hv
  match u', hu, hl with
  | [u], hu, hl => exact ⟨v, u, by unfold Lv.eval; rw [if_pos hok, hv], by unfold Lv.eval; rw [if_pos hok, hu], hl.2.1⟩

theorem env_all {env : List Int} {m : Int} (h5 : env.length = 5) (h : ∀ j, j < 5 → 0 ≤ env.getD j 0 ∧ env.getD j 0 ≤ m) : ∀ x ∈ env, 0 ≤ x ∧ x ≤ m := by
  intro x hx
  obtain ⟨i, hi, rfl⟩ := List.mem_iff_getElem.1 hx
  have := h i (by omega)
  rwa [List.getD_eq_getElem?_getD, List.getElem?_eq_getElem hi] at this

set_option maxRecDepth 100000 in
set_option maxHeartbeats 8000000 in
theorem fnMono_any (w : World) (B : Nat) (A : Option Addr) (n c : Nat) (T : TypeId) (pv : Value) (h0 : 0 < B) (hB : B ≤ w.heap.size)
    (hb : BytR w B A n) (hE : ErrAt w T pv) :
    Calls Tryd.prog 6 #[.slice A n c] w fun e w' => e = .returned (.bool true) ∧ Below w.heap.size w w' := by
  by_cases hbig : 1048576 < (n : Int)
  · go_enter Tryd.func6, Tryd.ntmps6
    go_wp2_with fail
    refine (big_any w A n c).mono ?_
    rintro e w' ⟨rfl, rfl⟩
    rw [decide_eq_true (by omega)]
    go_wp2
    go_ret
    exact ⟨rfl, Below.refl _ _⟩
  · have hn : n ≤ 1048576 := by omega
    go_enter Tryd.func6, Tryd.ntmps6
    go_wp2_with fail
    refine (big_any w A n c).mono ?_
    rintro e w' ⟨rfl, rfl⟩
    rw [decide_eq_false (by omega)]
    go_wp2_with fail
    refine (drawEval_any w B A n c hB hb hn).mono ?_
    rintro e w5 ⟨g, cap, l, A', n', c', rfl, hl1, hl25, ol5, hB5⟩
    have s5 := hB5.size
    obtain ⟨L, hL⟩ : ∃ L, l.length = L := ⟨_, rfl⟩
    rw [hL] at hl1 hl25 ol5 ⊢
    have be5 := hb.below (hB5.mono hB)
    go_wp2_with fail
    refine (envs_any w5 B A n c 3 4 (by omega) be5 hn (by omega) (by omega)).mono ?_
    rintro e w6 ⟨g1, cap1, env1, rfl, h15, h1e, o16, hb6⟩
    have hB6 := hB5.trans (hb6.mono s5)
    have s6 := hB6.size
    have ol6 := own_below' ol5 hb6
    clear ol5 hb6 be5
    have be6 := hb.below (hB6.mono hB)
    go_wp2_with fail
    refine (envs_any w6 B A n c 9 4 (by omega) be6 hn (by omega) (by omega)).mono ?_
    rintro e w7 ⟨g2, cap2, env2, rfl, h25, h2e, o27, hb7⟩
    have hB7 := hB6.trans (hb7.mono s6)
    have s7 := hB7.size
    have hg2 := (o27.lt g2 rfl).1
    have il6 := own_in ol6
    have i16 := own_in o16
    have HL7 := Lib.hid (own_below' ol6 hb7)
    have H17 := Lib.hid (own_below' o16 hb7)
    have H27 := Lib.hid o27
    have H1E := Lib.hid (fun i => getD_mem h1e (by omega) i)
    have H2E := Lib.hid (fun i => getD_mem h2e (by omega) i)
    have H1O := Lib.hid (envOk_of h15 h1e (by omega))
    have HB7 := Lib.hid hB7
    clear ol6 o16 o27 hb7 be6 h1e h2e hB7
    go_wp2
    go_loopw [7] (fun i wr => ∃ (k : Nat) (env : List Int), k ≤ 5 ∧ i = .int .i64 k ∧ env.length = 5 ∧ Hid (∀ j, env.getD j 0 = if j < k then env2.getD j 0 + env1.getD j 0 else env2.getD j 0) ∧ OwnI wr w6.heap.size (some ⟨g2, 0, none⟩) 5 cap2 env ∧ Kp g2 w7 wr) (fun i _ => 5 - (intOf i).toNat)
    case atStart => exact ⟨0, env2, Nat.zero_le _, rfl, h25, (fun j => by rw [if_neg (by omega)]), H27.out, Kp.refl _ _⟩
    case round =>
      obtain ⟨k, env, hk, rfl, h5, hag, hown, hkp⟩ := hrel
      have o1r := own_not H17.out hkp (fun q hq => by have := i16 q hq; omega)
      by_cases hlt : k < 5
      · have hlt' : (k : Int) < 5 := by omega
        have x2 := (ownI_spot o1r hlt).1
        obtain ⟨x3, f3⟩ := ownI_spot hown hlt
        have hgk := hag.out k
        rw [if_neg (by omega)] at hgk
        have r1 := H1E.out k
        have r2 := H2E.out k
        obtain ⟨y, hy⟩ : ∃ y, env1.getD k 0 = y := ⟨_, rfl⟩
        obtain ⟨z, hz⟩ : ∃ z, env2.getD k 0 = z := ⟨_, rfl⟩
        rw [hy] at x2 r1
        rw [hgk, hz] at x3
        rw [hz] at r2
        obtain ⟨r11, r12⟩ := r1
        obtain ⟨r21, r22⟩ := r2
        have HO := Lib.hid (ownI_put (i := k) hown (z + y))
        have HK := Lib.hid (hkp.trans (Kp.put wr g2 k (.int .i64 (z + y))))
        have HAG : Hid (∀ j, (env.set k (z + y)).getD j 0 = if j < k + 1 then env2.getD j 0 + env1.getD j 0 else env2.getD j 0) := by
          intro j
          by_cases hjk : j = k
          · subst hjk
            rw [List.getD_eq_getElem?_getD, List.getElem?_set_self (by omega), if_pos (by omega), hy, hz]
            rfl
          · rw [List.getD_eq_getElem?_getD, List.getElem?_set_ne (fun e => hjk e.symm), ← List.getD_eq_getElem?_getD, hag.out j]
            by_cases hj : j < k
            · rw [if_pos hj, if_pos (by omega)]
            · rw [if_neg hj, if_neg (by omega)]
        have hlen : (env.set k (z + y)).length = 5 := by simp [h5]
        clear o1r hown hkp hy hz hag hgk
        go_wp2_with fail
        go_region
        go_wp2
        go_roundw
        case rel => exact ⟨k + 1, env.set k (z + y), by omega, by go_num, hlen, HAG.out, HO.out, HK.out.drew⟩
        case measure => simp [intOf]; omega
      · obtain rfl : k = 5 := by omega
        have olr := own_not HL7.out hkp (fun q hq => by have := il6 q hq; omega)
        have hBr : Below w.heap.size w wr := Kp.below HB7.out hkp (by omega) s7
        have sr := hBr.size
        have heq : ∀ i, i < 5 → env.getD i 0 = env2.getD i 0 + env1.getD i 0 := fun i hi => by rw [hag.out i, if_pos hi]
        have hO2 : envOk env = true := envOk_of h5 (env_all (m := 8) h5 (fun j hj => by have := heq j hj; have := H1E.out j; have := H2E.out j; omega)) (by omega)
        have hle : ∀ i, 0 ≤ env1.getD i 0 ∧ env1.getD i 0 ≤ env.getD i 0 := by
          intro i
          by_cases hi : i < 5
          · have := heq i hi
            have := H1E.out i
            have := H2E.out i
            omega
          · rw [List.getD_eq_getElem?_getD, List.getD_eq_getElem?_getD, List.getElem?_eq_none (by omega), List.getElem?_eq_none (by omega)]
            simp
        obtain ⟨R1, R2, hR1, hR2, hiff, hcmp⟩ : ∃ R1 R2 : Option Int, evalR env1 l = R1 ∧ evalR env l = R2 ∧ R1.isSome = Lv.levelOk l ∧ R2.isSome = Lv.levelOk l ∧ R1.getD 0 ≤ R2.getD 0 := by
          refine ⟨_, _, rfl, rfl, ?_⟩
          unfold evalR
          rw [if_pos H1O.out, if_pos hO2]
          cases hok : Lv.levelOk l with
          | true =>
            obtain ⟨v, u, hv, hu, hvu⟩ := eval_mono hok hle
            rw [hv, hu]
            exact ⟨rfl, rfl, hvu⟩
          | false =>
            have : ∀ e, Lv.eval e l = none := fun e => by unfold Lv.eval; rw [if_neg (by rw [hok]; decide)]
            rw [this, this]
            exact ⟨rfl, rfl, Int.le_refl _⟩
        obtain ⟨hiff2, hcmp⟩ := hcmp
        have H1 := Lib.hid hR1
        have H2 := Lib.hid hR2
        have HOR := Lib.hid olr
        have H1R := Lib.hid o1r
        have H2R := Lib.hid hown
        have HI1 := Lib.hid hiff
        have HI2 := Lib.hid hiff2
        obtain ⟨x, hx⟩ : ∃ x, R1.getD 0 = x := ⟨_, rfl⟩
        obtain ⟨y, hy⟩ : ∃ y, R2.getD 0 = y := ⟨_, rfl⟩
        rw [hx, hy] at hcmp
        have HX := Lib.hid hx
        have HY := Lib.hid hy
        clear hag hkp o1r hown olr HL7 H17 H27 H1E H2E H1O HB7 heq hO2 hle hR1 hR2 hiff hiff2 hx hy
        go_wp2_with fail
        refine (levelEval_any wr wr.heap.size _ _ L cap 5 cap1 env1 l T pv (by omega) (Nat.le_refl _) (OwnT.reads HOR.out) (by omega) (OwnI.reads H1R.out) (by omega) (hE.below (hBr.mono hB) h0)).mono ?_
        rintro e w8 ⟨rfl, hb8⟩
        rw [H1.out, evalV_form, HX.out, HI1.out]
        have hB8 := hBr.trans (hb8.mono sr)
        have s8 := hB8.size
        have HL8 := Lib.hid (own_below' HOR.out hb8)
        have H18 := Lib.hid (own_below' H1R.out hb8)
        have H28 := Lib.hid (own_below' H2R.out hb8)
        clear HOR H1R H2R hb8 hBr
        go_wp2_with fail
        refine (levelEval_any w8 w8.heap.size _ _ L cap 5 cap2 env l T pv (by omega) (Nat.le_refl _) (OwnT.reads HL8.out) (by omega) (OwnI.reads H28.out) (by omega) (hE.below (hB8.mono hB) h0)).mono ?_
        rintro e w9 ⟨rfl, hb9⟩
        rw [H2.out, evalV_form, HY.out, HI2.out]
        have hB9 := hB8.trans (hb9.mono s8)
        have s9 := hB9.size
        have HL9 := Lib.hid (own_below' HL8.out hb9)
        have H19 := Lib.hid (own_below' H18.out hb9)
        clear HL8 H18 H28 hb9 hB8
        go_wp2_with fail
        refine (specEval_any w9 w9.heap.size _ _ L cap 5 cap1 env1 l (Nat.le_refl _) (OwnT.reads HL9.out) (by omega) (OwnI.reads H19.out) (by omega)).mono ?_
        rintro e w10 ⟨rfl, hb10⟩
        rw [H1.out, evalV_form, HX.out, HI1.out]
        have hB10 := hB9.trans (hb10.mono s9)
        have s10 := hB10.size
        have HL10 := Lib.hid (own_below' HL9.out hb10)
        clear HL9 H19 hb10 hB9
        go_wp2_with fail
        refine (specOk_any w10 w10.heap.size _ L cap l (Nat.le_refl _) (OwnT.reads HL10.out) (by omega)).mono ?_
        rintro e w11 ⟨rfl, hb11⟩
        have HB11 := Lib.hid (hB10.trans (hb11.mono s10))
        clear HL10 hb11 hB10
        cases hok : Lv.levelOk l with
        | true =>
          clear hok
          go_wp2
          go_ret
          exact ⟨ret_bool (by simp), HB11.out⟩
        | false =>
          clear hok
          go_wp2
          go_ret
          exact ⟨ret_bool (by simp), HB11.out⟩
end Go.Proofs.YtkpelkbkemohlaaDoor
