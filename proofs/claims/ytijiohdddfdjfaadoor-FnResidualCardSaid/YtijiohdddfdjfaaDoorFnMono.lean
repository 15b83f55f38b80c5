/- NormEval of the program and of the reference model. -/
/- ResidEval of the program and of the reference model. -/
/- laws.sameAtoms: two rows of atoms are compared. -/
/- The law FnMonotone: the plain fact and the walk. -/
import Derived.Test.YtijiohdddfdjfaaDoorNOk2
import Derived.Test.YtijiohdddfdjfaaDoorNOk3
import Derived.Test.YtijiohdddfdjfaaDoorROk2
import Derived.Test.YtijiohdddfdjfaaDoorSgOf
import Derived.Test.YtijiohdddfdjfaaDoorAtLaws
import Derived.Test.YtijiohdddfdjfaaDoorDraw2
import Derived.Test.YtijiohdddfdjfaaDoorSpecEval

namespace Go.Proofs.YtijiohdddfdjfaaDoor
open Go.RowKit

/-- what NormEval answers -/
noncomputable def nevR (l : List (Int × Int)) (env : List Int) : Option Int := if Nm.normOk l = true ∧ envOk env = true then some (Nm.value env l) else none
theorem nevR_bd {l : List (Int × Int)} {env : List Int} (hl : Nm.AllOk l) (he : envOk env = true) : Nm.value env l ≤ 2000 := by
  refine Nm.value_le (by omega) fun a ha => ?_
  have h1 := hl.mem ha
  have h2 := envOk_mem he
  unfold Nm.val
  split
  · omega
  · rw [List.getD_eq_getElem?_getD]
    cases hg : env[a.1.toNat]? with
    | none => simp; omega
    | some y => have := h2.2 y (List.mem_of_getElem? hg); simp; omega

theorem max_if (v x : Int) : (if v < x then x else v) = max v x := by split <;> omega
theorem env_at {env : List Int} (he : envOk env = true) (k : Nat) : 0 ≤ env.getD k 0 ∧ env.getD k 0 ≤ 1000 := by
  rw [List.getD_eq_getElem?_getD]
  cases hg : env[k]? with
  | none => simp
  | some y => exact (envOk_mem he).2 y (List.mem_of_getElem? hg)

set_option maxRecDepth 100000 in
set_option maxHeartbeats 1600000 in
theorem greatestValue_any (w : World) (B : Nat) (A : Option Addr) (n c : Nat) (l : List (Int × Int)) (A2 : Option Addr) (n2 c2 : Nat) (env : List Int) (hB : B ≤ w.heap.size) (hl : TokR w B A n l) (hn : (n : Int) ≤ 140737488355328)
    (hE : IntR w B A2 n2 env) (hok : Nm.AllOk l) (he : envOk env = true) :
    Calls Tryd.prog 53 #[.slice A n c, .slice A2 n2 c2] w fun e w' => e = .returned (.int .i64 (Nm.value env l)) ∧ Below w.heap.size w w' := by
  have hm := envOk_mem he
  obtain rfl : n2 = 5 := by rw [← hE.1]; exact hm.1
  obtain ⟨b2, off2, rfl, hb2, hc2⟩ := hE.2 (by omega)
  have HC2 := Lib.hid hc2
  have HE := Lib.hid he
  have HOK := Lib.hid hok
  clear hc2 hE hm he hok
  go_enter Tryd.func53, Tryd.ntmps53
  go_wp2
  go_loopw [5, 10] (fun v i wr => ∃ k : Nat, k ≤ n ∧ i = .int .i64 k ∧ v = .int .i64 (Nm.value env (l.take k)) ∧ Below w.heap.size w wr) (fun _ i _ => n - (intOf i).toNat)
  case atStart => exact ⟨0, Nat.zero_le _, rfl, rfl, Below.refl _ _⟩
  case round =>
    obtain ⟨k, hk, rfl, rfl, hbel⟩ := hrel
    by_cases hlt : k < n
    · have HV := Lib.hid (Nm.value_take env l k (by rw [hl.1]; exact hlt))
      have hat := (Nm.atOk_iff _).1 (HOK.out k (by rw [hl.1]; exact hlt))
      have hv0 := Nm.value_ge env (l.take k)
      obtain ⟨b, off, rfl, hb, hc⟩ := hl.2 (by omega)
      obtain ⟨e1, e2⟩ := hc k hlt
      generalize Nm.value env (l.take k) = v at HV hv0 ⊢
      generalize l.getD k (0, 0) = t at e1 e2 HV hat
      obtain ⟨p, x⟩ := t
      simp only at hat
      obtain ⟨g1, g2, g3, g4⟩ := hat
      have k1 := (hbel.cell (p := ⟨b, off + k * 2, none⟩) (by show b < _; omega)).trans e1
      have k2 := (hbel.cell (p := ⟨b, off + k * 2 + 1, none⟩) (by show b < _; omega)).trans e2
      have HBA := Lib.hid (hbel.alloc hbel.size (.cells #[.int .i64 p, .int .i64 x] 68))
      have HL := Lib.hid hl
      clear e1 e2 hc hl
      by_cases ep : p = -1
      · subst ep
        have HV2 : Hid (Nm.value env (l.take (k + 1)) = max v x) := by show _ = _; rw [HV.out]; simp [Nm.val]
        go_wp2
        go_roundw
        case rel => exact ⟨k + 1, by omega, by go_num, by rw [HV2.out, max_if], HBA.out⟩
        case measure => simp [intOf]; omega
      · have dp : (p == -1) = false := by simpa using ep
        have hp0 : 0 ≤ p := by omega
        obtain ⟨pn, rfl⟩ := Int.eq_ofNat_of_zero_le hp0
        have hy := env_at HE.out pn
        have e3 := HC2.out pn (by omega)
        have HV2 : Hid (Nm.value env (l.take (k + 1)) = max v (env.getD pn 0 + x)) := by show _ = _; rw [HV.out]; simp [Nm.val, ep]
        generalize env.getD pn 0 = y at hy e3 HV2
        obtain ⟨y1, y2⟩ := hy
        have k3 : (wr.alloc (.cells #[.int .i64 (pn : Int), .int .i64 x] 68)).cell? ⟨b2, off2 + pn, none⟩ = some (.int .i64 y) := (HBA.out.cell (p := ⟨b2, off2 + pn, none⟩) (by show b2 < _; omega)).trans e3
        have hpi : (pn : Int) < 5 := by omega
        have hw1 : IntKind.i64.wrap (y + x) = y + x := by rw [IntKind.wrap_i64]; omega
        have HBD := Lib.hid HBA.out.drew
        clear e3 ep
        go_wp2_with fail
        refine region_tail 9 (by kernel_rfl) (by kernel_rfl) ?_
        simp only [List.take_succ_cons, List.take_zero, List.drop_succ_cons, List.drop_zero]
        repeat still_step
        refine wpStill_nil ?_
        go_wp2
        go_roundw
        case rel => exact ⟨k + 1, by omega, by go_num, by rw [HV2.out, max_if], HBD.out⟩
        case measure => simp [intOf]; omega
    · have HF : Hid (Nm.value env (l.take k) = Nm.value env l) := by show _ = _; rw [List.take_of_length_le (by have := hl.1; omega)]
      clear hl
      go_wp2
      go_ret
      exact ⟨ret_int HF.out, hbel⟩

/-- what NormEval gives back -/
noncomputable def nevV (l : List (Int × Int)) (env : List Int) : Value := .tuple #[.int .i64 ((nevR l env).getD 0), .bool (nevR l env).isSome]
theorem nevR_no {l : List (Int × Int)} {env : List Int} (h : ¬ (Nm.normOk l = true ∧ envOk env = true)) : nevR l env = none := if_neg h
theorem nevR_yes {l : List (Int × Int)} {env : List Int} (h : Nm.normOk l = true ∧ envOk env = true) : nevR l env = some (Nm.value env l) := if_pos h

end Go.Proofs.YtijiohdddfdjfaaDoor

namespace Go.Proofs.YtijiohdddfdjfaaDoor
open Go.RowKit

/-- what ResidEval answers -/
noncomputable def revR (l : List (Int × Int)) (env : List Int) : Option Int := if Nm.residOk (Sg.sgR env) l = true then some (Nm.value env l) else none
/-- what ResidEval gives back -/
noncomputable def revV (l : List (Int × Int)) (env : List Int) : Value := .tuple #[.int .i64 ((revR l env).getD 0), .bool (revR l env).isSome]
theorem revR_no {l : List (Int × Int)} {env : List Int} (h : Nm.residOk (Sg.sgR env) l = false) : revR l env = none := if_neg (by rw [h]; decide)
theorem revR_yes {l : List (Int × Int)} {env : List Int} (h : Nm.residOk (Sg.sgR env) l = true) : revR l env = some (Nm.value env l) := if_pos h
theorem env_of_sign {l : List (Int × Int)} {env : List Int} (h : Nm.residOk (Sg.sgR env) l = true) : envOk env = true := by
  have h1 := ((Nm.residOk_iff _ _).1 h).1
  cases he : envOk env with
  | true => rfl
  | false =>
    unfold Sg.sgR at h1
    rw [he, if_neg (by decide)] at h1
    simp [Sg.isSign] at h1

set_option maxHeartbeats 800000 in
theorem implResidEval_any (w : World) (B : Nat) (A : Option Addr) (n c : Nat) (l : List (Int × Int)) (A2 : Option Addr) (n2 c2 : Nat) (env : List Int) (hB : B ≤ w.heap.size) (hl : TokR w B A n l) (hn : (n : Int) ≤ 140737488355328) (hc : n ≤ c)
    (hE : IntR w B A2 n2 env) (hn2 : (n2 : Int) ≤ 140737488355328) :
    Calls Tryd.prog 21 #[.slice A n c, .slice A2 n2 c2] w fun e w' => e = .returned (revV l env) ∧ Below w.heap.size w w' := by
  cases h1 : Nm.residOk (Sg.sgR env) l with
  | false =>
    have HF := Lib.hid (revR_no h1)
    have HO := Lib.hid h1
    clear h1
    go_enter Tryd.func21, Tryd.ntmps21
    go_wp2_with fail
    refine (implSignOf_any w B A2 n2 c2 env hE hn2).mono ?_
    rintro e w' ⟨rfl, rfl⟩
    go_wp2_with fail
    refine (implResidOk_any _ B A n c l (Sg.sgR env) hB hl hn hc).mono ?_
    rintro e w1 ⟨rfl, hb1⟩
    rw [HO.out]
    go_wp2
    go_ret2
    exact ⟨by rw [revV, HF.out]; rfl, hb1⟩
  | true =>
    have HF := Lib.hid (revR_yes h1)
    have HO := Lib.hid h1
    have HE2 := Lib.hid (env_of_sign h1)
    have HOK := Lib.hid ((Nm.residOk_iff _ l).1 h1).2.2.1
    clear h1
    go_enter Tryd.func21, Tryd.ntmps21
    go_wp2_with fail
    refine (implSignOf_any w B A2 n2 c2 env hE hn2).mono ?_
    rintro e w' ⟨rfl, rfl⟩
    go_wp2_with fail
    refine (implResidOk_any _ B A n c l (Sg.sgR env) hB hl hn hc).mono ?_
    rintro e w1 ⟨rfl, hb1⟩
    rw [HO.out]
    go_wp2_with fail
    refine (greatestValue_any w1 B A n c l A2 n2 c2 env (Nat.le_trans hB hb1.size) (hl.below (hb1.mono hB)) hn (hE.below (hb1.mono hB)) HOK.out HE2.out).mono ?_
    rintro e w3 ⟨rfl, hb3⟩
    have HB := Lib.hid (hb1.trans (hb3.mono hb1.size))
    clear hb1 hb3
    go_wp2
    go_ret2
    exact ⟨by rw [revV, HF.out]; rfl, HB.out⟩

end Go.Proofs.YtijiohdddfdjfaaDoor

namespace Go.Proofs.YtijiohdddfdjfaaDoor
open Go.RowKit

set_option maxRecDepth 100000 in
set_option maxHeartbeats 2000000 in
theorem sameAtoms_any (w : World) (B : Nat) (A1 A2 : Option Addr) (n1 n2 c1 c2 : Nat) (l m : List (Int × Int)) (hB : B ≤ w.heap.size) (hl : TokR w B A1 n1 l) (hm : TokR w B A2 n2 m)
    (hn1 : (n1 : Int) ≤ 1048576) (hn2 : (n2 : Int) ≤ 1048576) :
    Calls Tryd.prog 20 #[.slice A1 n1 c1, .slice A2 n2 c2] w fun e w' => e = .returned (.bool (decide (l = m))) ∧ Below w.heap.size w w' := by
  by_cases hne : n1 = n2
  · subst hne
    have en : ((n1 : Int) != (n1 : Int)) = false := by simp
    go_enter Tryd.func20, Tryd.ntmps20
    go_wp2
    go_loopw [5] (fun i wr => ∃ k : Nat, k ≤ n1 ∧ i = .int .i64 k ∧ Agree (0, 0) k l m ∧ Below w.heap.size w wr) (fun i _ => n1 - (intOf i).toNat)
    case atStart => exact ⟨0, Nat.zero_le _, rfl, (fun j hj => absurd hj (by omega)), Below.refl _ _⟩
    case round =>
      obtain ⟨k, hk, rfl, hag, hbel⟩ := hrel
      have HG := Lib.hid hag
      clear hag
      by_cases hlt : k < n1
      · obtain ⟨b, off, rfl, hb, hc⟩ := hl.2 (by omega)
        obtain ⟨x1, x2⟩ := hc k hlt
        obtain ⟨b', off', rfl, hb', hc'⟩ := hm.2 (by omega)
        obtain ⟨y1, y2⟩ := hc' k hlt
        have HL := Lib.hid hl
        have HM := Lib.hid hm
        obtain ⟨t, ht⟩ : ∃ t, l.getD k (0, 0) = t := ⟨_, rfl⟩
        obtain ⟨u, hu⟩ : ∃ u, m.getD k (0, 0) = u := ⟨_, rfl⟩
        rw [ht] at x1 x2
        rw [hu] at y1 y2
        obtain ⟨p, q⟩ := t
        obtain ⟨r, s⟩ := u
        have HT := Lib.hid ht
        have HU := Lib.hid hu
        have k1 := (hbel.cell (p := ⟨b, off + k * 2, none⟩) (by show b < _; omega)).trans x1
        have k2 := (hbel.cell (p := ⟨b, off + k * 2 + 1, none⟩) (by show b < _; omega)).trans x2
        have k3 := (hbel.cell (p := ⟨b', off' + k * 2, none⟩) (by show b' < _; omega)).trans y1
        have k4 := (hbel.cell (p := ⟨b', off' + k * 2 + 1, none⟩) (by show b' < _; omega)).trans y2
        have HB := Lib.hid hbel.drew
        clear x1 x2 y1 y2 hc hc' ht hu hl hm hbel
        have HF : Hid ((p, q) ≠ (r, s) → decide (l = m) = false) := by
          show _ → _
          intro heq
          rw [decide_eq_false_iff_not]
          intro h
          apply heq
          rw [← HT.out, ← HU.out, h]
        by_cases e1 : p = r
        · subst e1
          by_cases e2 : q = s
          · subst e2
            have HA : Hid (Agree (0, 0) (k + 1) l m) := agree_step HG.out (by rw [HT.out, HU.out])
            go_wp2_with fail
            go_region
            go_wp2
            go_roundw
            case rel => exact ⟨k + 1, by omega, by go_num, HA.out, HB.out⟩
            case measure => simp [intOf]; omega
          · have HF2 := Lib.hid (HF.out (by simp [e2]))
            have d2 : (q == s) = false := by simpa using e2
            clear e2
            go_wp2_with fail
            go_region
            go_wp2
            go_ret
            exact ⟨by rw [HF2.out]; rfl, HB.out⟩
        · have HF2 := Lib.hid (HF.out (by simp [e1]))
          have d1 : (p == r) = false := by simpa using e1
          clear e1
          go_wp2_with fail
          go_region
          go_wp2
          go_ret
          exact ⟨by rw [HF2.out]; rfl, HB.out⟩
      · obtain rfl : k = n1 := by omega
        have HF : Hid (decide (l = m) = true) := by
          show _ = _
          rw [decide_eq_true_eq]
          exact agree_all hl.1 hm.1 HG.out
        clear hl hm
        go_wp2
        go_ret
        exact ⟨by rw [HF.out]; rfl, hbel⟩
  · have HF : Hid (decide (l = m) = false) := by
      show _ = _
      rw [decide_eq_false_iff_not]
      intro h
      apply hne
      rw [← hl.1, ← hm.1, h]
    have en : ((n1 : Int) != (n2 : Int)) = true := by simp; omega
    clear hl hm hne
    go_enter Tryd.func20, Tryd.ntmps20
    go_wp2
    go_ret
    exact ⟨by rw [HF.out]; rfl, Below.refl _ _⟩
end Go.Proofs.YtijiohdddfdjfaaDoor

namespace Go.Proofs.YtijiohdddfdjfaaDoor
open Go.RowKit

/-- two stacks of one height, the first nowhere higher, nothing below zero -/
def LeS : List Int → List Int → Prop
  | [], [] => True
  | a :: s, b :: t => 0 ≤ a ∧ a ≤ b ∧ LeS s t
  | _, _ => False

theorem step_mono {e1 e2 : List Int} {t : Int × Int} {s s' u : List Int} (he : ∀ i, 0 ≤ e1.getD i 0 ∧ e1.getD i 0 ≤ e2.getD i 0) (hs : LeS s u) (h : Lv.step e1 t s = some s') : ∃ u', Lv.step e2 t u = some u' ∧ LeS s' u' := by
  unfold Lv.step at h ⊢
  by_cases hok : Lv.tkOk t = true
  · rw [if_pos hok] at h ⊢
    by_cases h0 : t.1 = 0
    · rw [if_pos h0] at h ⊢
      injection h with h
      subst h
      exact ⟨_, rfl, by omega, by omega, hs⟩
    · rw [if_neg h0] at h ⊢
      by_cases h4 : t.1 = 4
      · rw [if_pos h4] at h ⊢
        injection h with h
        subst h
        exact ⟨_, rfl, (he _).1, (he _).2, hs⟩
      · rw [if_neg h4] at h ⊢
        by_cases h1 : t.1 = 1
        · rw [if_pos h1] at h ⊢
          match s, u, hs, h with
          | a :: s, b :: u, hs, h =>
            simp only at h ⊢
            injection h with h
            subst h
            exact ⟨_, rfl, by have := hs.1; omega, by have := hs.2.1; omega, hs.2.2⟩
        · rw [if_neg h1] at h ⊢
          match s, u, hs, h with
          | b :: a :: s, d :: c :: u, hs, h =>
            simp only at h ⊢
            injection h with h
            subst h
            obtain ⟨q1, q2, q3, q4, q5⟩ := hs
            refine ⟨_, rfl, ?_, ?_, q5⟩
            · split <;> omega
            · by_cases h3 : t.1 = 3
              · by_cases hb : b = 0
                · rw [if_pos ⟨h3, hb⟩]
                  split <;> omega
                · rw [if_neg (fun hh => hb hh.2), if_neg (fun hh => by omega)]
                  omega
              · rw [if_neg (fun hh => h3 hh.1), if_neg (fun hh => h3 hh.1)]
                omega
          | [b], [d], hs, h => simp at h
          | [], [], hs, h => simp at h
  · rw [if_neg hok] at h; cases h
theorem run_mono {e1 e2 : List Int} (he : ∀ i, 0 ≤ e1.getD i 0 ∧ e1.getD i 0 ≤ e2.getD i 0) : ∀ (l : List (Int × Int)) (s u s' : List Int), LeS s u → Lv.run e1 l s = some s' → ∃ u', Lv.run e2 l u = some u' ∧ LeS s' u' := by
  intro l
  induction l with
  | nil =>
    intro s u s' hs h
    simp only [Lv.run] at h ⊢
    injection h with h
    subst h
    exact ⟨u, rfl, hs⟩
  | cons t r ih =>
    intro s u s' hs h
    simp only [Lv.run] at h ⊢
    cases hq : Lv.step e1 t s with
    | none => rw [hq] at h; cases h
    | some s1 =>
      rw [hq, Option.bind_some] at h
      obtain ⟨u1, hu, hl⟩ := step_mono he hs hq
      rw [hu, Option.bind_some]
      exact ih s1 u1 s' hl h
theorem eval_mono {e1 e2 : List Int} {l : List (Int × Int)} (hok : Lv.levelOk l = true) (he : ∀ i, 0 ≤ e1.getD i 0 ∧ e1.getD i 0 ≤ e2.getD i 0) : ∃ v u, Lv.eval e1 l = some v ∧ Lv.eval e2 l = some u ∧ v ≤ u := by
  obtain ⟨v, hv⟩ := Lv.run_of_ok (env := e1) hok
  obtain ⟨u', hu, hl⟩ := run_mono he l [] [] [v] trivial hv
  match u', hu, hl with
  | [u], hu, hl => exact ⟨v, u, by unfold Lv.eval; rw [if_pos hok, hv], by unfold Lv.eval; rw [if_pos hok, hu], hl.2.1⟩

theorem env_all {env : List Int} {m : Int} (h5 : env.length = 5) (h : ∀ j, j < 5 → 0 ≤ env.getD j 0 ∧ env.getD j 0 ≤ m) : ∀ x ∈ env, 0 ≤ x ∧ x ≤ m := by
  intro x hx
  obtain ⟨i, hi, rfl⟩ := List.mem_iff_getElem.1 hx
  have := h i (by omega)
  rwa [List.getD_eq_getElem?_getD, List.getElem?_eq_getElem hi] at this

end Go.Proofs.YtijiohdddfdjfaaDoor
