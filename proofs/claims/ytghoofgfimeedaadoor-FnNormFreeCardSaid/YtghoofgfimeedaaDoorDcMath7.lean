/- NormEval of the program and of the reference model. -/
/- Plain facts: levels without OpImax are compared as their norms are. -/
import Derived.Test.YtghoofgfimeedaaDoorNOk2
import Derived.Test.YtghoofgfimeedaaDoorNUp
import Derived.Test.YtghoofgfimeedaaDoorDcMath6

namespace Go.Proofs.YtghoofgfimeedaaDoor
open Go.RowKit

/-- what NormEval answers -/
noncomputable def nevR (l : List (Int × Int)) (env : List Int) : Option Int := if Nm.normOk l = true ∧ envOk env = true then some (Nm.value env l) else none
theorem nevR_bd {l : List (Int × Int)} {env : List Int} (hl : Nm.AllOk l) (he : envOk env = true) : Nm.value env l ≤ 2000 := by
  refine Nm.value_le (by omega) fun a ha => ?_
  have h1 := hl.mem ha
  have h2 := envOk_mem he
  unfold Nm.val
  split
  · omega
  · rw [List.getD_eq_getElem?_getD]
    cases hg : env[a.1.toNat]? with
    | none => simp; omega
    | some y => have := h2.2 y (List.mem_of_getElem? hg); simp; omega

theorem max_if (v x : Int) : (if v < x then x else v) = max v x := by split <;> omega
theorem env_at {env : List Int} (he : envOk env = true) (k : Nat) : 0 ≤ env.getD k 0 ∧ env.getD k 0 ≤ 1000 := by
  rw [List.getD_eq_getElem?_getD]
  cases hg : env[k]? with
  | none => simp
  | some y => exact (envOk_mem he).2 y (List.mem_of_getElem? hg)

set_option maxRecDepth 100000 in
set_option maxHeartbeats 1600000 in
theorem greatestValue_any (w : World) (B : Nat) (A : Option Addr) (n c : Nat) (l : List (Int × Int)) (A2 : Option Addr) (n2 c2 : Nat) (env : List Int) (hB : B ≤ w.heap.size) (hl : TokR w B A n l) (hn : (n : Int) ≤ 140737488355328)
    (hE : IntR w B A2 n2 env) (hok : Nm.AllOk l) (he : envOk env = true) :
    Calls Tryd.prog 67 #[.slice A n c, .slice A2 n2 c2] w fun e w' => e = .returned (.int .i64 (Nm.value env l)) ∧ Below w.heap.size w w' := by
  have hm := envOk_mem he
  obtain rfl : n2 = 5 := by rw [← hE.1]; exact hm.1
  obtain ⟨b2, off2, rfl, hb2, hc2⟩ := hE.2 (by omega)
  have HC2 := Lib.hid hc2
  have HE := Lib.hid he
  have HOK := Lib.hid hok
  clear hc2 hE hm he hok
  go_enter Tryd.func67, Tryd.ntmps67
  go_wp2
  go_loopw [5, 10] (fun v i wr => ∃ k : Nat, k ≤ n ∧ i = .int .i64 k ∧ v = .int .i64 (Nm.value env (l.take k)) ∧ Below w.heap.size w wr) (fun _ i _ => n - (intOf i).toNat)
  case atStart => exact ⟨0, Nat.zero_le _, rfl, rfl, Below.refl _ _⟩
  case round =>
    obtain ⟨k, hk, rfl, rfl, hbel⟩ := hrel
    by_cases hlt : k < n
    · have HV := Lib.hid (Nm.value_take env l k (by rw [hl.1]; exact hlt))
      have hat := (Nm.atOk_iff _).1 (HOK.out k (by rw [hl.1]; exact hlt))
      have hv0 := Nm.value_ge env (l.take k)
      obtain ⟨b, off, rfl, hb, hc⟩ := hl.2 (by omega)
      obtain ⟨e1, e2⟩ := hc k hlt
      generalize Nm.value env (l.take k) = v at HV hv0 ⊢
      generalize l.getD k (0, 0) = t at e1 e2 HV hat
      obtain ⟨p, x⟩ := t
      simp only at hat
      obtain ⟨g1, g2, g3, g4⟩ := hat
      have k1 := (hbel.cell (p := ⟨b, off + k * 2, none⟩) (by show b < _; omega)).trans e1
      have k2 := (hbel.cell (p := ⟨b, off + k * 2 + 1, none⟩) (by show b < _; omega)).trans e2
      have HBA := Lib.hid (hbel.alloc hbel.size (.cells #[.int .i64 p, .int .i64 x] 67))
      have HL := Lib.hid hl
      clear e1 e2 hc hl
      by_cases ep : p = -1
      · subst ep
        have HV2 : Hid (Nm.value env (l.take (k + 1)) = max v x) := by show _ = _; rw [HV.out]; simp [Nm.val]
        go_wp2
        go_roundw
        case rel => exact ⟨k + 1, by omega, by go_num, by rw [HV2.out, max_if], HBA.out⟩
        case measure => simp [intOf]; omega
      · have dp : (p == -1) = false := by simpa using ep
        have hp0 : 0 ≤ p := by omega
        obtain ⟨pn, rfl⟩ := Int.eq_ofNat_of_zero_le hp0
        have hy := env_at HE.out pn
        have e3 := HC2.out pn (by omega)
        have HV2 : Hid (Nm.value env (l.take (k + 1)) = max v (env.getD pn 0 + x)) := by show _ = _; rw [HV.out]; simp [Nm.val, ep]
        generalize env.getD pn 0 = y at hy e3 HV2
        obtain ⟨y1, y2⟩ := hy
        have k3 : (wr.alloc (.cells #[.int .i64 (pn : Int), .int .i64 x] 67)).cell? ⟨b2, off2 + pn, none⟩ = some (.int .i64 y) := (HBA.out.cell (p := ⟨b2, off2 + pn, none⟩) (by show b2 < _; omega)).trans e3
        have hpi : (pn : Int) < 5 := by omega
        have hw1 : IntKind.i64.wrap (y + x) = y + x := by rw [IntKind.wrap_i64]; omega
        have HBD := Lib.hid HBA.out.drew
        clear e3 ep
        go_wp2_with fail
        refine region_tail 9 (by kernel_rfl) (by kernel_rfl) ?_
        simp only [List.take_succ_cons, List.take_zero, List.drop_succ_cons, List.drop_zero]
        repeat still_step
        refine wpStill_nil ?_
        go_wp2
        go_roundw
        case rel => exact ⟨k + 1, by omega, by go_num, by rw [HV2.out, max_if], HBD.out⟩
        case measure => simp [intOf]; omega
    · have HF : Hid (Nm.value env (l.take k) = Nm.value env l) := by show _ = _; rw [List.take_of_length_le (by have := hl.1; omega)]
      clear hl
      go_wp2
      go_ret
      exact ⟨ret_int HF.out, hbel⟩

/-- what NormEval gives back -/
noncomputable def nevV (l : List (Int × Int)) (env : List Int) : Value := .tuple #[.int .i64 ((nevR l env).getD 0), .bool (nevR l env).isSome]
theorem nevR_no {l : List (Int × Int)} {env : List Int} (h : ¬ (Nm.normOk l = true ∧ envOk env = true)) : nevR l env = none := if_neg h
theorem nevR_yes {l : List (Int × Int)} {env : List Int} (h : Nm.normOk l = true ∧ envOk env = true) : nevR l env = some (Nm.value env l) := if_pos h

set_option maxRecDepth 100000 in
set_option maxHeartbeats 800000 in
theorem implNormEval_any (w : World) (B : Nat) (A : Option Addr) (n c : Nat) (l : List (Int × Int)) (A2 : Option Addr) (n2 c2 : Nat) (env : List Int) (hB : B ≤ w.heap.size) (hl : TokR w B A n l) (hn : (n : Int) ≤ 140737488355328) (hc : n ≤ c)
    (hE : IntR w B A2 n2 env) (hn2 : (n2 : Int) ≤ 140737488355328) :
    Calls Tryd.prog 21 #[.slice A n c, .slice A2 n2 c2] w fun e w' => e = .returned (nevV l env) ∧ Below w.heap.size w w' := by
  cases h1 : Nm.normOk l with
  | false =>
    have HF : Hid (nevR l env = none) := nevR_no (fun h => by rw [h1] at h; cases h.1)
    have HO := Lib.hid h1
    clear h1
    go_enter Tryd.func21, Tryd.ntmps21
    go_wp2_with fail
    refine (implNormOk_any w B A n c l hB hl hn hc).mono ?_
    rintro e w1 ⟨rfl, hb1⟩
    rw [HO.out]
    go_wp2
    go_ret2
    exact ⟨by rw [nevV, HF.out]; rfl, hb1⟩
  | true =>
    have HO := Lib.hid h1
    have HOK := Lib.hid ((Nm.normOk_iff l).1 h1).2.1
    clear h1
    cases h2 : envOk env with
    | false =>
      have HF : Hid (nevR l env = none) := nevR_no (fun h => by rw [h2] at h; cases h.2)
      have HO2 := Lib.hid h2
      clear h2
      go_enter Tryd.func21, Tryd.ntmps21
      go_wp2_with fail
      refine (implNormOk_any w B A n c l hB hl hn hc).mono ?_
      rintro e w1 ⟨rfl, hb1⟩
      rw [HO.out]
      go_wp2_with fail
      refine (envOk_any w1 B A2 n2 c2 env (hE.below (hb1.mono hB)) hn2).mono ?_
      rintro e w2 ⟨rfl, rfl⟩
      rw [HO2.out]
      go_wp2
      go_ret2
      exact ⟨by rw [nevV, HF.out]; rfl, hb1⟩
    | true =>
      have HF : Hid (nevR l env = some (Nm.value env l)) := nevR_yes ⟨HO.out, h2⟩
      have HO2 := Lib.hid h2
      clear h2
      go_enter Tryd.func21, Tryd.ntmps21
      go_wp2_with fail
      refine (implNormOk_any w B A n c l hB hl hn hc).mono ?_
      rintro e w1 ⟨rfl, hb1⟩
      rw [HO.out]
      go_wp2_with fail
      refine (envOk_any w1 B A2 n2 c2 env (hE.below (hb1.mono hB)) hn2).mono ?_
      rintro e w2 ⟨rfl, rfl⟩
      rw [HO2.out]
      go_wp2_with fail
      refine (greatestValue_any w1 B A n c l A2 n2 c2 env (Nat.le_trans hB hb1.size) (hl.below (hb1.mono hB)) hn (hE.below (hb1.mono hB)) HOK.out HO2.out).mono ?_
      rintro e w3 ⟨rfl, hb3⟩
      have HB := Lib.hid (hb1.trans (hb3.mono hb1.size))
      clear hb1 hb3
      go_wp2
      go_ret2
      exact ⟨by rw [nevV, HF.out]; rfl, HB.out⟩

end Go.Proofs.YtghoofgfimeedaaDoor

namespace Go.Proofs.YtghoofgfimeedaaDoor.Dc
open Go.Proofs.YtghoofgfimeedaaDoor.Nm

theorem free_ev {l : List (Int × Int)} {a : List At} (h : freeR l = some a) : Lv.levelOk l = true ∧ Ok a ∧ (∀ x ∈ a, x.2 ≤ 24) ∧ ∀ env, Pos env → ev env l = value env a := by
  unfold freeR at h
  split at h
  · rename_i hc
    injection h with h
    subst h
    obtain ⟨q, hq⟩ := prun_one hc.1 hc.2
    have hf := fine_run hq
    have hql : leafs l = q := by unfold leafs; rw [hq]; rfl
    have hl := (ok_two hc.1).2
    have hfq := hf q (by simp)
    rw [hql]
    refine ⟨hc.1, norm_ok hfq.1 (hf.allOk (by omega) (by simp)), fun x hx => ?_, fun env hp => ?_⟩
    · have := (hfq.2 x (norm_sub hx)).2.2.2
      omega
    · have := eval_leafs hp hc.1 hc.2
      unfold ev
      rw [this, hql]
      rfl
  · cases h
theorem peak_len (p : Int) : (peak p).length = 5 := by simp [peak]
theorem peak_pos (p : Int) : Pos (peak p) := fun x hx => by
  obtain ⟨k, hk, rfl⟩ := List.getElem_of_mem hx
  have hk5 : k < 5 := by rw [peak_len] at hk; exact hk
  have := peak_get p k hk5
  rw [List.getD_eq_getElem?_getD, List.getElem?_eq_getElem hk, Option.getD_some] at this
  rw [this]
  split <;> omega
theorem free_le {a b : List At} (ha : Ok a) (hb : Ok b) (hb24 : ∀ x ∈ b, x.2 ≤ 24) (h : ∀ env : List Int, env.length = 5 → Pos env → value env a ≤ value env b) : Le a b := by
  apply Classical.byContradiction
  intro hn
  obtain ⟨p, _, _, hlt⟩ := not_le ha hb hn fun y hy => by have := hb24 y hy; omega
  have := h (peak p) (peak_len p) (peak_pos p)
  omega
/-- two levels without OpImax have the same values just where their norms are one -/
theorem free_eq {l k : List (Int × Int)} {a b : List At} (hl : freeR l = some a) (hk : freeR k = some b) : eqR l k = decide (a = b) := by
  obtain ⟨okl, oka, a24, eva⟩ := free_ev hl
  obtain ⟨okk, okb, b24, evb⟩ := free_ev hk
  rw [Bool.eq_iff_iff, eq_sem okl okk, decide_eq_true_eq]
  constructor
  · intro h
    exact le_antisymm oka okb (free_le oka okb b24 fun env h5 hp => by rw [← eva env hp, ← evb env hp, h env h5 hp]; exact Int.le_refl _) (free_le okb oka a24 fun env h5 hp => by rw [← eva env hp, ← evb env hp, h env h5 hp]; exact Int.le_refl _)
  · rintro rfl env _ hp
    rw [eva env hp, evb env hp]
theorem env_pos {env : List Int} (h : envOk env = true) : env.length = 5 ∧ Pos env := by
  have := Go.Proofs.YtghoofgfimeedaaDoor.envOk_mem h
  exact ⟨this.1, fun x hx => (this.2 x hx).1⟩
end Go.Proofs.YtghoofgfimeedaaDoor.Dc
