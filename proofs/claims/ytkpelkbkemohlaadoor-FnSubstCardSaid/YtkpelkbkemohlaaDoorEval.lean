/- LevelEval and LevelOk: the deferred closure, the run, the env's look. -/
import Derived.Test.YtkpelkbkemohlaaDoorAct
import Derived.Laws.IdiomCopy
namespace Go.Proofs.YtkpelkbkemohlaaDoor
open Go.RowKit

/-- an env of five numbers in 0..1000 -/
def envOk (env : List Int) : Bool := decide (env.length = 5) && env.all fun x => decide (0 ≤ x) && decide (x ≤ 1000)

set_option maxHeartbeats 800000 in
theorem envOk_any (w : World) (B : Nat) (A : Option Addr) (n c : Nat) (env : List Int) (hR : IntR w B A n env) (hn : (n : Int) ≤ 140737488355328) :
    Calls Tryd.prog 60 #[.slice A n c] w fun e w' => e = .returned (.bool (envOk env)) ∧ w = w' := by
  by_cases h5 : n = 5
  · subst h5
    obtain ⟨hlen, hc⟩ := hR
    obtain ⟨b, off, rfl, hb, hc⟩ := hc (by omega)
    have HL := Lib.hid hlen
    clear hlen
    go_enter Tryd.func60, Tryd.ntmps60
    go_wp2
    go_loop [10] (fun i => ∃ k : Nat, k ≤ 5 ∧ i = .int .i64 k ∧ (env.take k).all (fun x => decide (0 ≤ x) && decide (x ≤ 1000)) = true) (fun i => 5 - (intOf i).toNat)
    case atStart => exact ⟨0, by omega, rfl, by simp⟩
    case round =>
      obtain ⟨k, hk, rfl, hall⟩ := hrel
      by_cases hlt : k < 5
      · have hcell := hc k hlt
        have hall2 : (env.take (k + 1)).all (fun x => decide (0 ≤ x) && decide (x ≤ 1000)) = (decide (0 ≤ env.getD k 0) && decide (env.getD k 0 ≤ 1000)) := by
          have hl := HL.out
          rw [List.take_succ_eq_append_getElem (by omega), List.all_append, hall]
          simp [List.getD_eq_getElem?_getD, List.getElem?_eq_getElem (show k < env.length by omega)]
        have HA := Lib.hid hall2
        generalize env.getD k 0 = v at hcell HA
        clear hall hall2 hc
        by_cases hv : 0 ≤ v ∧ v ≤ 1000
        · obtain ⟨hv0, hv1⟩ := hv
          go_wp2
          go_round
          case rel => exact ⟨k + 1, by omega, by go_num, by rw [HA.out]; simp; omega⟩
          case measure => simp [intOf]; omega
        · have HF : Hid (envOk env = false) := by
            have h := HA.out
            show envOk env = false
            rw [Bool.eq_false_iff]
            intro hk
            simp only [envOk, Bool.and_eq_true, List.all_eq_true] at hk
            have h2 : (env.take (k + 1)).all (fun x => decide (0 ≤ x) && decide (x ≤ 1000)) = true := by
              rw [List.all_eq_true]; intro x hx; simpa using hk.2 x (List.mem_of_mem_take hx)
            rw [h] at h2
            simp at h2
            omega
          by_cases hv0 : v < 0
          · go_wp2
            go_ret
            exact ⟨by rw [HF.out]; rfl, rfl⟩
          · have hv1 : 1000 < v := by omega
            clear hv
            go_wp2
            go_ret
            exact ⟨by rw [HF.out]; rfl, rfl⟩
      · have HF : Hid (envOk env = true) := by
          show envOk env = true
          rw [List.take_of_length_le (by rw [HL.out]; omega)] at hall
          simp only [envOk, hall, HL.out]; rfl
        clear hall hc
        go_wp2
        go_ret
        exact ⟨by rw [HF.out]; rfl, rfl⟩
  · have HF : Hid (envOk env = false) := by
      show envOk env = false
      simp [envOk, hR.1, h5]
    have hne : ((n : Int) != 5) = true := by simp; omega
    clear hR
    go_enter Tryd.func60, Tryd.ntmps60
    go_wp2
    go_ret
    exact ⟨by rw [HF.out]; rfl, rfl⟩

/-- what run leaves: the one number on the stack, or the panic -/
def RunOut (w : World) (B : Nat) (r : Option Int) (T : TypeId) (pv : Value) (e : Ending) (w' : World) : Prop :=
  Below B w w' ∧ Keeps w w' ∧ match r with
    | some v => e = .returned (.int .i64 v)
    | none => e = Bad T pv

theorem eval_none_of_run {env : List Int} {l : List (Int × Int)} (h : Lv.run env l [] = none) : Lv.eval env l = none := by
  unfold Lv.eval; split
  · rw [h]
  · rfl
theorem eval_none_of_two {env : List Int} {l : List (Int × Int)} {st : List Int} (h : Lv.run env l [] = some st) (hs : st.length ≠ 1) : Lv.eval env l = none := by
  unfold Lv.eval; split
  · rw [h]
    match st, hs with
    | [], _ => rfl
    | [_], h => exact absurd rfl h
    | _ :: _ :: _, _ => rfl
  · rfl
theorem eval_none_of_len {env : List Int} {l : List (Int × Int)} (h : l.length = 0 ∨ 24 < l.length) : Lv.eval env l = none := by
  unfold Lv.eval
  rw [if_neg]
  intro hk
  simp [Lv.levelOk] at hk
  omega

set_option maxHeartbeats 800000 in
theorem run_any (w : World) (B bm : Nat) (env : List Int) (T : TypeId) (pv : Value) (A : Option Addr) (n c : Nat) (l : List (Int × Int))
    (hB : 0 < B) (hm : Mach w B bm env []) (hE : ErrAt w T pv) (hn : (n : Int) ≤ 140737488355328) (hv : ∀ x ∈ env, 0 ≤ x ∧ x ≤ 1000) (hl : TokR w B A n l) :
    Calls Tryd.prog 61 #[.pointer (some ⟨bm, 0, none⟩), .slice A n c] w (RunOut w B (Lv.eval env l) T pv) := by
  have HV := Lib.hid hv
  clear hv
  by_cases h24 : 1 ≤ n ∧ n ≤ 24
  · obtain ⟨h1, h2⟩ := h24
    have hne : ((n : Int) == 0) = false := by simp; omega
    cases hrun : Lv.run env l [] with
    | none =>
      have HZ := Lib.hid (eval_none_of_run hrun)
      have HRun := Lib.hid hrun
      clear hrun
      go_enter Tryd.func61, Tryd.ntmps61
      go_wp2_with fail
      refine (act_any _ B bm env T pv A n c l hB hm hE (by omega) HV.out hl).mono ?_
      rintro e w' ⟨hb, hk, hr⟩
      rw [HRun.out] at hr
      subst hr
      refine ⟨rfl, hb, hk, ?_⟩
      rw [HZ.out]
      rfl
    | some st =>
      have HRun := Lib.hid hrun
      by_cases hs : st.length = 1
      · obtain ⟨v, rfl⟩ : ∃ v, st = [v] := by
          match st, hs with
          | [v], _ => exact ⟨v, rfl⟩
        have HZ := Lib.hid (Lv.eval_of_run (by rw [hl.1]; exact h1) (by rw [hl.1]; exact h2) hrun)
        clear hrun hs
        go_enter Tryd.func61, Tryd.ntmps61
        go_wp2_with fail
        refine (act_any _ B bm env T pv A n c l hB hm hE (by omega) HV.out hl).mono ?_
        rintro e w1 ⟨hb, hk, hr⟩
        rw [HRun.out] at hr
        obtain ⟨rfl, hm1⟩ := hr
        go_wp2_with fail
        refine (pop_some _ B bm env [] v hm1 (by simp)).mono ?_
        rintro e w2 ⟨rfl, hm2, hb2, hk2⟩
        obtain ⟨hB2, he2, A2, c2, hblk2, hown2⟩ := hm2
        have hc5 : w2.cell? ⟨bm, 5, none⟩ = some (.slice A2 0 c2) := (hblk2.cell 5).trans (mach_stack env _ he2)
        clear he2 hblk2 hown2
        go_wp2
        go_ret
        refine ⟨hb.trans hb2, hk.trans hk2, ?_⟩
        rw [HZ.out]
        rfl
      · have HZ := Lib.hid (eval_none_of_two hrun hs)
        clear hrun
        rcases st with _ | ⟨v, _ | ⟨u, s⟩⟩
        · clear hs
          go_enter Tryd.func61, Tryd.ntmps61
          go_wp2_with fail
          refine (act_any _ B bm env T pv A n c l hB hm hE (by omega) HV.out hl).mono ?_
          rintro e w1 ⟨hb, hk, hr⟩
          rw [HRun.out] at hr
          obtain ⟨rfl, hm1⟩ := hr
          go_wp2_with fail
          refine (pop_none _ B bm env T pv hm1 (hE.below hb hB)).mono ?_
          rintro e w2 ⟨rfl, rfl⟩
          refine ⟨rfl, hb, hk, ?_⟩
          rw [HZ.out]
          rfl
        · exact absurd rfl hs
        · clear hs
          have hh : Hid (s.length + 2 ≤ 24) := by
            have := Lv.run_len HRun.out
            simp at this
            have h3 := hl.1
            show s.length + 2 ≤ 24
            omega
          have hh2 : s.length + 2 ≤ 24 := hh.out
          go_enter Tryd.func61, Tryd.ntmps61
          go_wp2_with fail
          refine (act_any _ B bm env T pv A n c l hB hm hE (by omega) HV.out hl).mono ?_
          rintro e w1 ⟨hb, hk, hr⟩
          rw [HRun.out] at hr
          obtain ⟨rfl, hm1⟩ := hr
          go_wp2_with fail
          refine (pop_some _ B bm env (u :: s) v hm1 (by simp; omega)).mono ?_
          rintro e w2 ⟨rfl, hm2, hb2, hk2⟩
          have hE2 : w2.cell? ⟨0, 0, none⟩ = some (.iface T pv) := (hE.below hb hB).below hb2 hB
          obtain ⟨hB2, he2, A2, c2, hblk2, hown2⟩ := hm2
          have hc5 : w2.cell? ⟨bm, 5, none⟩ = some (.slice A2 (s.length + 1) c2) := (hblk2.cell 5).trans (mach_stack env _ he2)
          clear he2 hblk2 hown2
          go_wp2
          refine ⟨rfl, hb.trans hb2, hk.trans hk2, ?_⟩
          rw [HZ.out]
          rfl
  · have HZ := Lib.hid (eval_none_of_len (env := env) (l := l) (by rw [hl.1]; omega))
    have hE' : w.cell? ⟨0, 0, none⟩ = some (.iface T pv) := hE
    by_cases h0 : n = 0
    · subst h0
      go_enter Tryd.func61, Tryd.ntmps61
      go_wp2
      refine ⟨rfl, Below.refl _ _, Keeps.refl _, ?_⟩
      rw [HZ.out]
      rfl
    · have h1 : 24 < n := by omega
      have hne : ((n : Int) == 0) = false := by simp; omega
      clear h24 h0
      go_enter Tryd.func61, Tryd.ntmps61
      go_wp2
      refine ⟨rfl, Below.refl _ _, Keeps.refl _, ?_⟩
      rw [HZ.out]
      rfl
end Go.Proofs.YtkpelkbkemohlaaDoor
