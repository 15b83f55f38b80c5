/- LevelEval and LevelOk: the deferred closure, the run, the env's look. -/
import Derived.Test.YtijiohdddfdjfaaDoorAct
import Derived.Laws.IdiomCopy
namespace Go.Proofs.YtijiohdddfdjfaaDoor
open Go.RowKit

/-- what run leaves: the one number on the stack, or the panic -/
def RunOut (w : World) (B : Nat) (r : Option Int) (T : TypeId) (pv : Value) (e : Ending) (w' : World) : Prop :=
  Below B w w' ∧ Keeps w w' ∧ match r with
    | some v => e = .returned (.int .i64 v)
    | none => e = Bad T pv

theorem eval_none_of_run {env : List Int} {l : List (Int × Int)} (h : Lv.run env l [] = none) : Lv.eval env l = none := by
  unfold Lv.eval; split
  · rw [h]
  · rfl
theorem eval_none_of_two {env : List Int} {l : List (Int × Int)} {st : List Int} (h : Lv.run env l [] = some st) (hs : st.length ≠ 1) : Lv.eval env l = none := by
  unfold Lv.eval; split
  · rw [h]
    match st, hs with
    | [], _ => rfl
    | [_], h => exact absurd rfl h
    | _ :: _ :: _, _ => rfl
  · rfl
theorem eval_none_of_len {env : List Int} {l : List (Int × Int)} (h : l.length = 0 ∨ 24 < l.length) : Lv.eval env l = none := by
  unfold Lv.eval
  rw [if_neg]
  intro hk
  simp [Lv.levelOk] at hk
  omega

set_option maxHeartbeats 800000 in
theorem run_any (w : World) (B bm : Nat) (env : List Int) (T : TypeId) (pv : Value) (A : Option Addr) (n c : Nat) (l : List (Int × Int))
    (hB : 0 < B) (hm : Mach w B bm env []) (hE : ErrAt w T pv) (hn : (n : Int) ≤ 140737488355328) (hv : ∀ x ∈ env, 0 ≤ x ∧ x ≤ 1000) (hl : TokR w B A n l) :
    Calls Tryd.prog 46 #[.pointer (some ⟨bm, 0, none⟩), .slice A n c] w (RunOut w B (Lv.eval env l) T pv) := by
  have HV := Lib.hid hv
  clear hv
  by_cases h24 : 1 ≤ n ∧ n ≤ 24
  · obtain ⟨h1, h2⟩ := h24
    have hne : ((n : Int) == 0) = false := by simp; omega
    cases hrun : Lv.run env l [] with
    | none =>
      have HZ := Lib.hid (eval_none_of_run hrun)
      have HRun := Lib.hid hrun
      clear hrun
      go_enter Tryd.func46, Tryd.ntmps46
      go_wp2_with fail
      refine (act_any _ B bm env T pv A n c l hB hm hE (by omega) HV.out hl).mono ?_
      rintro e w' ⟨hb, hk, hr⟩
      rw [HRun.out] at hr
      subst hr
      refine ⟨rfl, hb, hk, ?_⟩
      rw [HZ.out]
      rfl
    | some st =>
      have HRun := Lib.hid hrun
      by_cases hs : st.length = 1
      · obtain ⟨v, rfl⟩ : ∃ v, st = [v] := by
          match st, hs with
          | [v], _ => exact ⟨v, rfl⟩
        have HZ := Lib.hid (Lv.eval_of_run (by rw [hl.1]; exact h1) (by rw [hl.1]; exact h2) hrun)
        clear hrun hs
        go_enter Tryd.func46, Tryd.ntmps46
        go_wp2_with fail
        refine (act_any _ B bm env T pv A n c l hB hm hE (by omega) HV.out hl).mono ?_
        rintro e w1 ⟨hb, hk, hr⟩
        rw [HRun.out] at hr
        obtain ⟨rfl, hm1⟩ := hr
        go_wp2_with fail
        refine (pop_some _ B bm env [] v hm1 (by simp)).mono ?_
        rintro e w2 ⟨rfl, hm2, hb2, hk2⟩
        obtain ⟨hB2, he2, A2, c2, hblk2, hown2⟩ := hm2
        have hc5 : w2.cell? ⟨bm, 5, none⟩ = some (.slice A2 0 c2) := (hblk2.cell 5).trans (mach_stack env _ he2)
        clear he2 hblk2 hown2
        go_wp2
        go_ret
        refine ⟨hb.trans hb2, hk.trans hk2, ?_⟩
        rw [HZ.out]
        rfl
      · have HZ := Lib.hid (eval_none_of_two hrun hs)
        clear hrun
        rcases st with _ | ⟨v, _ | ⟨u, s⟩⟩
        · clear hs
          go_enter Tryd.func46, Tryd.ntmps46
          go_wp2_with fail
          refine (act_any _ B bm env T pv A n c l hB hm hE (by omega) HV.out hl).mono ?_
          rintro e w1 ⟨hb, hk, hr⟩
          rw [HRun.out] at hr
          obtain ⟨rfl, hm1⟩ := hr
          go_wp2_with fail
          refine (pop_none _ B bm env T pv hm1 (hE.below hb hB)).mono ?_
          rintro e w2 ⟨rfl, rfl⟩
          refine ⟨rfl, hb, hk, ?_⟩
          rw [HZ.out]
          rfl
        · exact absurd rfl hs
        · clear hs
          have hh : Hid (s.length + 2 ≤ 24) := by
            have := Lv.run_len HRun.out
            simp at this
            have h3 := hl.1
            show s.length + 2 ≤ 24
            omega
          have hh2 : s.length + 2 ≤ 24 := hh.out
          go_enter Tryd.func46, Tryd.ntmps46
          go_wp2_with fail
          refine (act_any _ B bm env T pv A n c l hB hm hE (by omega) HV.out hl).mono ?_
          rintro e w1 ⟨hb, hk, hr⟩
          rw [HRun.out] at hr
          obtain ⟨rfl, hm1⟩ := hr
          go_wp2_with fail
          refine (pop_some _ B bm env (u :: s) v hm1 (by simp; omega)).mono ?_
          rintro e w2 ⟨rfl, hm2, hb2, hk2⟩
          have hE2 : w2.cell? ⟨0, 0, none⟩ = some (.iface T pv) := (hE.below hb hB).below hb2 hB
          obtain ⟨hB2, he2, A2, c2, hblk2, hown2⟩ := hm2
          have hc5 : w2.cell? ⟨bm, 5, none⟩ = some (.slice A2 (s.length + 1) c2) := (hblk2.cell 5).trans (mach_stack env _ he2)
          clear he2 hblk2 hown2
          go_wp2
          refine ⟨rfl, hb.trans hb2, hk.trans hk2, ?_⟩
          rw [HZ.out]
          rfl
  · have HZ := Lib.hid (eval_none_of_len (env := env) (l := l) (by rw [hl.1]; omega))
    have hE' : w.cell? ⟨0, 0, none⟩ = some (.iface T pv) := hE
    by_cases h0 : n = 0
    · subst h0
      go_enter Tryd.func46, Tryd.ntmps46
      go_wp2
      refine ⟨rfl, Below.refl _ _, Keeps.refl _, ?_⟩
      rw [HZ.out]
      rfl
    · have h1 : 24 < n := by omega
      have hne : ((n : Int) == 0) = false := by simp; omega
      clear h24 h0
      go_enter Tryd.func46, Tryd.ntmps46
      go_wp2
      refine ⟨rfl, Below.refl _ _, Keeps.refl _, ?_⟩
      rw [HZ.out]
      rfl
end Go.Proofs.YtijiohdddfdjfaaDoor
