/- The five actions of the machine's table, each for every state: one step of the plain function, or the panic. -/
import Derived.Test.YtfmhmnpmdjpmeaaDoorApReg

namespace Go.Proofs.YtfmhmnpmdjpmeaaDoor
open Go.RowKit

/-- what an action leaves: the stack that the plain step gives, or the panic; all below B as it was -/
def Stepped (w : World) (B bm : Nat) (env : List Int) (r : Option (List Int)) (T : TypeId) (pv : Value) (e : Ending) (w' : World) : Prop :=
  Below B w w' ∧ Keeps w w' ∧ match r with
    | some st' => e = .returned (.tuple #[]) ∧ Mach w' B bm env st'
    | none => e = Bad T pv

section
variable (w : World) (B bm : Nat) (env st : List Int) (T : TypeId) (pv : Value) (n : Int)

theorem tk_no (i : Int) (hi : i = 0 ∨ i = 1 ∨ i = 2 ∨ i = 3) (h : n ≠ 0) : Lv.step env (i, n) st = none := by
  have : Lv.tkOk (i, n) = false := by
    rw [Bool.eq_false_iff]; intro hk; simp [Lv.tkOk] at hk; omega
  simp [Lv.step, this]

theorem max_step (s : List Int) (a b : Int) : Lv.step env (2, 0) (b :: a :: s) = some (max a b :: s) := by simp [Lv.step, Lv.tkOk]
theorem imax_step (s : List Int) (a b : Int) (h : ¬ b = 0) : Lv.step env (3, 0) (b :: a :: s) = some (max a b :: s) := by simp [Lv.step, Lv.tkOk, h]

set_option maxHeartbeats 400000 in
theorem zero_any (hm : Mach w B bm env st) (hs : st.length ≤ 900) (hE : ErrAt w T pv) :
    Calls Tryd.prog 100 #[.pointer (some ⟨bm, 0, none⟩), .int .i64 n] w (Stepped w B bm env (Lv.step env (0, n) st) T pv) := by
  by_cases h : n = 0
  · subst h
    go_enter Tryd.func100, Tryd.ntmps100
    go_wp2_with fail
    refine (needZero_yes 0 _ rfl).mono ?_
    rintro e w' ⟨rfl, rfl⟩
    go_wp2_with fail
    refine (push_any _ B bm env st 0 hm (by omega)).mono ?_
    rintro e w' ⟨rfl, hm', hb, hk⟩
    go_wp2
    go_end0
    exact ⟨hb, hk, rfl, hm'⟩
  · go_enter Tryd.func100, Tryd.ntmps100
    go_wp2_with fail
    refine (needZero_no n _ T pv h hE).mono ?_
    rintro e w' ⟨rfl, rfl⟩
    refine ⟨rfl, Below.refl _ _, Keeps.refl _, ?_⟩
    rw [tk_no env st n 0 (by omega) h]
    rfl

set_option maxHeartbeats 400000 in
theorem succ_any (hm : Mach w B bm env st) (hs : st.length ≤ 900) (hv : ∀ x ∈ st, 0 ≤ x ∧ x ≤ 100000) (hE : ErrAt w T pv) :
    Calls Tryd.prog 101 #[.pointer (some ⟨bm, 0, none⟩), .int .i64 n] w (Stepped w B bm env (Lv.step env (1, n) st) T pv) := by
  by_cases h : n = 0
  · subst h
    rcases st with _ | ⟨a, s⟩
    · clear hv
      go_enter Tryd.func101, Tryd.ntmps101
      go_wp2_with fail
      refine (needZero_yes 0 _ rfl).mono ?_
      rintro e w' ⟨rfl, rfl⟩
      go_wp2_with fail
      refine (pop_none _ B bm env T pv hm hE).mono ?_
      rintro e w' ⟨rfl, rfl⟩
      exact ⟨rfl, Below.refl _ _, Keeps.refl _, rfl⟩
    · have hva := hv a (by simp)
      have ha0 := hva.1
      have ha1 := hva.2
      clear hv hva
      simp only [List.length_cons] at hs
      go_enter Tryd.func101, Tryd.ntmps101
      go_wp2_with fail
      refine (needZero_yes 0 _ rfl).mono ?_
      rintro e w' ⟨rfl, rfl⟩
      go_wp2_with fail
      refine (pop_some _ B bm env s a hm (by omega)).mono ?_
      rintro e w1 ⟨rfl, hm1, hb1, hk1⟩
      go_wp2_with fail
      refine (push_any _ B bm env s (a + 1) hm1 (by omega)).mono ?_
      rintro e w2 ⟨rfl, hm2, hb2, hk2⟩
      go_wp2
      go_end0
      exact ⟨hb1.trans hb2, hk1.trans hk2, rfl, hm2⟩
  · clear hv
    go_enter Tryd.func101, Tryd.ntmps101
    go_wp2_with fail
    refine (needZero_no n _ T pv h hE).mono ?_
    rintro e w' ⟨rfl, rfl⟩
    refine ⟨rfl, Below.refl _ _, Keeps.refl _, ?_⟩
    rw [tk_no env st n 1 (by omega) h]
    rfl

set_option maxHeartbeats 800000 in
theorem max_any (hB : 0 < B) (hm : Mach w B bm env st) (hs : st.length ≤ 900) (hE : ErrAt w T pv) :
    Calls Tryd.prog 102 #[.pointer (some ⟨bm, 0, none⟩), .int .i64 n] w (Stepped w B bm env (Lv.step env (2, n) st) T pv) := by
  by_cases h : n = 0
  · subst h
    rcases st with _ | ⟨b, _ | ⟨a, s⟩⟩
    · go_enter Tryd.func102, Tryd.ntmps102
      go_wp2_with fail
      refine (needZero_yes 0 _ rfl).mono ?_
      rintro e w' ⟨rfl, rfl⟩
      go_wp2_with fail
      refine (pop_none _ B bm env T pv hm hE).mono ?_
      rintro e w' ⟨rfl, rfl⟩
      exact ⟨rfl, Below.refl _ _, Keeps.refl _, rfl⟩
    · go_enter Tryd.func102, Tryd.ntmps102
      go_wp2_with fail
      refine (needZero_yes 0 _ rfl).mono ?_
      rintro e w' ⟨rfl, rfl⟩
      go_wp2_with fail
      refine (pop_some _ B bm env [] b hm (by simp)).mono ?_
      rintro e w1 ⟨rfl, hm1, hb1, hk1⟩
      go_wp2_with fail
      refine (pop_none _ B bm env T pv hm1 (hE.below hb1 hB)).mono ?_
      rintro e w' ⟨rfl, rfl⟩
      exact ⟨rfl, hb1, hk1, rfl⟩
    · simp only [List.length_cons] at hs
      go_enter Tryd.func102, Tryd.ntmps102
      go_wp2_with fail
      refine (needZero_yes 0 _ rfl).mono ?_
      rintro e w' ⟨rfl, rfl⟩
      go_wp2_with fail
      refine (pop_some _ B bm env (a :: s) b hm (by simp; omega)).mono ?_
      rintro e w1 ⟨rfl, hm1, hb1, hk1⟩
      go_wp2_with fail
      refine (pop_some _ B bm env s a hm1 (by omega)).mono ?_
      rintro e w2 ⟨rfl, hm2, hb2, hk2⟩
      go_wp2_with fail
      all_goals
        refine (push_any _ B bm env s _ hm2 (by omega)).mono ?_
        rintro e w3 ⟨rfl, hm3, hb3, hk3⟩
        go_wp2
        go_end0
        refine ⟨(hb1.trans hb2).trans hb3, (hk1.trans hk2).trans hk3, ?_⟩
        rw [max_step]
        refine ⟨rfl, ?_⟩
        first | (rw [show max a b = b by omega]; exact hm3) | (rw [show max a b = a by omega]; exact hm3)
  · go_enter Tryd.func102, Tryd.ntmps102
    go_wp2_with fail
    refine (needZero_no n _ T pv h hE).mono ?_
    rintro e w' ⟨rfl, rfl⟩
    refine ⟨rfl, Below.refl _ _, Keeps.refl _, ?_⟩
    rw [tk_no env st n 2 (by omega) h]
    rfl

set_option maxHeartbeats 800000 in
theorem imax_any (hB : 0 < B) (hm : Mach w B bm env st) (hs : st.length ≤ 900) (hE : ErrAt w T pv) :
    Calls Tryd.prog 103 #[.pointer (some ⟨bm, 0, none⟩), .int .i64 n] w (Stepped w B bm env (Lv.step env (3, n) st) T pv) := by
  by_cases h : n = 0
  · subst h
    rcases st with _ | ⟨b, _ | ⟨a, s⟩⟩
    · go_enter Tryd.func103, Tryd.ntmps103
      go_wp2_with fail
      refine (needZero_yes 0 _ rfl).mono ?_
      rintro e w' ⟨rfl, rfl⟩
      go_wp2_with fail
      refine (pop_none _ B bm env T pv hm hE).mono ?_
      rintro e w' ⟨rfl, rfl⟩
      exact ⟨rfl, Below.refl _ _, Keeps.refl _, rfl⟩
    · go_enter Tryd.func103, Tryd.ntmps103
      go_wp2_with fail
      refine (needZero_yes 0 _ rfl).mono ?_
      rintro e w' ⟨rfl, rfl⟩
      go_wp2_with fail
      refine (pop_some _ B bm env [] b hm (by simp)).mono ?_
      rintro e w1 ⟨rfl, hm1, hb1, hk1⟩
      go_wp2_with fail
      refine (pop_none _ B bm env T pv hm1 (hE.below hb1 hB)).mono ?_
      rintro e w' ⟨rfl, rfl⟩
      exact ⟨rfl, hb1, hk1, rfl⟩
    · simp only [List.length_cons] at hs
      by_cases hb : b = 0
      · subst hb
        go_enter Tryd.func103, Tryd.ntmps103
        go_wp2_with fail
        refine (needZero_yes 0 _ rfl).mono ?_
        rintro e w' ⟨rfl, rfl⟩
        go_wp2_with fail
        refine (pop_some _ B bm env (a :: s) 0 hm (by simp; omega)).mono ?_
        rintro e w1 ⟨rfl, hm1, hb1, hk1⟩
        go_wp2_with fail
        refine (pop_some _ B bm env s a hm1 (by omega)).mono ?_
        rintro e w2 ⟨rfl, hm2, hb2, hk2⟩
        go_wp2_with fail
        refine (push_any _ B bm env s 0 hm2 (by omega)).mono ?_
        rintro e w3 ⟨rfl, hm3, hb3, hk3⟩
        go_wp2
        go_end0
        refine ⟨(hb1.trans hb2).trans hb3, (hk1.trans hk2).trans hk3, ?_⟩
        simp [Lv.step, Lv.tkOk]
        exact hm3
      · have hbb : (b == 0) = false := by simpa using hb
        go_enter Tryd.func103, Tryd.ntmps103
        go_wp2_with fail
        refine (needZero_yes 0 _ rfl).mono ?_
        rintro e w' ⟨rfl, rfl⟩
        go_wp2_with fail
        refine (pop_some _ B bm env (a :: s) b hm (by simp; omega)).mono ?_
        rintro e w1 ⟨rfl, hm1, hb1, hk1⟩
        go_wp2_with fail
        refine (pop_some _ B bm env s a hm1 (by omega)).mono ?_
        rintro e w2 ⟨rfl, hm2, hb2, hk2⟩
        go_wp2_with fail
        all_goals
          refine (push_any _ B bm env s _ hm2 (by omega)).mono ?_
          rintro e w3 ⟨rfl, hm3, hb3, hk3⟩
          go_wp2
          go_end0
          refine ⟨(hb1.trans hb2).trans hb3, (hk1.trans hk2).trans hk3, ?_⟩
          rw [imax_step env s a b hb]
          refine ⟨rfl, ?_⟩
          first | (rw [show max a b = b by omega]; exact hm3) | (rw [show max a b = a by omega]; exact hm3)
  · go_enter Tryd.func103, Tryd.ntmps103
    go_wp2_with fail
    refine (needZero_no n _ T pv h hE).mono ?_
    rintro e w' ⟨rfl, rfl⟩
    refine ⟨rfl, Below.refl _ _, Keeps.refl _, ?_⟩
    rw [tk_no env st n 3 (by omega) h]
    rfl

set_option maxHeartbeats 800000 in
theorem param_any (hm : Mach w B bm env st) (hs : st.length ≤ 900) (hE : ErrAt w T pv) :
    Calls Tryd.prog 104 #[.pointer (some ⟨bm, 0, none⟩), .int .i64 n] w (Stepped w B bm env (Lv.step env (4, n) st) T pv) := by
  by_cases h : 0 ≤ n ∧ n < 5
  · obtain ⟨h0, h5⟩ := h
    have hcell : w.cell? ⟨bm, n.toNat, none⟩ = some (.int .i64 (env.getD n.toNat 0)) := by
      obtain ⟨_, he, A, c, hblk, _⟩ := hm
      exact (hblk.cell _).trans (mach_env env _ he _ (by omega))
    go_enter Tryd.func104, Tryd.ntmps104
    go_wp2_with fail
    refine (push_any _ B bm env st _ hm (by omega)).mono ?_
    rintro e w' ⟨rfl, hm', hb, hk⟩
    go_wp2
    go_end0
    refine ⟨hb, hk, ?_⟩
    simp [Lv.step, Lv.tkOk, h0, h5]
    simpa using hm'
  · unfold ErrAt at hE
    have hno : Lv.step env (4, n) st = none := by
      have : Lv.tkOk (4, n) = false := by
        rw [Bool.eq_false_iff]; intro hk; simp [Lv.tkOk] at hk; omega
      simp [Lv.step, this]
    rw [hno]
    have HN := Lib.hid hno
    clear hno
    by_cases h0 : n < 0
    · go_enter Tryd.func104, Tryd.ntmps104
      go_wp2
      exact ⟨rfl, Below.refl _ _, Keeps.refl _, rfl⟩
    · have h5 : 5 ≤ n := by omega
      clear h
      go_enter Tryd.func104, Tryd.ntmps104
      go_wp2
      exact ⟨rfl, Below.refl _ _, Keeps.refl _, rfl⟩
end
end Go.Proofs.YtfmhmnpmdjpmeaaDoor
