/- The machine's methods: each does what one step on the stack says, or panics with errLevel. -/
/- The five actions of the machine's table, each for every state: one step of the plain function, or the panic. -/
import Derived.Test.YtgebjnoicgmdoaaDoorBase

namespace Go.Proofs.YtgebjnoicgmdoaaDoor
open Go.RowKit

/-- the panic with errLevel -/
def Bad (T : TypeId) (pv : Value) : Ending := .panicked [{ v := .iface T pv, recovered := false }]

/-- a row of n + 1 cells, cut to n -/
theorem own_pop {w : World} {base g cap n : Nat} {e : TypeId} {xs : List Value} {x : Value} (h : w.ownsRow base e 1 (.slice (some ⟨g, 0, none⟩) (n + 1) cap) (n + 1) (xs ++ [x])) :
    w.ownsRow base e 1 (.slice (some ⟨g, 0, none⟩) n cap) n xs := by
  have hl := h.1
  simp at hl
  rcases h.2 with ⟨h0, _⟩ | ⟨g', cap', cur, hv, hb, hgg, h1, h2, h3, h4⟩
  · cases h0
  · injection hv with e1 e2 e3
    injection e1 with e1
    injection e1 with e1
    subst e1; subst e3
    refine ⟨by omega, .inr ⟨g, cap, cur, rfl, hb, hgg, by omega, h2, h3, ?_⟩⟩
    have := congrArg (List.take n) h4
    rw [List.take_take] at this
    rw [show min n ((n + 1) * 1) = n * 1 by omega] at this
    rw [this, ← hl, List.take_left']
    rfl

set_option maxHeartbeats 400000 in
theorem pop_some (w : World) (B bm : Nat) (env st : List Int) (v : Int) (hm : Mach w B bm env (v :: st)) (hs : st.length ≤ 1000) :
    Calls Tryd.prog 38 #[.pointer (some ⟨bm, 0, none⟩)] w fun e w' => e = .returned (.int .i64 v) ∧ Mach w' B bm env st ∧ Below B w w' ∧ Keeps w w' := by
  obtain ⟨hB, he, A, c, hblk, hown⟩ := hm
  have hlt := hblk.lt
  obtain ⟨g, rfl⟩ : ∃ g, A = some ⟨g, 0, none⟩ := by
    rcases hown.2 with ⟨_, h⟩ | ⟨g, cap', _, h, _⟩
    · simp at h
    · injection h with h1; exact ⟨g, h1⟩
  have hcap : st.length + 1 ≤ c := by
    rcases hown.2 with ⟨_, h⟩ | ⟨g, cap', _, h, _, _, h1, _⟩
    · simp at h
    · injection h with _ _ h3; simpa [h3] using h1
  have hc5 : w.cell? ⟨bm, 5, none⟩ = some (.slice (some ⟨g, 0, none⟩) (st.length + 1) c) := (hblk.cell 5).trans (mach_stack env _ he)
  have hcv : w.cell? ⟨g, st.length, none⟩ = some (.int .i64 v) := by
    have h := hown.cells (g := g) rfl st.length (.int .i64 v) (by simp)
    have hadd : (⟨g, 0, none⟩ : Addr).add st.length = ⟨g, st.length, none⟩ := by unfold Addr.add; split <;> simp_all
    rw [hadd] at h
    exact h
  have hf := hblk.thawed 5
  have hown1 := own_pop (n := st.length) (xs := st.reverse.map (Value.int .i64)) (x := .int .i64 v) (by simpa using hown)
  have H2 := Lib.hid (own_store (p := ⟨bm, 5, none⟩) hown1 (own_apart hown1 hblk (by decide)) (.slice (some ⟨g, 0, none⟩) st.length c))
  have H3 := Lib.hid (hblk.put 5 (.slice (some ⟨g, 0, none⟩) st.length c))
  have H4 := Lib.hid ((Keeps.refl w).store (p := ⟨bm, 5, none⟩) hblk (.slice (some ⟨g, 0, none⟩) st.length c))
  have HE := Lib.hid he
  clear he hown hown1
  go_enter Tryd.func38, Tryd.ntmps38
  go_wp2
  go_ret
  refine ⟨rfl, ⟨hB, HE.out, some ⟨g, 0, none⟩, c, ?_, ?_⟩, (Below.refl _ _).setCell (p := ⟨bm, 5, none⟩) hB _, H4.out⟩
  · have h3 := H3.out
    rw [mach_put env _ _ HE.out] at h3
    exact h3
  · exact H2.out

set_option maxHeartbeats 400000 in
theorem pop_none (w : World) (B bm : Nat) (env : List Int) (T : TypeId) (pv : Value) (hm : Mach w B bm env []) (hE : ErrAt w T pv) :
    Calls Tryd.prog 38 #[.pointer (some ⟨bm, 0, none⟩)] w fun e w' => e = Bad T pv ∧ w = w' := by
  obtain ⟨hB, he, A, c, hblk, hown⟩ := hm
  have hc5 : w.cell? ⟨bm, 5, none⟩ = some (.slice A 0 c) := (hblk.cell 5).trans (mach_stack env _ he)
  unfold ErrAt at hE
  clear he hown hblk
  go_enter Tryd.func38, Tryd.ntmps38
  go_wp2
  exact ⟨rfl, rfl, rfl⟩

set_option maxHeartbeats 400000 in
theorem needZero_yes (n : Int) (w : World) (h : n = 0) :
    Calls Tryd.prog 61 #[.int .i64 n] w fun e w' => e = .returned (.tuple #[]) ∧ w = w' := by
  subst h
  go_enter Tryd.func61, Tryd.ntmps61
  go_wp2
  go_end0
  exact ⟨rfl, rfl⟩

set_option maxHeartbeats 400000 in
theorem needZero_no (n : Int) (w : World) (T : TypeId) (pv : Value) (h : n ≠ 0) (hE : ErrAt w T pv) :
    Calls Tryd.prog 61 #[.int .i64 n] w fun e w' => e = Bad T pv ∧ w = w' := by
  have h1 : (n != 0) = true := by simpa using h
  unfold ErrAt at hE
  go_enter Tryd.func61, Tryd.ntmps61
  go_wp2
  exact ⟨rfl, rfl, rfl⟩
end Go.Proofs.YtgebjnoicgmdoaaDoor

namespace Go.Proofs.YtgebjnoicgmdoaaDoor
open Go.RowKit

/-- what an action leaves: the stack that the plain step gives, or the panic; all below B as it was -/
def Stepped (w : World) (B bm : Nat) (env : List Int) (r : Option (List Int)) (T : TypeId) (pv : Value) (e : Ending) (w' : World) : Prop :=
  Below B w w' ∧ Keeps w w' ∧ match r with
    | some st' => e = .returned (.tuple #[]) ∧ Mach w' B bm env st'
    | none => e = Bad T pv

section
variable (w : World) (B bm : Nat) (env st : List Int) (T : TypeId) (pv : Value) (n : Int)

theorem tk_no (i : Int) (hi : i = 0 ∨ i = 1 ∨ i = 2 ∨ i = 3) (h : n ≠ 0) : Lv.step env (i, n) st = none := by
  have : Lv.tkOk (i, n) = false := by
    rw [Bool.eq_false_iff]; intro hk; simp [Lv.tkOk] at hk; omega
  simp [Lv.step, this]

theorem max_step (s : List Int) (a b : Int) : Lv.step env (2, 0) (b :: a :: s) = some (max a b :: s) := by simp [Lv.step, Lv.tkOk]
theorem imax_step (s : List Int) (a b : Int) (h : ¬ b = 0) : Lv.step env (3, 0) (b :: a :: s) = some (max a b :: s) := by simp [Lv.step, Lv.tkOk, h]

set_option maxHeartbeats 400000 in
theorem zero_any (hm : Mach w B bm env st) (hs : st.length ≤ 900) (hE : ErrAt w T pv) :
    Calls Tryd.prog 50 #[.pointer (some ⟨bm, 0, none⟩), .int .i64 n] w (Stepped w B bm env (Lv.step env (0, n) st) T pv) := by
  by_cases h : n = 0
  · subst h
    go_enter Tryd.func50, Tryd.ntmps50
    go_wp2_with fail
    refine (needZero_yes 0 _ rfl).mono ?_
    rintro e w' ⟨rfl, rfl⟩
    go_wp2_with fail
    refine (push_any _ B bm env st 0 hm (by omega)).mono ?_
    rintro e w' ⟨rfl, hm', hb, hk⟩
    go_wp2
    go_end0
    exact ⟨hb, hk, rfl, hm'⟩
  · go_enter Tryd.func50, Tryd.ntmps50
    go_wp2_with fail
    refine (needZero_no n _ T pv h hE).mono ?_
    rintro e w' ⟨rfl, rfl⟩
    refine ⟨rfl, Below.refl _ _, Keeps.refl _, ?_⟩
    rw [tk_no env st n 0 (by omega) h]
    rfl

set_option maxHeartbeats 400000 in
theorem succ_any (hm : Mach w B bm env st) (hs : st.length ≤ 900) (hv : ∀ x ∈ st, 0 ≤ x ∧ x ≤ 100000) (hE : ErrAt w T pv) :
    Calls Tryd.prog 51 #[.pointer (some ⟨bm, 0, none⟩), .int .i64 n] w (Stepped w B bm env (Lv.step env (1, n) st) T pv) := by
  by_cases h : n = 0
  · subst h
    rcases st with _ | ⟨a, s⟩
    · clear hv
      go_enter Tryd.func51, Tryd.ntmps51
      go_wp2_with fail
      refine (needZero_yes 0 _ rfl).mono ?_
      rintro e w' ⟨rfl, rfl⟩
      go_wp2_with fail
      refine (pop_none _ B bm env T pv hm hE).mono ?_
      rintro e w' ⟨rfl, rfl⟩
      exact ⟨rfl, Below.refl _ _, Keeps.refl _, rfl⟩
    · have hva := hv a (by simp)
      have ha0 := hva.1
      have ha1 := hva.2
      clear hv hva
      simp only [List.length_cons] at hs
      go_enter Tryd.func51, Tryd.ntmps51
      go_wp2_with fail
      refine (needZero_yes 0 _ rfl).mono ?_
      rintro e w' ⟨rfl, rfl⟩
      go_wp2_with fail
      refine (pop_some _ B bm env s a hm (by omega)).mono ?_
      rintro e w1 ⟨rfl, hm1, hb1, hk1⟩
      go_wp2_with fail
      refine (push_any _ B bm env s (a + 1) hm1 (by omega)).mono ?_
      rintro e w2 ⟨rfl, hm2, hb2, hk2⟩
      go_wp2
      go_end0
      exact ⟨hb1.trans hb2, hk1.trans hk2, rfl, hm2⟩
  · clear hv
    go_enter Tryd.func51, Tryd.ntmps51
    go_wp2_with fail
    refine (needZero_no n _ T pv h hE).mono ?_
    rintro e w' ⟨rfl, rfl⟩
    refine ⟨rfl, Below.refl _ _, Keeps.refl _, ?_⟩
    rw [tk_no env st n 1 (by omega) h]
    rfl

set_option maxHeartbeats 800000 in
theorem max_any (hB : 0 < B) (hm : Mach w B bm env st) (hs : st.length ≤ 900) (hE : ErrAt w T pv) :
    Calls Tryd.prog 52 #[.pointer (some ⟨bm, 0, none⟩), .int .i64 n] w (Stepped w B bm env (Lv.step env (2, n) st) T pv) := by
  by_cases h : n = 0
  · subst h
    rcases st with _ | ⟨b, _ | ⟨a, s⟩⟩
    · go_enter Tryd.func52, Tryd.ntmps52
      go_wp2_with fail
      refine (needZero_yes 0 _ rfl).mono ?_
      rintro e w' ⟨rfl, rfl⟩
      go_wp2_with fail
      refine (pop_none _ B bm env T pv hm hE).mono ?_
      rintro e w' ⟨rfl, rfl⟩
      exact ⟨rfl, Below.refl _ _, Keeps.refl _, rfl⟩
    · go_enter Tryd.func52, Tryd.ntmps52
      go_wp2_with fail
      refine (needZero_yes 0 _ rfl).mono ?_
      rintro e w' ⟨rfl, rfl⟩
      go_wp2_with fail
      refine (pop_some _ B bm env [] b hm (by simp)).mono ?_
      rintro e w1 ⟨rfl, hm1, hb1, hk1⟩
      go_wp2_with fail
      refine (pop_none _ B bm env T pv hm1 (hE.below hb1 hB)).mono ?_
      rintro e w' ⟨rfl, rfl⟩
      exact ⟨rfl, hb1, hk1, rfl⟩
    · simp only [List.length_cons] at hs
      go_enter Tryd.func52, Tryd.ntmps52
      go_wp2_with fail
      refine (needZero_yes 0 _ rfl).mono ?_
      rintro e w' ⟨rfl, rfl⟩
      go_wp2_with fail
      refine (pop_some _ B bm env (a :: s) b hm (by simp; omega)).mono ?_
      rintro e w1 ⟨rfl, hm1, hb1, hk1⟩
      go_wp2_with fail
      refine (pop_some _ B bm env s a hm1 (by omega)).mono ?_
      rintro e w2 ⟨rfl, hm2, hb2, hk2⟩
      go_wp2_with fail
      all_goals
        refine (push_any _ B bm env s _ hm2 (by omega)).mono ?_
        rintro e w3 ⟨rfl, hm3, hb3, hk3⟩
        go_wp2
        go_end0
        refine ⟨(hb1.trans hb2).trans hb3, (hk1.trans hk2).trans hk3, ?_⟩
        rw [max_step]
        refine ⟨rfl, ?_⟩
        first | (rw [show max a b = b by omega]; exact hm3) | (rw [show max a b = a by omega]; exact hm3)
  · go_enter Tryd.func52, Tryd.ntmps52
    go_wp2_with fail
    refine (needZero_no n _ T pv h hE).mono ?_
    rintro e w' ⟨rfl, rfl⟩
    refine ⟨rfl, Below.refl _ _, Keeps.refl _, ?_⟩
    rw [tk_no env st n 2 (by omega) h]
    rfl

set_option maxHeartbeats 800000 in
theorem imax_any (hB : 0 < B) (hm : Mach w B bm env st) (hs : st.length ≤ 900) (hE : ErrAt w T pv) :
    Calls Tryd.prog 53 #[.pointer (some ⟨bm, 0, none⟩), .int .i64 n] w (Stepped w B bm env (Lv.step env (3, n) st) T pv) := by
  by_cases h : n = 0
  · subst h
    rcases st with _ | ⟨b, _ | ⟨a, s⟩⟩
    · go_enter Tryd.func53, Tryd.ntmps53
      go_wp2_with fail
      refine (needZero_yes 0 _ rfl).mono ?_
      rintro e w' ⟨rfl, rfl⟩
      go_wp2_with fail
      refine (pop_none _ B bm env T pv hm hE).mono ?_
      rintro e w' ⟨rfl, rfl⟩
      exact ⟨rfl, Below.refl _ _, Keeps.refl _, rfl⟩
    · go_enter Tryd.func53, Tryd.ntmps53
      go_wp2_with fail
      refine (needZero_yes 0 _ rfl).mono ?_
      rintro e w' ⟨rfl, rfl⟩
      go_wp2_with fail
      refine (pop_some _ B bm env [] b hm (by simp)).mono ?_
      rintro e w1 ⟨rfl, hm1, hb1, hk1⟩
      go_wp2_with fail
      refine (pop_none _ B bm env T pv hm1 (hE.below hb1 hB)).mono ?_
      rintro e w' ⟨rfl, rfl⟩
      exact ⟨rfl, hb1, hk1, rfl⟩
    · simp only [List.length_cons] at hs
      by_cases hb : b = 0
      · subst hb
        go_enter Tryd.func53, Tryd.ntmps53
        go_wp2_with fail
        refine (needZero_yes 0 _ rfl).mono ?_
        rintro e w' ⟨rfl, rfl⟩
        go_wp2_with fail
        refine (pop_some _ B bm env (a :: s) 0 hm (by simp; omega)).mono ?_
        rintro e w1 ⟨rfl, hm1, hb1, hk1⟩
        go_wp2_with fail
        refine (pop_some _ B bm env s a hm1 (by omega)).mono ?_
        rintro e w2 ⟨rfl, hm2, hb2, hk2⟩
        go_wp2_with fail
        refine (push_any _ B bm env s 0 hm2 (by omega)).mono ?_
        rintro e w3 ⟨rfl, hm3, hb3, hk3⟩
        go_wp2
        go_end0
        refine ⟨(hb1.trans hb2).trans hb3, (hk1.trans hk2).trans hk3, ?_⟩
        simp [Lv.step, Lv.tkOk]
        exact hm3
      · have hbb : (b == 0) = false := by simpa using hb
        go_enter Tryd.func53, Tryd.ntmps53
        go_wp2_with fail
        refine (needZero_yes 0 _ rfl).mono ?_
        rintro e w' ⟨rfl, rfl⟩
        go_wp2_with fail
        refine (pop_some _ B bm env (a :: s) b hm (by simp; omega)).mono ?_
        rintro e w1 ⟨rfl, hm1, hb1, hk1⟩
        go_wp2_with fail
        refine (pop_some _ B bm env s a hm1 (by omega)).mono ?_
        rintro e w2 ⟨rfl, hm2, hb2, hk2⟩
        go_wp2_with fail
        all_goals
          refine (push_any _ B bm env s _ hm2 (by omega)).mono ?_
          rintro e w3 ⟨rfl, hm3, hb3, hk3⟩
          go_wp2
          go_end0
          refine ⟨(hb1.trans hb2).trans hb3, (hk1.trans hk2).trans hk3, ?_⟩
          rw [imax_step env s a b hb]
          refine ⟨rfl, ?_⟩
          first | (rw [show max a b = b by omega]; exact hm3) | (rw [show max a b = a by omega]; exact hm3)
  · go_enter Tryd.func53, Tryd.ntmps53
    go_wp2_with fail
    refine (needZero_no n _ T pv h hE).mono ?_
    rintro e w' ⟨rfl, rfl⟩
    refine ⟨rfl, Below.refl _ _, Keeps.refl _, ?_⟩
    rw [tk_no env st n 3 (by omega) h]
    rfl

set_option maxHeartbeats 800000 in
theorem param_any (hm : Mach w B bm env st) (hs : st.length ≤ 900) (hE : ErrAt w T pv) :
    Calls Tryd.prog 54 #[.pointer (some ⟨bm, 0, none⟩), .int .i64 n] w (Stepped w B bm env (Lv.step env (4, n) st) T pv) := by
  by_cases h : 0 ≤ n ∧ n < 5
  · obtain ⟨h0, h5⟩ := h
    have hcell : w.cell? ⟨bm, n.toNat, none⟩ = some (.int .i64 (env.getD n.toNat 0)) := by
      obtain ⟨_, he, A, c, hblk, _⟩ := hm
      exact (hblk.cell _).trans (mach_env env _ he _ (by omega))
    go_enter Tryd.func54, Tryd.ntmps54
    go_wp2_with fail
    refine (push_any _ B bm env st _ hm (by omega)).mono ?_
    rintro e w' ⟨rfl, hm', hb, hk⟩
    go_wp2
    go_end0
    refine ⟨hb, hk, ?_⟩
    simp [Lv.step, Lv.tkOk, h0, h5]
    simpa using hm'
  · unfold ErrAt at hE
    have hno : Lv.step env (4, n) st = none := by
      have : Lv.tkOk (4, n) = false := by
        rw [Bool.eq_false_iff]; intro hk; simp [Lv.tkOk] at hk; omega
      simp [Lv.step, this]
    rw [hno]
    have HN := Lib.hid hno
    clear hno
    by_cases h0 : n < 0
    · go_enter Tryd.func54, Tryd.ntmps54
      go_wp2
      exact ⟨rfl, Below.refl _ _, Keeps.refl _, rfl⟩
    · have h5 : 5 ≤ n := by omega
      clear h
      go_enter Tryd.func54, Tryd.ntmps54
      go_wp2
      exact ⟨rfl, Below.refl _ _, Keeps.refl _, rfl⟩
end
end Go.Proofs.YtgebjnoicgmdoaaDoor
