/- SignOf of the program and of the model. -/
/- The machine's methods: each does what one step on the stack says, or panics with errLevel. -/
/- The five actions of the machine's table, each for every state: one step of the plain function, or the panic. -/
/- The machine's loop over the tokens, and its run: the plain function on lists, or the panic. -/
import Derived.Test.YtghoofgfimeedaaDoorSgHas
import Derived.Test.YtghoofgfimeedaaDoorEvalLaw
import Derived.Test.YtghoofgfimeedaaDoorBase

namespace Go.Proofs.YtghoofgfimeedaaDoor
open Go.RowKit

namespace Sg
/-- what SignOf answers -/
def sgR (env : List Int) : Int := if envOk env = true then bits env else -1
theorem bits_cons (v : Int) (l : List Int) : bits (v :: l) = (if v > 0 then 1 else 0) + 2 * bits l := rfl
theorem bits_take (l : List Int) (k : Nat) (hk : k < l.length) : bits (l.take (k + 1)) = bits (l.take k) + (if l.getD k 0 > 0 then 2 ^ k else 0) := by
  induction l generalizing k with
  | nil => simp at hk
  | cons v l ih =>
    cases k with
    | zero => simp [bits]
    | succ k =>
      rw [List.length_cons] at hk
      rw [List.take_succ_cons, List.take_succ_cons, bits_cons, bits_cons, ih k (by omega), List.getD_cons_succ, Int.pow_succ]
      split <;> split <;> omega
theorem bits_drop (l : List Int) (k : Nat) (hk : k < l.length) : bits (l.drop k) = 2 * bits (l.drop (k + 1)) + (if l.getD k 0 > 0 then 1 else 0) := by
  rw [List.drop_eq_getElem_cons hk, bits_cons, List.getD_eq_getElem?_getD, List.getElem?_eq_getElem hk]
  simp only [Option.getD_some]
  omega
end Sg

theorem or_bit (k : Nat) (hk : k < 5) (x : Int) (h : 0 ≤ x) (hx : x < 2 ^ k) : Go.bits BinOp.or IntKind.i64 x (2 ^ k) = x + 2 ^ k := by
  have : ∀ k : Fin 5, ∀ m : Fin 32, ((m : Nat) : Int) < 2 ^ (k : Nat) → Go.bits BinOp.or IntKind.i64 ((m : Nat) : Int) (2 ^ (k : Nat)) = ((m : Nat) : Int) + 2 ^ (k : Nat) := by decide +kernel
  have h5 : (2 : Int) ^ k ≤ 2 ^ 5 := by
    have : ∀ k : Fin 5, (2 : Int) ^ (k : Nat) ≤ 2 ^ 5 := by decide
    exact this ⟨k, hk⟩
  have := this ⟨k, hk⟩ ⟨x.toNat, by omega⟩
  simp only [show ((x.toNat : Nat) : Int) = x by omega] at this
  exact this hx

end Go.Proofs.YtghoofgfimeedaaDoor

namespace Go.Proofs.YtghoofgfimeedaaDoor
open Go.RowKit

/-- the panic with errLevel -/
def Bad (T : TypeId) (pv : Value) : Ending := .panicked [{ v := .iface T pv, recovered := false }]

/-- a row of n + 1 cells, cut to n -/
theorem own_pop {w : World} {base g cap n : Nat} {e : TypeId} {xs : List Value} {x : Value} (h : w.ownsRow base e 1 (.slice (some ⟨g, 0, none⟩) (n + 1) cap) (n + 1) (xs ++ [x])) :
    w.ownsRow base e 1 (.slice (some ⟨g, 0, none⟩) n cap) n xs := by
  have hl := h.1
  simp at hl
  rcases h.2 with ⟨h0, _⟩ | ⟨g', cap', cur, hv, hb, hgg, h1, h2, h3, h4⟩
  · cases h0
  · injection hv with e1 e2 e3
    injection e1 with e1
    injection e1 with e1
    subst e1; subst e3
    refine ⟨by omega, .inr ⟨g, cap, cur, rfl, hb, hgg, by omega, h2, h3, ?_⟩⟩
    have := congrArg (List.take n) h4
    rw [List.take_take] at this
    rw [show min n ((n + 1) * 1) = n * 1 by omega] at this
    rw [this, ← hl, List.take_left']
    rfl

set_option maxHeartbeats 400000 in
theorem pop_some (w : World) (B bm : Nat) (env st : List Int) (v : Int) (hm : Mach w B bm env (v :: st)) (hs : st.length ≤ 1000) :
    Calls Tryd.prog 102 #[.pointer (some ⟨bm, 0, none⟩)] w fun e w' => e = .returned (.int .i64 v) ∧ Mach w' B bm env st ∧ Below B w w' ∧ Keeps w w' := by
  obtain ⟨hB, he, A, c, hblk, hown⟩ := hm
  have hlt := hblk.lt
  obtain ⟨g, rfl⟩ : ∃ g, A = some ⟨g, 0, none⟩ := by
    rcases hown.2 with ⟨_, h⟩ | ⟨g, cap', _, h, _⟩
    · simp at h
    · injection h with h1; exact ⟨g, h1⟩
  have hcap : st.length + 1 ≤ c := by
    rcases hown.2 with ⟨_, h⟩ | ⟨g, cap', _, h, _, _, h1, _⟩
    · simp at h
    · injection h with _ _ h3; simpa [h3] using h1
  have hc5 : w.cell? ⟨bm, 5, none⟩ = some (.slice (some ⟨g, 0, none⟩) (st.length + 1) c) := (hblk.cell 5).trans (mach_stack env _ he)
  have hcv : w.cell? ⟨g, st.length, none⟩ = some (.int .i64 v) := by
    have h := hown.cells (g := g) rfl st.length (.int .i64 v) (by simp)
    have hadd : (⟨g, 0, none⟩ : Addr).add st.length = ⟨g, st.length, none⟩ := by unfold Addr.add; split <;> simp_all
    rw [hadd] at h
    exact h
  have hf := hblk.thawed 5
  have hown1 := own_pop (n := st.length) (xs := st.reverse.map (Value.int .i64)) (x := .int .i64 v) (by simpa using hown)
  have H2 := Lib.hid (own_store (p := ⟨bm, 5, none⟩) hown1 (own_apart hown1 hblk (by decide)) (.slice (some ⟨g, 0, none⟩) st.length c))
  have H3 := Lib.hid (hblk.put 5 (.slice (some ⟨g, 0, none⟩) st.length c))
  have H4 := Lib.hid ((Keeps.refl w).store (p := ⟨bm, 5, none⟩) hblk (.slice (some ⟨g, 0, none⟩) st.length c))
  have HE := Lib.hid he
  clear he hown hown1
  go_enter Tryd.func102, Tryd.ntmps102
  go_wp2
  go_ret
  refine ⟨rfl, ⟨hB, HE.out, some ⟨g, 0, none⟩, c, ?_, ?_⟩, (Below.refl _ _).setCell (p := ⟨bm, 5, none⟩) hB _, H4.out⟩
  · have h3 := H3.out
    rw [mach_put env _ _ HE.out] at h3
    exact h3
  · exact H2.out

set_option maxHeartbeats 400000 in
theorem pop_none (w : World) (B bm : Nat) (env : List Int) (T : TypeId) (pv : Value) (hm : Mach w B bm env []) (hE : ErrAt w T pv) :
    Calls Tryd.prog 102 #[.pointer (some ⟨bm, 0, none⟩)] w fun e w' => e = Bad T pv ∧ w = w' := by
  obtain ⟨hB, he, A, c, hblk, hown⟩ := hm
  have hc5 : w.cell? ⟨bm, 5, none⟩ = some (.slice A 0 c) := (hblk.cell 5).trans (mach_stack env _ he)
  unfold ErrAt at hE
  clear he hown hblk
  go_enter Tryd.func102, Tryd.ntmps102
  go_wp2
  exact ⟨rfl, rfl, rfl⟩

set_option maxHeartbeats 400000 in
theorem needZero_yes (n : Int) (w : World) (h : n = 0) :
    Calls Tryd.prog 135 #[.int .i64 n] w fun e w' => e = .returned (.tuple #[]) ∧ w = w' := by
  subst h
  go_enter Tryd.func135, Tryd.ntmps135
  go_wp2
  go_end0
  exact ⟨rfl, rfl⟩

set_option maxHeartbeats 400000 in
theorem needZero_no (n : Int) (w : World) (T : TypeId) (pv : Value) (h : n ≠ 0) (hE : ErrAt w T pv) :
    Calls Tryd.prog 135 #[.int .i64 n] w fun e w' => e = Bad T pv ∧ w = w' := by
  have h1 : (n != 0) = true := by simpa using h
  unfold ErrAt at hE
  go_enter Tryd.func135, Tryd.ntmps135
  go_wp2
  exact ⟨rfl, rfl, rfl⟩
end Go.Proofs.YtghoofgfimeedaaDoor

namespace Go.Proofs.YtghoofgfimeedaaDoor
open Go.RowKit

/-- what an action leaves: the stack that the plain step gives, or the panic; all below B as it was -/
def Stepped (w : World) (B bm : Nat) (env : List Int) (r : Option (List Int)) (T : TypeId) (pv : Value) (e : Ending) (w' : World) : Prop :=
  Below B w w' ∧ Keeps w w' ∧ match r with
    | some st' => e = .returned (.tuple #[]) ∧ Mach w' B bm env st'
    | none => e = Bad T pv

section
variable (w : World) (B bm : Nat) (env st : List Int) (T : TypeId) (pv : Value) (n : Int)

theorem tk_no (i : Int) (hi : i = 0 ∨ i = 1 ∨ i = 2 ∨ i = 3) (h : n ≠ 0) : Lv.step env (i, n) st = none := by
  have : Lv.tkOk (i, n) = false := by
    rw [Bool.eq_false_iff]; intro hk; simp [Lv.tkOk] at hk; omega
  simp [Lv.step, this]

theorem max_step (s : List Int) (a b : Int) : Lv.step env (2, 0) (b :: a :: s) = some (max a b :: s) := by simp [Lv.step, Lv.tkOk]
theorem imax_step (s : List Int) (a b : Int) (h : ¬ b = 0) : Lv.step env (3, 0) (b :: a :: s) = some (max a b :: s) := by simp [Lv.step, Lv.tkOk, h]

set_option maxHeartbeats 400000 in
theorem zero_any (hm : Mach w B bm env st) (hs : st.length ≤ 900) (hE : ErrAt w T pv) :
    Calls Tryd.prog 121 #[.pointer (some ⟨bm, 0, none⟩), .int .i64 n] w (Stepped w B bm env (Lv.step env (0, n) st) T pv) := by
  by_cases h : n = 0
  · subst h
    go_enter Tryd.func121, Tryd.ntmps121
    go_wp2_with fail
    refine (needZero_yes 0 _ rfl).mono ?_
    rintro e w' ⟨rfl, rfl⟩
    go_wp2_with fail
    refine (push_any _ B bm env st 0 hm (by omega)).mono ?_
    rintro e w' ⟨rfl, hm', hb, hk⟩
    go_wp2
    go_end0
    exact ⟨hb, hk, rfl, hm'⟩
  · go_enter Tryd.func121, Tryd.ntmps121
    go_wp2_with fail
    refine (needZero_no n _ T pv h hE).mono ?_
    rintro e w' ⟨rfl, rfl⟩
    refine ⟨rfl, Below.refl _ _, Keeps.refl _, ?_⟩
    rw [tk_no env st n 0 (by omega) h]
    rfl

set_option maxHeartbeats 400000 in
theorem succ_any (hm : Mach w B bm env st) (hs : st.length ≤ 900) (hv : ∀ x ∈ st, 0 ≤ x ∧ x ≤ 100000) (hE : ErrAt w T pv) :
    Calls Tryd.prog 122 #[.pointer (some ⟨bm, 0, none⟩), .int .i64 n] w (Stepped w B bm env (Lv.step env (1, n) st) T pv) := by
  by_cases h : n = 0
  · subst h
    rcases st with _ | ⟨a, s⟩
    · clear hv
      go_enter Tryd.func122, Tryd.ntmps122
      go_wp2_with fail
      refine (needZero_yes 0 _ rfl).mono ?_
      rintro e w' ⟨rfl, rfl⟩
      go_wp2_with fail
      refine (pop_none _ B bm env T pv hm hE).mono ?_
      rintro e w' ⟨rfl, rfl⟩
      exact ⟨rfl, Below.refl _ _, Keeps.refl _, rfl⟩
    · have hva := hv a (by simp)
      have ha0 := hva.1
      have ha1 := hva.2
      clear hv hva
      simp only [List.length_cons] at hs
      go_enter Tryd.func122, Tryd.ntmps122
      go_wp2_with fail
      refine (needZero_yes 0 _ rfl).mono ?_
      rintro e w' ⟨rfl, rfl⟩
      go_wp2_with fail
      refine (pop_some _ B bm env s a hm (by omega)).mono ?_
      rintro e w1 ⟨rfl, hm1, hb1, hk1⟩
      go_wp2_with fail
      refine (push_any _ B bm env s (a + 1) hm1 (by omega)).mono ?_
      rintro e w2 ⟨rfl, hm2, hb2, hk2⟩
      go_wp2
      go_end0
      exact ⟨hb1.trans hb2, hk1.trans hk2, rfl, hm2⟩
  · clear hv
    go_enter Tryd.func122, Tryd.ntmps122
    go_wp2_with fail
    refine (needZero_no n _ T pv h hE).mono ?_
    rintro e w' ⟨rfl, rfl⟩
    refine ⟨rfl, Below.refl _ _, Keeps.refl _, ?_⟩
    rw [tk_no env st n 1 (by omega) h]
    rfl

set_option maxHeartbeats 800000 in
theorem max_any (hB : 0 < B) (hm : Mach w B bm env st) (hs : st.length ≤ 900) (hE : ErrAt w T pv) :
    Calls Tryd.prog 123 #[.pointer (some ⟨bm, 0, none⟩), .int .i64 n] w (Stepped w B bm env (Lv.step env (2, n) st) T pv) := by
  by_cases h : n = 0
  · subst h
    rcases st with _ | ⟨b, _ | ⟨a, s⟩⟩
    · go_enter Tryd.func123, Tryd.ntmps123
      go_wp2_with fail
      refine (needZero_yes 0 _ rfl).mono ?_
      rintro e w' ⟨rfl, rfl⟩
      go_wp2_with fail
      refine (pop_none _ B bm env T pv hm hE).mono ?_
      rintro e w' ⟨rfl, rfl⟩
      exact ⟨rfl, Below.refl _ _, Keeps.refl _, rfl⟩
    · go_enter Tryd.func123, Tryd.ntmps123
      go_wp2_with fail
      refine (needZero_yes 0 _ rfl).mono ?_
      rintro e w' ⟨rfl, rfl⟩
      go_wp2_with fail
      refine (pop_some _ B bm env [] b hm (by simp)).mono ?_
      rintro e w1 ⟨rfl, hm1, hb1, hk1⟩
      go_wp2_with fail
      refine (pop_none _ B bm env T pv hm1 (hE.below hb1 hB)).mono ?_
      rintro e w' ⟨rfl, rfl⟩
      exact ⟨rfl, hb1, hk1, rfl⟩
    · simp only [List.length_cons] at hs
      go_enter Tryd.func123, Tryd.ntmps123
      go_wp2_with fail
      refine (needZero_yes 0 _ rfl).mono ?_
      rintro e w' ⟨rfl, rfl⟩
      go_wp2_with fail
      refine (pop_some _ B bm env (a :: s) b hm (by simp; omega)).mono ?_
      rintro e w1 ⟨rfl, hm1, hb1, hk1⟩
      go_wp2_with fail
      refine (pop_some _ B bm env s a hm1 (by omega)).mono ?_
      rintro e w2 ⟨rfl, hm2, hb2, hk2⟩
      go_wp2_with fail
      all_goals
        refine (push_any _ B bm env s _ hm2 (by omega)).mono ?_
        rintro e w3 ⟨rfl, hm3, hb3, hk3⟩
        go_wp2
        go_end0
        refine ⟨(hb1.trans hb2).trans hb3, (hk1.trans hk2).trans hk3, ?_⟩
        rw [max_step]
        refine ⟨rfl, ?_⟩
        first | (rw [show max a b = b by omega]; exact hm3) | (rw [show max a b = a by omega]; exact hm3)
  · go_enter Tryd.func123, Tryd.ntmps123
    go_wp2_with fail
    refine (needZero_no n _ T pv h hE).mono ?_
    rintro e w' ⟨rfl, rfl⟩
    refine ⟨rfl, Below.refl _ _, Keeps.refl _, ?_⟩
    rw [tk_no env st n 2 (by omega) h]
    rfl

set_option maxHeartbeats 800000 in
theorem imax_any (hB : 0 < B) (hm : Mach w B bm env st) (hs : st.length ≤ 900) (hE : ErrAt w T pv) :
    Calls Tryd.prog 124 #[.pointer (some ⟨bm, 0, none⟩), .int .i64 n] w (Stepped w B bm env (Lv.step env (3, n) st) T pv) := by
  by_cases h : n = 0
  · subst h
    rcases st with _ | ⟨b, _ | ⟨a, s⟩⟩
    · go_enter Tryd.func124, Tryd.ntmps124
      go_wp2_with fail
      refine (needZero_yes 0 _ rfl).mono ?_
      rintro e w' ⟨rfl, rfl⟩
      go_wp2_with fail
      refine (pop_none _ B bm env T pv hm hE).mono ?_
      rintro e w' ⟨rfl, rfl⟩
      exact ⟨rfl, Below.refl _ _, Keeps.refl _, rfl⟩
    · go_enter Tryd.func124, Tryd.ntmps124
      go_wp2_with fail
      refine (needZero_yes 0 _ rfl).mono ?_
      rintro e w' ⟨rfl, rfl⟩
      go_wp2_with fail
      refine (pop_some _ B bm env [] b hm (by simp)).mono ?_
      rintro e w1 ⟨rfl, hm1, hb1, hk1⟩
      go_wp2_with fail
      refine (pop_none _ B bm env T pv hm1 (hE.below hb1 hB)).mono ?_
      rintro e w' ⟨rfl, rfl⟩
      exact ⟨rfl, hb1, hk1, rfl⟩
    · simp only [List.length_cons] at hs
      by_cases hb : b = 0
      · subst hb
        go_enter Tryd.func124, Tryd.ntmps124
        go_wp2_with fail
        refine (needZero_yes 0 _ rfl).mono ?_
        rintro e w' ⟨rfl, rfl⟩
        go_wp2_with fail
        refine (pop_some _ B bm env (a :: s) 0 hm (by simp; omega)).mono ?_
        rintro e w1 ⟨rfl, hm1, hb1, hk1⟩
        go_wp2_with fail
        refine (pop_some _ B bm env s a hm1 (by omega)).mono ?_
        rintro e w2 ⟨rfl, hm2, hb2, hk2⟩
        go_wp2_with fail
        refine (push_any _ B bm env s 0 hm2 (by omega)).mono ?_
        rintro e w3 ⟨rfl, hm3, hb3, hk3⟩
        go_wp2
        go_end0
        refine ⟨(hb1.trans hb2).trans hb3, (hk1.trans hk2).trans hk3, ?_⟩
        simp [Lv.step, Lv.tkOk]
        exact hm3
      · have hbb : (b == 0) = false := by simpa using hb
        go_enter Tryd.func124, Tryd.ntmps124
        go_wp2_with fail
        refine (needZero_yes 0 _ rfl).mono ?_
        rintro e w' ⟨rfl, rfl⟩
        go_wp2_with fail
        refine (pop_some _ B bm env (a :: s) b hm (by simp; omega)).mono ?_
        rintro e w1 ⟨rfl, hm1, hb1, hk1⟩
        go_wp2_with fail
        refine (pop_some _ B bm env s a hm1 (by omega)).mono ?_
        rintro e w2 ⟨rfl, hm2, hb2, hk2⟩
        go_wp2_with fail
        all_goals
          refine (push_any _ B bm env s _ hm2 (by omega)).mono ?_
          rintro e w3 ⟨rfl, hm3, hb3, hk3⟩
          go_wp2
          go_end0
          refine ⟨(hb1.trans hb2).trans hb3, (hk1.trans hk2).trans hk3, ?_⟩
          rw [imax_step env s a b hb]
          refine ⟨rfl, ?_⟩
          first | (rw [show max a b = b by omega]; exact hm3) | (rw [show max a b = a by omega]; exact hm3)
  · go_enter Tryd.func124, Tryd.ntmps124
    go_wp2_with fail
    refine (needZero_no n _ T pv h hE).mono ?_
    rintro e w' ⟨rfl, rfl⟩
    refine ⟨rfl, Below.refl _ _, Keeps.refl _, ?_⟩
    rw [tk_no env st n 3 (by omega) h]
    rfl

set_option maxHeartbeats 800000 in
theorem param_any (hm : Mach w B bm env st) (hs : st.length ≤ 900) (hE : ErrAt w T pv) :
    Calls Tryd.prog 125 #[.pointer (some ⟨bm, 0, none⟩), .int .i64 n] w (Stepped w B bm env (Lv.step env (4, n) st) T pv) := by
  by_cases h : 0 ≤ n ∧ n < 5
  · obtain ⟨h0, h5⟩ := h
    have hcell : w.cell? ⟨bm, n.toNat, none⟩ = some (.int .i64 (env.getD n.toNat 0)) := by
      obtain ⟨_, he, A, c, hblk, _⟩ := hm
      exact (hblk.cell _).trans (mach_env env _ he _ (by omega))
    go_enter Tryd.func125, Tryd.ntmps125
    go_wp2_with fail
    refine (push_any _ B bm env st _ hm (by omega)).mono ?_
    rintro e w' ⟨rfl, hm', hb, hk⟩
    go_wp2
    go_end0
    refine ⟨hb, hk, ?_⟩
    simp [Lv.step, Lv.tkOk, h0, h5]
    simpa using hm'
  · unfold ErrAt at hE
    have hno : Lv.step env (4, n) st = none := by
      have : Lv.tkOk (4, n) = false := by
        rw [Bool.eq_false_iff]; intro hk; simp [Lv.tkOk] at hk; omega
      simp [Lv.step, this]
    rw [hno]
    have HN := Lib.hid hno
    clear hno
    by_cases h0 : n < 0
    · go_enter Tryd.func125, Tryd.ntmps125
      go_wp2
      exact ⟨rfl, Below.refl _ _, Keeps.refl _, rfl⟩
    · have h5 : 5 ≤ n := by omega
      clear h
      go_enter Tryd.func125, Tryd.ntmps125
      go_wp2
      exact ⟨rfl, Below.refl _ _, Keeps.refl _, rfl⟩
end
end Go.Proofs.YtghoofgfimeedaaDoor

namespace Go.Proofs.YtghoofgfimeedaaDoor
open Go.RowKit

theorem run_store_fn (P : Program) (w : World) (a : Addr) (m : Mode) (fn : Fn) (first cap : Array Value) : (store a (.func fn first cap) m).run P w = stored P w a (.func fn first cap) m := run_store P w a _ m rfl
attribute [local go_sem] run_store_fn

/-- the table of method values -/
def table (bm : Nat) : Array Value :=
  #[.func (.func 121) #[.pointer (some ⟨bm, 0, none⟩)] #[], .func (.func 122) #[.pointer (some ⟨bm, 0, none⟩)] #[],
    .func (.func 123) #[.pointer (some ⟨bm, 0, none⟩)] #[], .func (.func 124) #[.pointer (some ⟨bm, 0, none⟩)] #[],
    .func (.func 125) #[.pointer (some ⟨bm, 0, none⟩)] #[]]

theorem Mach.alloc {w : World} {B bm : Nat} {env st : List Int} (h : Mach w B bm env st) (o : Obj) : Mach (w.alloc o) B bm env st := by
  obtain ⟨hB, he, A, c, hblk, hown⟩ := h
  exact ⟨hB, he, A, c, hblk.alloc o, hown.alloc o⟩
theorem Mach.size {w : World} {B bm : Nat} {env st : List Int} (h : Mach w B bm env st) : B ≤ w.heap.size := by
  obtain ⟨hB, he, A, c, hblk, hown⟩ := h
  have := hblk.lt
  omega

/-- what holds at the head of each round of the machine's loop -/
def AtTok (w : World) (B bm : Nat) (env : List Int) (l : List (Int × Int)) (T : TypeId) (pv : Value) (ga k : Nat) (wr : World) : Prop :=
  ∃ st, Lv.run env (l.take k) [] = some st ∧ Mach wr B bm env st ∧ st.length ≤ k ∧ (∀ x ∈ st, 0 ≤ x ∧ x ≤ 1000 + k) ∧ Below B w wr ∧ Keeps w wr ∧ ErrAt wr T pv ∧ Blk wr ga 139 (table bm)

theorem tok_out {w W : World} {B bm ga k : Nat} {env st : List Int} {l : List (Int × Int)} {T : TypeId} {pv : Value} {t : Int × Int} {e : Ending} {w' : World}
    (hB : 0 < B) (hv : ∀ x ∈ env, 0 ≤ x ∧ x ≤ 1000) (hr : Lv.run env (l.take (k + 1)) [] = (some st).bind (Lv.step env t)) (hlen : st.length ≤ k) (hbd : ∀ x ∈ st, 0 ≤ x ∧ x ≤ 1000 + (k : Int))
    (hb : Below B w W) (hk : Keeps w W) (hE : ErrAt W T pv) (htab : Blk W ga 139 (table bm)) (hS : Stepped W B bm env (Lv.step env t st) T pv e w') :
    (e = .returned (.tuple #[]) ∧ AtTok w B bm env l T pv ga (k + 1) w') ∨ (e = Bad T pv ∧ Stepped w B bm env (Lv.run env l []) T pv e w') := by
  obtain ⟨h1, h2, h3⟩ := hS
  rw [Option.bind_some] at hr
  cases hst : Lv.step env t st with
  | none =>
    rw [hst] at h3 hr
    refine .inr ⟨h3, hb.trans h1, hk.trans h2, ?_⟩
    rw [Lv.run_none_of_take hr]
    exact h3
  | some st' =>
    rw [hst] at h3 hr
    have hl := Lv.step_len hst
    have hbd' := Lv.step_bd (M := 1000 + (k : Int)) (by omega) (fun x hx => by have := hv x hx; omega) hbd hst
    refine .inl ⟨h3.1, st', hr, h3.2, by omega, fun x hx => by have := hbd' x hx; omega, hb.trans h1, hk.trans h2, hE.below h1 hB, h2.blk htab (by decide) (by decide)⟩

set_option maxRecDepth 100000 in
set_option maxHeartbeats 1000000 in
theorem act_any (w : World) (B bm : Nat) (env : List Int) (T : TypeId) (pv : Value) (A : Option Addr) (n c : Nat) (l : List (Int × Int))
    (hB : 0 < B) (hm : Mach w B bm env []) (hE : ErrAt w T pv) (hn : n ≤ 24) (hv : ∀ x ∈ env, 0 ≤ x ∧ x ≤ 1000) (hl : TokR w B A n l) :
    Calls Tryd.prog 101 #[.pointer (some ⟨bm, 0, none⟩), .slice A n c] w (Stepped w B bm env (Lv.run env l []) T pv) := by
  have hmf : ∀ (fn : Fn) (first cap : Array Value) (w : World), (Instr.makeFunc fn first cap).run Tryd.prog w = .ok (.func fn first cap) w := fun _ _ _ _ => rfl
  have hsz := hm.size
  have hstart : AtTok w B bm env l T pv w.heap.size 0 (w.alloc (.cells (table bm) 139)) :=
    ⟨[], by simp [Lv.run], hm.alloc _, by simp, by simp, (Below.refl _ _).alloc hsz _, (Keeps.refl _).alloc _, hE.below ((Below.refl B _).alloc hsz _) hB, Blk.made _ _ _⟩
  have HV := Lib.hid hv
  clear hv
  go_enter Tryd.func101, Tryd.ntmps101
  go_wp2
  go_loopw [20] (fun i wr => ∃ k : Nat, k ≤ n ∧ i = .int .i64 k ∧ AtTok w B bm env l T pv w.heap.size k wr) (fun i _ => n - (intOf i).toNat)
  case atStart => exact ⟨0, Nat.zero_le _, rfl, hstart⟩
  case round =>
    obtain ⟨k, hk, rfl, st, hrun, hmr, hlen, hbd, hbel, hkp, hEr, htab⟩ := hrel
    by_cases hlt : k < n
    · have hlk : k < l.length := by rw [hl.1]; exact hlt
      obtain ⟨b, off, rfl, hb, hc⟩ := hl.2 (by omega)
      obtain ⟨c1, c2⟩ := hc k hlt
      have HR := Lib.hid (Lv.run_take_succ env l k hlk [])
      rw [hrun] at HR
      generalize l.getD k (0, 0) = t at c1 c2 HR
      obtain ⟨op, N⟩ := t
      have d1 := (hbel.cell (p := ⟨b, off + k * 2, none⟩) hb).trans c1
      have d2 := (hbel.cell (p := ⟨b, off + k * 2 + 1, none⟩) hb).trans c2
      have HS := Lib.hid hrun
      have HB := Lib.hid hbd
      have HL := Lib.hid hl
      clear hrun hbd hc c1 c2 hl hlk
      have hz := htab.lt
      have hszr := hmr.size
      have HX1 := Lib.hid ((hbel.alloc hszr (.cells #[.int .i64 op, .int .i64 N] 44)).drew)
      have HX2 := Lib.hid (show Keeps w (wr.alloc (.cells #[.int .i64 op, .int .i64 N] 44)).drew from hkp.alloc _)
      have HX3 := Lib.hid (show ErrAt (wr.alloc (.cells #[.int .i64 op, .int .i64 N] 44)).drew T pv from hEr.below ((Below.refl B _).alloc hszr _).drew hB)
      have HX4 := Lib.hid (show Blk (wr.alloc (.cells #[.int .i64 op, .int .i64 N] 44)).drew w.heap.size 139 (table bm) from htab.alloc _)
      have HX5 := Lib.hid (show Mach (wr.alloc (.cells #[.int .i64 op, .int .i64 N] 44)).drew B bm env st from hmr.alloc _)
      have HX6 : Hid (∀ x ∈ st, 0 ≤ x ∧ x ≤ 100000) := fun x hx => by have := HB.out x hx; omega
      by_cases hop : 0 ≤ op ∧ op < 5
      · obtain ⟨h0, h5⟩ := hop
        have hi : op = 0 ∨ op = 1 ∨ op = 2 ∨ op = 3 ∨ op = 4 := by omega
        rcases hi with rfl | rfl | rfl | rfl | rfl
        · have hf : wr.cell? ⟨w.heap.size, 0, none⟩ = some (.func (.func 121) #[.pointer (some ⟨bm, 0, none⟩)] #[]) := htab.cell 0
          clear htab
          go_wp2_with fail
          refine region_tail 6 (by kernel_rfl) (by kernel_rfl) ?_
          simp only [List.take_succ_cons, List.take_zero, List.drop_succ_cons, List.drop_zero]
          repeat still_step
          refine wpStill_nil ?_
          go_wp2_with fail
          refine (zero_any _ B bm env st T pv N HX5.out (by omega) HX3.out).mono ?_
          rintro e w' hS
          rcases tok_out hB HV.out HR.out hlen HB.out HX1.out HX2.out HX3.out HX4.out hS with ⟨rfl, hA⟩ | ⟨rfl, hS'⟩
          · go_wp2
            go_roundw
            case rel => exact ⟨k + 1, by omega, by go_num, hA⟩
            case measure => simp [intOf]; omega
          · exact ⟨rfl, hS'⟩
        · have hf : wr.cell? ⟨w.heap.size, 1, none⟩ = some (.func (.func 122) #[.pointer (some ⟨bm, 0, none⟩)] #[]) := htab.cell 1
          clear htab
          go_wp2_with fail
          refine region_tail 6 (by kernel_rfl) (by kernel_rfl) ?_
          simp only [List.take_succ_cons, List.take_zero, List.drop_succ_cons, List.drop_zero]
          repeat still_step
          refine wpStill_nil ?_
          go_wp2_with fail
          refine (succ_any _ B bm env st T pv N HX5.out (by omega) HX6.out HX3.out).mono ?_
          rintro e w' hS
          rcases tok_out hB HV.out HR.out hlen HB.out HX1.out HX2.out HX3.out HX4.out hS with ⟨rfl, hA⟩ | ⟨rfl, hS'⟩
          · go_wp2
            go_roundw
            case rel => exact ⟨k + 1, by omega, by go_num, hA⟩
            case measure => simp [intOf]; omega
          · exact ⟨rfl, hS'⟩
        · have hf : wr.cell? ⟨w.heap.size, 2, none⟩ = some (.func (.func 123) #[.pointer (some ⟨bm, 0, none⟩)] #[]) := htab.cell 2
          clear htab
          go_wp2_with fail
          refine region_tail 6 (by kernel_rfl) (by kernel_rfl) ?_
          simp only [List.take_succ_cons, List.take_zero, List.drop_succ_cons, List.drop_zero]
          repeat still_step
          refine wpStill_nil ?_
          go_wp2_with fail
          refine (max_any _ B bm env st T pv N hB HX5.out (by omega) HX3.out).mono ?_
          rintro e w' hS
          rcases tok_out hB HV.out HR.out hlen HB.out HX1.out HX2.out HX3.out HX4.out hS with ⟨rfl, hA⟩ | ⟨rfl, hS'⟩
          · go_wp2
            go_roundw
            case rel => exact ⟨k + 1, by omega, by go_num, hA⟩
            case measure => simp [intOf]; omega
          · exact ⟨rfl, hS'⟩
        · have hf : wr.cell? ⟨w.heap.size, 3, none⟩ = some (.func (.func 124) #[.pointer (some ⟨bm, 0, none⟩)] #[]) := htab.cell 3
          clear htab
          go_wp2_with fail
          refine region_tail 6 (by kernel_rfl) (by kernel_rfl) ?_
          simp only [List.take_succ_cons, List.take_zero, List.drop_succ_cons, List.drop_zero]
          repeat still_step
          refine wpStill_nil ?_
          go_wp2_with fail
          refine (imax_any _ B bm env st T pv N hB HX5.out (by omega) HX3.out).mono ?_
          rintro e w' hS
          rcases tok_out hB HV.out HR.out hlen HB.out HX1.out HX2.out HX3.out HX4.out hS with ⟨rfl, hA⟩ | ⟨rfl, hS'⟩
          · go_wp2
            go_roundw
            case rel => exact ⟨k + 1, by omega, by go_num, hA⟩
            case measure => simp [intOf]; omega
          · exact ⟨rfl, hS'⟩
        · have hf : wr.cell? ⟨w.heap.size, 4, none⟩ = some (.func (.func 125) #[.pointer (some ⟨bm, 0, none⟩)] #[]) := htab.cell 4
          clear htab
          go_wp2_with fail
          refine region_tail 6 (by kernel_rfl) (by kernel_rfl) ?_
          simp only [List.take_succ_cons, List.take_zero, List.drop_succ_cons, List.drop_zero]
          repeat still_step
          refine wpStill_nil ?_
          go_wp2_with fail
          refine (param_any _ B bm env st T pv N HX5.out (by omega) HX3.out).mono ?_
          rintro e w' hS
          rcases tok_out hB HV.out HR.out hlen HB.out HX1.out HX2.out HX3.out HX4.out hS with ⟨rfl, hA⟩ | ⟨rfl, hS'⟩
          · go_wp2
            go_roundw
            case rel => exact ⟨k + 1, by omega, by go_num, hA⟩
            case measure => simp [intOf]; omega
          · exact ⟨rfl, hS'⟩
      · have hbad : Lv.step env (op, N) st = none := by
          have : Lv.tkOk (op, N) = false := by
            rw [Bool.eq_false_iff]; intro hk; simp [Lv.tkOk] at hk; omega
          simp [Lv.step, this]
        have hno := HR.out
        rw [Option.bind_some, hbad] at hno
        have HZ := Lib.hid (Lv.run_none_of_take hno)
        have hEr' : wr.cell? ⟨0, 0, none⟩ = some (.iface T pv) := hEr
        have hz0 : 0 < wr.heap.size := by omega
        clear hbad hno htab
        have HBW := Lib.hid (hbel.alloc hszr (.cells #[.int .i64 op, .int .i64 N] 44))
        have HKW := Lib.hid (hkp.alloc (.cells #[.int .i64 op, .int .i64 N] 44))
        by_cases h0 : op < 0
        · go_wp2
          refine ⟨rfl, HBW.out, HKW.out, ?_⟩
          rw [HZ.out]
          rfl
        · have h5 : 5 ≤ op := by omega
          clear hop
          go_wp2
          refine ⟨rfl, HBW.out, HKW.out, ?_⟩
          rw [HZ.out]
          rfl
    · go_wp2_with fail
      go_end0
      obtain rfl : k = n := by omega
      rw [List.take_of_length_le (by rw [hl.1]; exact Nat.le_refl _)] at hrun
      rw [hrun]
      exact ⟨hbel, hkp, rfl, hmr⟩
end Go.Proofs.YtghoofgfimeedaaDoor
