/- Residual of the program. -/
/- Two rows of atoms are compared: slices.Equal, and the model's own look. A parameter is looked for. -/
/- Plain facts: residuals are canonical; joins are compared; a parameter that is idle. -/
/- Plain facts: the first place where a level does not fit below another one, sign by sign and atom by atom. -/
/- Plain words: a list with the constraints of a sign; an atom and a list of atoms under a table of longest ways. -/
/- Plain facts: comparison under constraints, the first sign and atom that do not fit. -/
import Derived.Test.YtmbcjddahncocaaDoorWImax
import Derived.Test.YtmbcjddahncocaaDoorDcMath
import Derived.Test.YtmbcjddahncocaaDoorSRes2
import Derived.Test.YtmbcjddahncocaaDoorNMath3
import Derived.Tactics2
import Derived.Defers
import Derived.Laws.Pointers
import Derived.Laws.LoneSync
import Derived.RegionTactic
import Derived.RegionCalls
import Derived.Test.YtmbcjddahncocaaDoorCsMath
import Derived.Test.YtmbcjddahncocaaDoorSgHas
import Derived.Test.YtmbcjddahncocaaDoorConDraw
import Derived.Test.YtmbcjddahncocaaDoorCsMath7

namespace Go.Proofs.YtmbcjddahncocaaDoor
open Go.RowKit

theorem wl_fine {s : Int} {l : List (Int × Int)} (h : Lv.levelOk l = true) : Nm.wl s l ≠ [] ∧ Nm.Pst s (Nm.wl s l) ∧ Nm.AllOk (Nm.wl s l) := by
  obtain ⟨a, ha⟩ := Nm.wrun_one (s := s) h
  have hl := (ok_lenO h).2
  have hf := Nm.wfine_run (k := 0) (fun a ha => by simp at ha) ha
  have hfa := hf a (by simp)
  rw [Nm.wl_of ha]
  exact ⟨hfa.1, hfa.2.1, hf.allOk (by omega) (by simp)⟩

set_option maxRecDepth 100000 in
set_option maxHeartbeats 3200000 in
theorem residualOf_any (w : World) (B : Nat) (A : Option Addr) (n c : Nat) (l : List (Int × Int)) (s : Int) (T : TypeId) (pv : Value) (h0 : 0 < B) (hB : B ≤ w.heap.size)
    (hl : TokR w B A n l) (hok : Lv.levelOk l = true) (hs : Sg.isSign s = true) (hE : ErrAt w T pv) :
    Calls Tryd.prog 93 #[.slice A n c, .int .i64 s] w (ResAO w (Nm.rnorm (Nm.wl s l))) := by
  obtain ⟨hne, hpst, hall⟩ := wl_fine (s := s) hok
  go_enter Tryd.func93, Tryd.ntmps93
  go_wp2_with fail
  refine (withoutImax_any w B A n c l s T pv h0 hB hl hok hs hE).mono ?_
  rintro e w1 ⟨g1, c1, ts, rfl, ho1, hrel, hl24, hb1⟩
  have hs1 := hb1.size
  have hfr : Nm.freeR ts = some (Nm.norm (Nm.wl s l)) := by
    rw [freeR_yes ⟨hrel.ok hl24, hrel.2⟩, leafs_of hrel.1]
  obtain ⟨Lt, hLt⟩ : ∃ Lt, ts.length = Lt := ⟨_, rfl⟩
  rw [hLt] at ho1 hl24 ⊢
  have HNF := Lib.hid (implNormFree_any w1 w1.heap.size (some ⟨g1, 0, none⟩) Lt c1 ts T pv (by omega) (Nat.le_refl _) (OwnT.reads ho1) (by omega) (hE.below (hb1.mono hB) h0))
  rw [hfr] at HNF
  have HB1 := Lib.hid hb1
  have hlen := Nm.norm_len (Nm.wl s l)
  have hNok := (Nm.norm_ok hne hall)
  have hpt := Nm.norm_parts (Nm.wl s l)
  obtain ⟨L, hL⟩ : ∃ L, Nm.wl s l = L := ⟨_, rfl⟩
  rw [hL] at HNF hlen hNok hpt
  have HWL := Lib.hid hL
  obtain ⟨N, hN⟩ : ∃ N, Nm.norm L = N := ⟨_, rfl⟩
  obtain ⟨M, hM⟩ : ∃ M, N.length = M := ⟨_, rfl⟩
  rw [hN] at HNF hlen hNok hpt
  have hM1 : 1 ≤ M := by rw [← hM]; exact hNok.1
  rw [hM] at hlen
  have HNO := Lib.hid hNok.2.1
  have HNN := Lib.hid hN
  have HMM := Lib.hid hM
  clear hne hall hfr hLt ho1 hrel hb1 hNok hpst hN hM hL
  go_wp2_with fail
  refine HNF.out.mono ?_
  rintro e w2 ⟨A2, c2, rfl, ho2, hb2⟩
  simp only [Option.getD_some, Option.isSome_some, HMM.out] at ho2 ⊢
  have hb02 := HB1.out.trans (hb2.mono hs1)
  obtain ⟨g2, c2', hv⟩ := own_form ho2 (by omega)
  injection hv with e1 _ e3
  subst e1; subst e3
  have hr2 := OwnA.reads ho2
  obtain ⟨b, off, e, hb, hc⟩ := hr2.2 (by omega)
  injection e with e
  injection e with e1 e2
  subst e1; subst e2
  obtain ⟨z1, z2⟩ := hc 0 (by omega)
  rw [Nat.zero_mul, Nat.add_zero] at z1 z2
  have hcap := own_capR ho2
  have HO2 := Lib.hid (own_base (base' := w.heap.size) ho2 hs1)
  have HB2 := Lib.hid hb02
  have hi0 : 0 < M := by omega
  have HNI := Lib.hid (numberIsNeeded_any w2 w2.heap.size g2 0 M c2 N (Nat.le_refl _) hr2 (by omega) hM1 hcap HNO.out)
  clear hc hr2 ho2 hb2 hb02 HNF
  rcases hpt with ⟨hlt3, hnp⟩ | ⟨hlt3, hnp, hrn⟩
  · have hrn := Nm.rnorm_of_norm hlt3
    rw [HNN.out] at hrn
    have h00 : N.getD 0 (0, 0) = (-1, Nm.best (-1) L) := by rw [hnp]; rfl
    have hdrop : N.drop 1 = Nm.pars L 5 := by rw [hnp]; rfl
    rw [h00] at z1 z2 HNI
    simp only at z1 z2 HNI
    rw [hdrop] at HNI
    cases hx : Nm.exceeds (Nm.best (-1) L - 1) (Nm.pars L 5) with
    | true =>
      rw [hx, if_pos rfl] at hrn
      rw [hx] at HNI
      have HRN := Lib.hid hrn
      clear hrn h00 hdrop hx hlt3 hnp z2
      go_wp2_with fail
      refine HNI.out.mono ?_
      rintro e w3 ⟨rfl, hb3⟩
      have HB3 := Lib.hid (HB2.out.trans (hb3.mono HB2.out.size))
      have HO3 := Lib.hid (own_below' HO2.out hb3)
      clear hb3 HNI
      go_wp2
      go_ret
      rw [HWL.out, HRN.out]
      exact ⟨_, _, by rw [HMM.out]; rfl, by rw [HMM.out]; exact OwnO.of HO3.out, HB3.out⟩
    | false =>
      rw [hx, if_neg (by decide)] at hrn
      rw [hx] at HNI
      have hln : (Nm.pars L 5).length = M - 1 := by rw [← hdrop, List.length_drop, HMM.out]
      have hpn : 1 ≤ M - 1 := by
        rw [← hln]
        refine List.length_pos_iff.2 (fun e => ?_)
        have : Nm.exceeds (Nm.best (-1) L - 1) (Nm.pars L 5) = true := by
          rw [Nm.exceeds_iff, Nm.exceeds_mem, e]; intro a ha; simp at ha
        rw [hx] at this
        cases this
      obtain ⟨jj, rfl⟩ : ∃ jj, M = jj + 1 := ⟨M - 1, by omega⟩
      have HRN : Hid (Nm.rnorm L = N.drop 1) := by unfold Hid; rw [hrn, hdrop]
      have HTL : Hid ((N.drop 1).length = jj) := by unfold Hid; rw [List.length_drop, HMM.out]; rfl
      have hsl := run_tail2 g2 (jj + 1) c2 (by omega) hcap
      simp only [Nat.add_sub_cancel] at hsl
      clear hrn h00 hdrop hx hlt3 hnp z2 hln
      go_wp2_with fail
      refine HNI.out.mono ?_
      rintro e w3 ⟨rfl, hb3⟩
      have HB3 := Lib.hid (HB2.out.trans (hb3.mono HB2.out.size))
      have HO3 := Lib.hid (OwnO.tail (own_below' HO2.out hb3))
      clear hb3 HNI
      go_wp2
      go_ret
      rw [HWL.out, HRN.out]
      exact ⟨_, _, by rw [HTL.out]; rfl, by rw [HTL.out]; exact HO3.out, HB3.out⟩
  · have HRN : Hid (Nm.rnorm L = N) := by unfold Hid; rw [hrn, ← hnp]
    have hp0 : 0 ≤ (N.getD 0 (0, 0)).1 := by
      have hmem := Nm.mem_getD (l := N) (k := 0) (by rw [HMM.out]; omega)
      rw [hnp] at hmem ⊢
      exact (Nm.pars_mem.1 hmem).1
    generalize N.getD 0 (0, 0) = t at z1 z2 hp0
    obtain ⟨p, x⟩ := t
    simp only at z1 z2 hp0
    have dp : (p == -1) = false := by simp; omega
    clear hrn hnp hlt3 HNI
    go_wp2
    go_ret
    rw [HWL.out, HRN.out]
    exact ⟨_, _, by rw [HMM.out]; rfl, by rw [HMM.out]; exact OwnO.of HO2.out, HB2.out⟩

set_option maxRecDepth 100000 in
set_option maxHeartbeats 1600000 in
theorem implResidual_any (w : World) (B : Nat) (A : Option Addr) (n c : Nat) (l : List (Int × Int)) (s : Int) (T : TypeId) (pv : Value) (h0 : 0 < B) (hB : B ≤ w.heap.size)
    (hl : TokR w B A n l) (hn : (n : Int) ≤ 140737488355328) (hE : ErrAt w T pv) :
    Calls Tryd.prog 37 #[.slice A n c, .int .i64 s] w (ResO w (Nm.residR s l)) := by
  cases h1 : Lv.levelOk l with
  | false =>
    have HF : Hid (Nm.residR s l = none) := residR_no (fun h => by rw [h1] at h; cases h.1)
    have HO := Lib.hid h1
    clear h1
    go_enter Tryd.func37, Tryd.ntmps37
    go_wp2_with fail
    refine (levelOk_any w B A n c l T pv h0 hB hl hn hE).mono ?_
    rintro e w1 ⟨rfl, hb1⟩
    rw [HO.out]
    go_wp2
    go_ret2
    rw [HF.out]
    exact resO_none hb1
  | true =>
    cases hs : Sg.isSign s with
    | false =>
      have HF : Hid (Nm.residR s l = none) := residR_no (fun h => by rw [hs] at h; cases h.2)
      have HO := Lib.hid h1
      clear h1
      go_enter Tryd.func37, Tryd.ntmps37
      go_wp2_with fail
      refine (levelOk_any w B A n c l T pv h0 hB hl hn hE).mono ?_
      rintro e w1 ⟨rfl, hb1⟩
      rw [HO.out]
      go_wp2_with fail
      refine (signOk_any w1 s).mono ?_
      rintro e w' ⟨rfl, rfl⟩
      rw [hs]
      go_wp2
      go_ret2
      rw [HF.out]
      exact resO_none hb1
    | true =>
      have HF : Hid (Nm.residR s l = some (Nm.rnorm (Nm.wl s l))) := residR_yes ⟨h1, hs⟩
      have HO := Lib.hid h1
      clear h1
      go_enter Tryd.func37, Tryd.ntmps37
      go_wp2_with fail
      refine (levelOk_any w B A n c l T pv h0 hB hl hn hE).mono ?_
      rintro e w1 ⟨rfl, hb1⟩
      rw [HO.out]
      go_wp2_with fail
      refine (signOk_any w1 s).mono ?_
      rintro e w' ⟨rfl, rfl⟩
      rw [hs]
      have HB1 := Lib.hid hb1
      have HRO := Lib.hid (residualOf_any w' B A n c l s T pv h0 (Nat.le_trans hB hb1.size) (hl.below (hb1.mono hB)) HO.out hs (hE.below (hb1.mono hB) h0))
      clear hb1 hs
      generalize Nm.rnorm (Nm.wl s l) = R at HF HRO
      go_wp2_with fail
      refine HRO.out.mono ?_
      rintro e w2 ⟨A2, c2, rfl, ho2, hb2⟩
      have HO2 := Lib.hid (at_base ho2 HB1.out.size)
      have HB2 := Lib.hid (HB1.out.trans (hb2.mono HB1.out.size))
      clear ho2 hb2 HRO
      obtain ⟨M, hM⟩ : ∃ M, R.length = M := ⟨_, rfl⟩
      rw [hM] at HO2 ⊢
      have HMM := Lib.hid hM
      clear hM
      go_wp2
      go_ret2
      rw [HF.out]
      exact ⟨_, _, by simp only [Option.getD_some, HMM.out]; rfl, by simp only [Option.getD_some, HMM.out]; exact HO2.out, HB2.out⟩
end Go.Proofs.YtmbcjddahncocaaDoor

namespace Go.Proofs.YtmbcjddahncocaaDoor
open Go.RowKit

/-- what a search for a parameter finds -/
def FoundP (l : List (Int × Int)) (p i : Int) : Prop := (i = -1 ∧ ∀ k, k < l.length → (l.getD k (0, 0)).1 ≠ p) ∨ (0 ≤ i ∧ ∃ k, k < l.length ∧ (l.getD k (0, 0)).1 = p)
open Classical in
/-- whether an atom bears the parameter -/
noncomputable def hasP (l : List (Int × Int)) (p : Int) : Bool := decide (∃ k, k < l.length ∧ (l.getD k (0, 0)).1 = p)
theorem hasP_iff (l : List (Int × Int)) (p : Int) : hasP l p = true ↔ ∃ k, k < l.length ∧ (l.getD k (0, 0)).1 = p := by simp [hasP]
theorem hasP_yes {l : List (Int × Int)} {p : Int} {k : Nat} (h : k < l.length) (e : (l.getD k (0, 0)).1 = p) : hasP l p = true := (hasP_iff l p).2 ⟨k, h, e⟩
theorem hasP_no {l : List (Int × Int)} {p : Int} (h : ∀ k, k < l.length → (l.getD k (0, 0)).1 ≠ p) : hasP l p = false := by
  cases e : hasP l p with
  | false => rfl
  | true => obtain ⟨k, h1, h2⟩ := (hasP_iff l p).1 e; exact absurd h2 (h k h1)
theorem FoundP.has {l : List (Int × Int)} {p i : Int} (h : FoundP l p i) : hasP l p = decide (0 ≤ i) := by
  rcases h with ⟨rfl, h⟩ | ⟨h0, k, h1, h2⟩
  · rw [hasP_no h]; rfl
  · rw [hasP_yes h1 h2, decide_eq_true h0]

end Go.Proofs.YtmbcjddahncocaaDoor

namespace Go.Proofs.YtmbcjddahncocaaDoor.Dc
open Go.Proofs.YtmbcjddahncocaaDoor.Nm

theorem ev_some {env : List Int} {l : List (Int × Int)} (h : Lv.levelOk l = true) : Lv.eval env l = some (ev env l) := by
  obtain ⟨v, hv⟩ := eval_some (env := env) h
  unfold ev
  rw [hv]
  rfl
end Go.Proofs.YtmbcjddahncocaaDoor.Dc

namespace Go.Proofs.YtmbcjddahncocaaDoor.Dc
open Go.Proofs.YtmbcjddahncocaaDoor.Nm

/-- the Param of the first atom for which no atom of b serves -/
noncomputable def misL (b : List At) : List At → Option Int
  | [] => none
  | x :: t => if ratomLeB x b = true then misL b t else some x.1
theorem misL_none {b l : List At} : misL b l = none ↔ ∀ k, k < l.length → ratomLe (l.getD k (0, 0)) b := by
  induction l with
  | nil => simp [misL]
  | cons x t ih =>
    simp only [misL]
    constructor
    · intro h k hk
      split at h
      · rename_i h1
        cases k with
        | zero => exact (ratomLeB_iff _ _).1 h1
        | succ k => exact ih.1 h k (by simpa using hk)
      · cases h
    · intro h
      have h0 : ratomLe x b := h 0 (by simp)
      rw [if_pos ((ratomLeB_iff _ _).2 h0)]
      exact ih.2 fun k hk => h (k + 1) (by simpa using hk)
theorem misL_mem {b l : List At} {p : Int} (h : misL b l = some p) : ∃ x ∈ l, x.1 = p := by
  induction l with
  | nil => cases h
  | cons x t ih =>
    simp only [misL] at h
    split at h
    · obtain ⟨y, hy, e⟩ := ih h
      exact ⟨y, by simp [hy], e⟩
    · injection h with h
      exact ⟨x, by simp, h⟩
theorem drop_get {l : List At} {k : Nat} (hk : k < l.length) : l.drop k = l.getD k (0, 0) :: l.drop (k + 1) := by
  rw [List.drop_eq_getElem_cons hk, List.getD_eq_getElem?_getD, List.getElem?_eq_getElem hk, Option.getD_some]
theorem misL_go {b l : List At} {k : Nat} (hk : k < l.length) (h : ratomLeB (l.getD k (0, 0)) b = true) : misL b (l.drop k) = misL b (l.drop (k + 1)) := by
  rw [drop_get hk, misL, if_pos h]
theorem misL_hit {b l : List At} {k : Nat} (hk : k < l.length) (h : ratomLeB (l.getD k (0, 0)) b = false) : misL b (l.drop k) = some (l.getD k (0, 0)).1 := by
  rw [drop_get hk, misL, if_neg (by rw [h]; decide)]
theorem misL_end {b l : List At} {k : Nat} (hk : l.length ≤ k) : misL b (l.drop k) = none := by
  rw [List.drop_eq_nil_of_le hk, misL]

/-- the first sign, from S on, at which a, raised by u, does not fit below b, and the Param -/
noncomputable def misS (u : Int) (a b : List (Int × Int)) : Nat → Nat → Option (Nat × Int)
  | _, 0 => none
  | S, f + 1 =>
    match misL (rs b S) (up u (rs a S)) with
    | some p => some (S, p)
    | none => misS u a b (S + 1) f
noncomputable def misR (u : Int) (a b : List (Int × Int)) : Option (Nat × Int) := misS u a b 0 32
theorem misS_hit {u : Int} {a b : List (Int × Int)} {S : Nat} {p : Int} (hS : S < 32) (h : misL (rs b S) (up u (rs a S)) = some p) : misS u a b S (32 - S) = some (S, p) := by
  rw [show 32 - S = (32 - (S + 1)) + 1 by omega, misS, h]
theorem misS_go {u : Int} {a b : List (Int × Int)} {S : Nat} (hS : S < 32) (h : misL (rs b S) (up u (rs a S)) = none) : misS u a b S (32 - S) = misS u a b (S + 1) (32 - (S + 1)) := by
  rw [show 32 - S = (32 - (S + 1)) + 1 by omega, misS, h]
theorem misS_end {u : Int} {a b : List (Int × Int)} {S : Nat} (hS : 32 ≤ S) : misS u a b S (32 - S) = none := by
  rw [show 32 - S = 0 by omega, misS]
theorem misS_none {u : Int} {a b : List (Int × Int)} : ∀ {f S : Nat}, misS u a b S f = none ↔ ∀ T, S ≤ T → T < S + f → misL (rs b T) (up u (rs a T)) = none := by
  intro f
  induction f with
  | zero => intro S; simp only [misS, true_iff]; omega
  | succ f ih =>
    intro S
    simp only [misS]
    constructor
    · intro h T h1 h2
      split at h
      · cases h
      · rename_i h0
        by_cases e : T = S
        · rw [e]; exact h0
        · exact ih.1 h T (by omega) (by omega)
    · intro h
      rw [h S (by omega) (by omega)]
      exact ih.2 fun T h1 h2 => h T (by omega) (by omega)
theorem misS_some {u : Int} {a b : List (Int × Int)} {p : Int} {T : Nat} : ∀ {f S : Nat}, misS u a b S f = some (T, p) → S ≤ T ∧ T < S + f ∧ misL (rs b T) (up u (rs a T)) = some p := by
  intro f
  induction f with
  | zero => intro S h; cases h
  | succ f ih =>
    intro S h
    simp only [misS] at h
    split at h
    · rename_i h0
      injection h with h
      injection h with e1 e2
      subst e1; subst e2
      exact ⟨by omega, by omega, h0⟩
    · have := ih h
      exact ⟨by omega, by omega, this.2.2⟩
theorem misR_bd {u : Int} {a b : List (Int × Int)} {p : Int} {T : Nat} (ha : Lv.levelOk a = true) (h : misR u a b = some (T, p)) : T < 32 ∧ (p = -1 ∨ 0 ≤ p ∧ p < 5) := by
  obtain ⟨_, h2, h3⟩ := misS_some h
  refine ⟨by omega, ?_⟩
  obtain ⟨x, hx, rfl⟩ := misL_mem h3
  simp only [up, List.mem_map] at hx
  obtain ⟨y, hy, rfl⟩ := hx
  have := (rs_rok ha (isSign_nat (S := T) (by omega))).2.2.1.mem hy
  simp only
  omega

/-- what atMost answers -/
noncomputable def atR (u : Int) (a b : List (Int × Int)) : Bool := Lv.levelOk a && Lv.levelOk b && (misR u a b).isNone
theorem up_zero (l : List At) : up 0 l = l := by
  induction l with
  | nil => rfl
  | cons x t ih => simp only [up, List.map_cons, Int.add_zero] at ih ⊢; rw [ih]
theorem misR_none {u : Int} {a b : List (Int × Int)} : misR u a b = none ↔ ∀ T : Nat, T < 32 → ∀ k, k < (up u (rs a T)).length → ratomLe ((up u (rs a T)).getD k (0, 0)) (rs b T) := by
  unfold misR
  rw [misS_none]
  constructor
  · exact fun h T hT => misL_none.1 (h T (by omega) (by omega))
  · exact fun h T _ hT => misL_none.2 (h T (by omega))
theorem le_at (a b : List (Int × Int)) : atR 0 a b = leR a b := by
  rw [Bool.eq_iff_iff, leR_iff, atR]
  simp only [Bool.and_eq_true, Option.isNone_iff_eq_none, misR_none, up_zero]
  constructor
  · rintro ⟨⟨ha, hb⟩, h⟩
    exact ⟨ha, hb, fun S hS => (residLe_iff _ _ _).2 ⟨rs_rok ha (isSign_nat hS), rs_rok hb (isSign_nat hS), h S hS⟩⟩
  · rintro ⟨ha, hb, h⟩
    exact ⟨⟨ha, hb⟩, fun S hS => ((residLe_iff _ _ _).1 (h S hS)).2.2⟩
/-- the env that Counter gives back -/
def cenv (S : Nat) (p : Int) : List Int := if 0 ≤ p then (Sg.least (S : Int)).set p.toNat 100 else Sg.least (S : Int)
theorem cenv_len (S : Nat) (p : Int) : (cenv S p).length = 5 := by unfold cenv; split <;> simp [Sg.least_len]
noncomputable def ctrR (a b : List (Int × Int)) : Option (List Int) := if Lv.levelOk a = true ∧ Lv.levelOk b = true then (misR 0 a b).map fun x => cenv x.1 x.2 else none
end Go.Proofs.YtmbcjddahncocaaDoor.Dc

namespace Go.Proofs.YtmbcjddahncocaaDoor.Un
open Go.Proofs.YtmbcjddahncocaaDoor.Nm
open Go.Proofs.YtmbcjddahncocaaDoor.Cs (Cn Tb)

/-- the list with the constraints of a sign -/
def sgL (l : List Cn) (s : Int) : List Cn := Cs.signed l fun p => Sg.has s (p : Int)
theorem sgL_ok {l : List Cn} (h : Cs.ok l) (s : Int) : Cs.ok (sgL l s) := Cs.signed_ok h _
/-- an atom is at most another one, and at most a list, by a table of longest ways -/
def leB (T : Tb) (x y : At) : Bool := decide (0 ≤ T (Cs.node x.1) (Cs.node y.1)) && decide (x.2 ≤ T (Cs.node x.1) (Cs.node y.1) + y.2)
def atB (T : Tb) (x : At) (n : List At) : Bool := n.any (leB T x)
/-- no atom serves up to k -/
theorem atB_none {T : Tb} {x : At} {n : List At} (h : ∀ k, k < n.length → leB T x (n.getD k (0, 0)) = false) : atB T x n = false := by
  unfold atB
  rw [List.any_eq_false]
  intro y hy
  obtain ⟨k, hk, rfl⟩ := List.mem_iff_getElem.1 hy
  have := h k hk
  rw [List.getD_eq_getElem?_getD, List.getElem?_eq_getElem hk, Option.getD_some] at this
  rw [this]
  decide
theorem atB_some {T : Tb} {x : At} {n : List At} {k : Nat} (hk : k < n.length) (h : leB T x (n.getD k (0, 0)) = true) : atB T x n = true := by
  unfold atB
  rw [List.any_eq_true]
  rw [List.getD_eq_getElem?_getD, List.getElem?_eq_getElem hk, Option.getD_some] at h
  exact ⟨n[k], List.getElem_mem hk, h⟩

theorem drop_get {l : List At} {k : Nat} (hk : k < l.length) : l.drop k = l.getD k (0, 0) :: l.drop (k + 1) := by
  rw [List.drop_eq_getElem_cons hk, List.getD_eq_getElem?_getD, List.getElem?_eq_getElem hk, Option.getD_some]
/-- the first atom that is not at most b -/
def exL (T : Tb) (b : List At) : List At → Option At
  | [] => none
  | x :: t => if atB T x b = true then exL T b t else some x
theorem exL_go {T : Tb} {b l : List At} {k : Nat} (hk : k < l.length) (h : atB T (l.getD k (0, 0)) b = true) : exL T b (l.drop k) = exL T b (l.drop (k + 1)) := by
  rw [drop_get hk, exL, if_pos h]
theorem exL_hit {T : Tb} {b l : List At} {k : Nat} (hk : k < l.length) (h : atB T (l.getD k (0, 0)) b = false) : exL T b (l.drop k) = some (l.getD k (0, 0)) := by
  rw [drop_get hk, exL, if_neg (by rw [h]; decide)]
theorem exL_end {T : Tb} {b l : List At} {k : Nat} (hk : l.length ≤ k) : exL T b (l.drop k) = none := by
  rw [List.drop_eq_nil_of_le hk, exL]
theorem exL_mem {T : Tb} {b l : List At} {x : At} (h : exL T b l = some x) : x ∈ l := by
  induction l with
  | nil => cases h
  | cons y t ih =>
    simp only [exL] at h
    split at h
    · exact List.mem_cons_of_mem _ (ih h)
    · injection h with h
      subst h
      exact List.mem_cons_self
theorem exL_no {T : Tb} {b l : List At} {x : At} (h : exL T b l = some x) : atB T x b = false := by
  induction l with
  | nil => cases h
  | cons y t ih =>
    simp only [exL] at h
    split at h
    · exact ih h
    · rename_i h1
      injection h with h
      subst h
      simpa using h1
theorem exL_none {T : Tb} {b l : List At} : exL T b l = none ↔ ∀ x ∈ l, atB T x b = true := by
  induction l with
  | nil => simp [exL]
  | cons y t ih =>
    simp only [exL]
    split
    · rename_i h1
      rw [ih]
      simp [h1]
    · rename_i h1
      simp [h1]

end Go.Proofs.YtmbcjddahncocaaDoor.Un

namespace Go.Proofs.YtmbcjddahncocaaDoor.Un
open Go.Proofs.YtmbcjddahncocaaDoor.Nm
open Go.Proofs.YtmbcjddahncocaaDoor.Cs (Cn Tb)

/-- the first atom at a sign -/
noncomputable def ex1 (l : List Cn) (a b : List (Int × Int)) (S : Nat) : Option At := if Cs.flat (sgL l (S : Int)) = true then exL (Cs.tab (sgL l (S : Int))) (Dc.rs b (S : Int)) (Dc.rs a (S : Int)) else none
theorem ex1_no {l : List Cn} {a b : List (Int × Int)} {S : Nat} (h : Cs.flat (sgL l (S : Int)) = false) : ex1 l a b S = none := if_neg (by rw [h]; decide)
theorem ex1_yes {l : List Cn} {a b : List (Int × Int)} {S : Nat} (h : Cs.flat (sgL l (S : Int)) = true) : ex1 l a b S = exL (Cs.tab (sgL l (S : Int))) (Dc.rs b (S : Int)) (Dc.rs a (S : Int)) := if_pos h
/-- the first place, from S on, at which a function gives something -/
def findS (f : Nat → Option At) : Nat → Nat → Option (Nat × At)
  | _, 0 => none
  | S, k + 1 =>
    match f S with
    | some x => some (S, x)
    | none => findS f (S + 1) k
section
variable {f : Nat → Option At}
theorem findS_more (S k : Nat) : findS f S (k + 1) = match f S with | some x => some (S, x) | none => findS f (S + 1) k := rfl
theorem findS_hit {S k : Nat} {x : At} (h : f S = some x) : findS f S (k + 1) = some (S, x) := by
  rw [findS_more, h]
theorem findS_go {S k : Nat} (h : f S = none) : findS f S (k + 1) = findS f (S + 1) k := by
  rw [findS_more, h]
theorem findS_reach {N : Nat} : ∀ {M : Nat}, M ≤ N → (∀ T, T < M → f T = none) → findS f 0 N = findS f M (N - M) := by
  intro M
  induction M with
  | zero => exact fun _ _ => rfl
  | succ M ih =>
    intro hM h
    rw [ih (by omega) (fun T hT => h T (by omega)), show N - M = (N - (M + 1)) + 1 by omega]
    exact findS_go (h M (by omega))
theorem findS_at : ∀ {k S : Nat} {S' : Nat} {x : At}, findS f S k = some (S', x) → S ≤ S' ∧ S' < S + k ∧ f S' = some x ∧ ∀ T, S ≤ T → T < S' → f T = none := by
  intro k
  induction k with
  | zero => intro S S' x h; cases h
  | succ k ih =>
    intro S S' x h
    rw [findS_more] at h
    cases h1 : f S with
    | some y =>
      rw [h1] at h
      injection h with h
      injection h with e1 e2
      subst e1; subst e2
      exact ⟨Nat.le_refl _, by omega, h1, fun T h1 h2 => by omega⟩
    | none =>
      rw [h1] at h
      obtain ⟨q1, q2, q3, q4⟩ := ih h
      refine ⟨by omega, by omega, q3, fun T ht1 ht2 => ?_⟩
      by_cases e : T = S
      · rw [e]; exact h1
      · exact q4 T (by omega) ht2
theorem findS_no : ∀ {k S : Nat}, findS f S k = none → ∀ T, S ≤ T → T < S + k → f T = none := by
  intro k
  induction k with
  | zero => intro S _ T h1 h2; omega
  | succ k ih =>
    intro S h T h1 h2
    rw [findS_more] at h
    cases hx : f S with
    | some y => rw [hx] at h; cases h
    | none =>
      rw [hx] at h
      by_cases e : T = S
      · rw [e]; exact hx
      · exact ih h T (by omega) (by omega)
theorem findS_none {N : Nat} (h : ∀ T, T < N → f T = none) : findS f 0 N = none := by
  rw [findS_reach (Nat.le_refl N) h, Nat.sub_self]
  rfl
theorem findS_some {N S : Nat} {x : At} (hS : S < N) (h : ∀ T, T < S → f T = none) (hx : f S = some x) : findS f 0 N = some (S, x) := by
  rw [findS_reach (Nat.le_of_lt hS) h, show N - S = (N - (S + 1)) + 1 by omega]
  exact findS_hit hx
end
/-- the first sign and the first atom -/
noncomputable def exR (l : List Cn) (a b : List (Int × Int)) : Option (Nat × At) := findS (ex1 l a b) 0 32
section
variable {l : List Cn} {a b : List (Int × Int)}
theorem exR_none (h : ∀ T, T < 32 → ex1 l a b T = none) : exR l a b = none := findS_none h
theorem exR_some {S : Nat} {x : At} (hS : S < 32) (h : ∀ T, T < S → ex1 l a b T = none) (hx : ex1 l a b S = some x) : exR l a b = some (S, x) := findS_some hS h hx
theorem exR_at {S : Nat} {x : At} (h : exR l a b = some (S, x)) : S < 32 ∧ ex1 l a b S = some x ∧ ∀ T, T < S → ex1 l a b T = none := by
  obtain ⟨_, h2, h3, h4⟩ := findS_at h
  exact ⟨by omega, h3, fun T hT => h4 T (by omega) hT⟩
theorem exR_no (h : exR l a b = none) : ∀ T, T < 32 → ex1 l a b T = none := fun T hT => findS_no h T (by omega) (by omega)

/-- the signs as they are ranged over -/
theorem pre_none {ys : List (Fin 32)} (hS : ys.map Fin.val = List.range 32) (hno : ∀ y ∈ ys, ex1 l a b y.val = none) : exR l a b = none := exR_none fun T hT => by
  have : T ∈ ys.map Fin.val := by rw [hS]; exact List.mem_range.2 hT
  obtain ⟨y, hy, rfl⟩ := List.mem_map.1 this
  exact hno y hy
theorem pre_found {pre : List (Fin 32)} {x : Fin 32} {p : At} (hSp : ∃ k, k ≤ 32 ∧ (pre ++ [x]).map Fin.val = List.range k) (hno : ∀ y ∈ pre, ex1 l a b y.val = none) (hm : ex1 l a b x.val = some p) : exR l a b = some (x.val, p) := by
  obtain ⟨k, hk, he⟩ := hSp
  have hl := congrArg List.length he
  simp only [List.length_map, List.length_append, List.length_cons, List.length_nil, List.length_range] at hl
  obtain rfl : k = pre.length + 1 := by omega
  rw [List.range_succ, List.map_append] at he
  obtain ⟨h1, h2⟩ := List.append_inj he (by simp)
  have hx : x.val = pre.length := by simpa using h2
  refine exR_some x.isLt (fun T hT => ?_) hm
  have : T ∈ pre.map Fin.val := by rw [h1]; exact List.mem_range.2 (by omega)
  obtain ⟨y, hy, rfl⟩ := List.mem_map.1 this
  exact hno y hy
end

section
variable {f : Nat → Option At} {N : Nat} {p : Nat → Bool}
theorem findF_none (hp : ∀ T, p T = false → f T = none) {F : List Nat} (hF : F = (List.range N).filter p) (h : ∀ i, (hi : i < F.length) → f F[i] = none) : findS f 0 N = none := findS_none fun T hT => by
  cases hf : p T with
  | false => exact hp T hf
  | true =>
    have : T ∈ F := by rw [hF, List.mem_filter, List.mem_range]; exact ⟨hT, hf⟩
    obtain ⟨i, hi, rfl⟩ := List.mem_iff_getElem.1 this
    exact h i hi
end
section
variable {l : List Cn} {a b : List (Int × Int)}
/-- the signs that the list allows -/
def okS (l : List Cn) (S : Nat) : Bool := Cs.flat (sgL l (S : Int))
theorem ex1_not (T : Nat) (h : okS l T = false) : ex1 l a b T = none := ex1_no h
/-- all of them have come out none; the first that has not -/
theorem fnd_none {F : List Nat} (hF : F = (List.range 32).filter (okS l)) (h : ∀ i, (hi : i < F.length) → ex1 l a b F[i] = none) : exR l a b = none := findF_none ex1_not hF h
end
/-- the env that exceeds -/
def witL (T : Tb) (p : Int) : List Int := (List.range 5).map fun j => if 0 ≤ p ∧ 0 ≤ T (Cs.node p) (j + 1) then max (T 0 (j + 1)) (200 + T (Cs.node p) (j + 1)) else T 0 (j + 1)
end Go.Proofs.YtmbcjddahncocaaDoor.Un
