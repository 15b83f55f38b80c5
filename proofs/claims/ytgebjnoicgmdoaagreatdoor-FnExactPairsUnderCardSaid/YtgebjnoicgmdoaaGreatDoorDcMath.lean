/- Residual of the program. -/
/- Whether a level is 0 hangs on the sign of the env alone. -/
/- Plain facts: a residual is right for its sign and has the values of its level for the envs of that sign. -/
/- ResidLe of the program (written by tools/mkrle.py). -/
/- Plain facts on ResidLe: it holds for every env of the sign, and else an env of the sign with one great parameter tells. -/
/- Slices of levels: how they are read, substitution in plain lists, levelsOk of the program. -/
/- Plain facts on levels: evaluation of a join and of successors. -/
/- Plain facts: two levels are compared for all values of the parameters. -/
import Derived.Test.YtgebjnoicgmdoaaGreatDoorWImax
import Derived.Test.YtgebjnoicgmdoaaGreatDoorSFree
import Derived.Test.YtgebjnoicgmdoaaGreatDoorSRes2
import Derived.Test.YtgebjnoicgmdoaaGreatDoorSlc
import Derived.Test.YtgebjnoicgmdoaaGreatDoorOwnO
import Derived.Test.YtgebjnoicgmdoaaGreatDoorSucc
import Derived.Test.YtgebjnoicgmdoaaGreatDoorNFree
import Derived.Test.YtgebjnoicgmdoaaGreatDoorMeth
import Derived.Test.YtgebjnoicgmdoaaGreatDoorSpec
import Derived.Test.YtgebjnoicgmdoaaGreatDoorNMath4

namespace Go.Proofs.YtgebjnoicgmdoaaGreatDoor
open Go.RowKit

theorem wl_fine {s : Int} {l : List (Int × Int)} (h : Lv.levelOk l = true) : Nm.wl s l ≠ [] ∧ Nm.Pst s (Nm.wl s l) ∧ Nm.AllOk (Nm.wl s l) := by
  obtain ⟨a, ha⟩ := Nm.wrun_one (s := s) h
  have hl := (ok_lenO h).2
  have hf := Nm.wfine_run (k := 0) (fun a ha => by simp at ha) ha
  have hfa := hf a (by simp)
  rw [Nm.wl_of ha]
  exact ⟨hfa.1, hfa.2.1, hf.allOk (by omega) (by simp)⟩

set_option maxRecDepth 100000 in
set_option maxHeartbeats 3200000 in
theorem residualOf_any (w : World) (B : Nat) (A : Option Addr) (n c : Nat) (l : List (Int × Int)) (s : Int) (T : TypeId) (pv : Value) (h0 : 1 < B) (hB : B ≤ w.heap.size)
    (hl : TokR w B A n l) (hok : Lv.levelOk l = true) (hs : Sg.isSign s = true) (hE : ErrAt w T pv) :
    Calls Tryz.prog 94 #[.slice A n c, .int .i64 s] w (ResAO w (Nm.rnorm (Nm.wl s l))) := by
  obtain ⟨hne, hpst, hall⟩ := wl_fine (s := s) hok
  go_enter Tryz.func94, Tryz.ntmps94
  go_wp2_with fail
  refine (withoutImax_any w B A n c l s T pv h0 hB hl hok hs hE).mono ?_
  rintro e w1 ⟨g1, c1, ts, rfl, ho1, hrel, hl24, hb1⟩
  have hs1 := hb1.size
  have hfr : Nm.freeR ts = some (Nm.norm (Nm.wl s l)) := by
    rw [freeR_yes ⟨hrel.ok hl24, hrel.2⟩, leafs_of hrel.1]
  obtain ⟨Lt, hLt⟩ : ∃ Lt, ts.length = Lt := ⟨_, rfl⟩
  rw [hLt] at ho1 hl24 ⊢
  have HNF := Lib.hid (implNormFree_any w1 w1.heap.size (some ⟨g1, 0, none⟩) Lt c1 ts T pv (by omega) (Nat.le_refl _) (OwnT.reads ho1) (by omega) (hE.below (hb1.mono hB) h0))
  rw [hfr] at HNF
  have HB1 := Lib.hid hb1
  have hlen := Nm.norm_len (Nm.wl s l)
  have hNok := (Nm.norm_ok hne hall)
  have hpt := Nm.norm_parts (Nm.wl s l)
  obtain ⟨L, hL⟩ : ∃ L, Nm.wl s l = L := ⟨_, rfl⟩
  rw [hL] at HNF hlen hNok hpt
  have HWL := Lib.hid hL
  obtain ⟨N, hN⟩ : ∃ N, Nm.norm L = N := ⟨_, rfl⟩
  obtain ⟨M, hM⟩ : ∃ M, N.length = M := ⟨_, rfl⟩
  rw [hN] at HNF hlen hNok hpt
  have hM1 : 1 ≤ M := by rw [← hM]; exact hNok.1
  rw [hM] at hlen
  have HNO := Lib.hid hNok.2.1
  have HNN := Lib.hid hN
  have HMM := Lib.hid hM
  clear hne hall hfr hLt ho1 hrel hb1 hNok hpst hN hM hL
  go_wp2_with fail
  refine HNF.out.mono ?_
  rintro e w2 ⟨A2, c2, rfl, ho2, hb2⟩
  simp only [Option.getD_some, Option.isSome_some, HMM.out] at ho2 ⊢
  have hb02 := HB1.out.trans (hb2.mono hs1)
  obtain ⟨g2, c2', hv⟩ := own_form ho2 (by omega)
  injection hv with e1 _ e3
  subst e1; subst e3
  have hr2 := OwnA.reads ho2
  obtain ⟨b, off, e, hb, hc⟩ := hr2.2 (by omega)
  injection e with e
  injection e with e1 e2
  subst e1; subst e2
  obtain ⟨z1, z2⟩ := hc 0 (by omega)
  rw [Nat.zero_mul, Nat.add_zero] at z1 z2
  have hcap := own_capR ho2
  have HO2 := Lib.hid (own_base (base' := w.heap.size) ho2 hs1)
  have HB2 := Lib.hid hb02
  have hi0 : 0 < M := by omega
  have HNI := Lib.hid (numberIsNeeded_any w2 w2.heap.size g2 0 M c2 N (Nat.le_refl _) hr2 (by omega) hM1 hcap HNO.out)
  clear hc hr2 ho2 hb2 hb02 HNF
  rcases hpt with ⟨hlt3, hnp⟩ | ⟨hlt3, hnp, hrn⟩
  · have hrn := Nm.rnorm_of_norm hlt3
    rw [HNN.out] at hrn
    have h00 : N.getD 0 (0, 0) = (-1, Nm.best (-1) L) := by rw [hnp]; rfl
    have hdrop : N.drop 1 = Nm.pars L 5 := by rw [hnp]; rfl
    rw [h00] at z1 z2 HNI
    simp only at z1 z2 HNI
    rw [hdrop] at HNI
    cases hx : Nm.exceeds (Nm.best (-1) L - 1) (Nm.pars L 5) with
    | true =>
      rw [hx, if_pos rfl] at hrn
      rw [hx] at HNI
      have HRN := Lib.hid hrn
      clear hrn h00 hdrop hx hlt3 hnp z2
      go_wp2_with fail
      refine HNI.out.mono ?_
      rintro e w3 ⟨rfl, hb3⟩
      have HB3 := Lib.hid (HB2.out.trans (hb3.mono HB2.out.size))
      have HO3 := Lib.hid (own_below' HO2.out hb3)
      clear hb3 HNI
      go_wp2
      go_ret
      rw [HWL.out, HRN.out]
      exact ⟨_, _, by rw [HMM.out]; rfl, by rw [HMM.out]; exact OwnO.of HO3.out, HB3.out⟩
    | false =>
      rw [hx, if_neg (by decide)] at hrn
      rw [hx] at HNI
      have hln : (Nm.pars L 5).length = M - 1 := by rw [← hdrop, List.length_drop, HMM.out]
      have hpn : 1 ≤ M - 1 := by
        rw [← hln]
        refine List.length_pos_iff.2 (fun e => ?_)
        have : Nm.exceeds (Nm.best (-1) L - 1) (Nm.pars L 5) = true := by
          rw [Nm.exceeds_iff, Nm.exceeds_mem, e]; intro a ha; simp at ha
        rw [hx] at this
        cases this
      obtain ⟨jj, rfl⟩ : ∃ jj, M = jj + 1 := ⟨M - 1, by omega⟩
      have HRN : Hid (Nm.rnorm L = N.drop 1) := by unfold Hid; rw [hrn, hdrop]
      have HTL : Hid ((N.drop 1).length = jj) := by unfold Hid; rw [List.length_drop, HMM.out]; rfl
      have hsl := run_tail2 g2 (jj + 1) c2 (by omega) hcap
      simp only [Nat.add_sub_cancel] at hsl
      clear hrn h00 hdrop hx hlt3 hnp z2 hln
      go_wp2_with fail
      refine HNI.out.mono ?_
      rintro e w3 ⟨rfl, hb3⟩
      have HB3 := Lib.hid (HB2.out.trans (hb3.mono HB2.out.size))
      have HO3 := Lib.hid (OwnO.tail (own_below' HO2.out hb3))
      clear hb3 HNI
      go_wp2
      go_ret
      rw [HWL.out, HRN.out]
      exact ⟨_, _, by rw [HTL.out]; rfl, by rw [HTL.out]; exact HO3.out, HB3.out⟩
  · have HRN : Hid (Nm.rnorm L = N) := by unfold Hid; rw [hrn, ← hnp]
    have hp0 : 0 ≤ (N.getD 0 (0, 0)).1 := by
      have hmem := Nm.mem_getD (l := N) (k := 0) (by rw [HMM.out]; omega)
      rw [hnp] at hmem ⊢
      exact (Nm.pars_mem.1 hmem).1
    generalize N.getD 0 (0, 0) = t at z1 z2 hp0
    obtain ⟨p, x⟩ := t
    simp only at z1 z2 hp0
    have dp : (p == -1) = false := by simp; omega
    clear hrn hnp hlt3 HNI
    go_wp2
    go_ret
    rw [HWL.out, HRN.out]
    exact ⟨_, _, by rw [HMM.out]; rfl, by rw [HMM.out]; exact OwnO.of HO2.out, HB2.out⟩

end Go.Proofs.YtgebjnoicgmdoaaGreatDoor

namespace Go.Proofs.YtgebjnoicgmdoaaGreatDoor
open Go.RowKit

namespace Sg
theorem bits_has {env : List Int} (h5 : env.length = 5) (k : Nat) (hk : k < 5) : has (bits env) k = decide (0 < env.getD k 0) := by
  match env, h5 with
  | [a, b, c, d, e], _ =>
    have key : ∀ x0 x1 x2 x3 x4 : Bool, ∀ k : Fin 5, has (((if x0 then 1 else 0) + 2 * ((if x1 then 1 else 0) + 2 * ((if x2 then 1 else 0) + 2 * ((if x3 then 1 else 0) + 2 * ((if x4 then 1 else 0) + 2 * 0))))) : Int) (k : Nat) = [x0, x1, x2, x3, x4].getD k false := by decide +kernel
    have := key (decide (a > 0)) (decide (b > 0)) (decide (c > 0)) (decide (d > 0)) (decide (e > 0)) ⟨k, hk⟩
    simp only [decide_eq_true_eq] at this
    simp only [bits]
    rw [this]
    rcases (show k = 0 ∨ k = 1 ∨ k = 2 ∨ k = 3 ∨ k = 4 by omega) with rfl | rfl | rfl | rfl | rfl <;> rfl
theorem bits_sign {env : List Int} (h5 : env.length = 5) : isSign (bits env) = true := by
  have h1 := bits_nonneg env
  have h2 := bits_lt env
  rw [h5] at h2
  simp [isSign]; omega
end Sg

end Go.Proofs.YtgebjnoicgmdoaaGreatDoor

namespace Go.Proofs.YtgebjnoicgmdoaaGreatDoor.Nm
open Go.Proofs.YtgebjnoicgmdoaaGreatDoor.Lv

/-- the residual of atoms for a sign is one -/
theorem rnorm_rok {s : Int} {a : List At} (hs : Sg.isSign s = true) (h0 : a ≠ []) (hp : Pst s a) (h : AllOk a) : ROk s (rnorm a) := by
  refine ⟨hs, List.length_pos_iff.2 (rnorm_ne h0 h), rnorm_allOk h, incr_of_sorted (rnorm_sorted a), fun k hk => hp.rnorm _ (mem_getD hk), fun e => ?_⟩
  have hs := rnorm_sorted a
  rw [exceeds_mem]
  match hr : rnorm a, hs, e with
  | [], _, _ => intro x hx; simp at hx
  | q :: r, hs, e =>
    intro x hx
    simp only [List.drop_one, List.tail_cons] at hx
    have e' : q.1 = -1 := e
    have hq : q ∈ rnorm a := by rw [hr]; simp
    have hx' : x ∈ rnorm a := by rw [hr]; simp [hx]
    have hlt : q.1 < x.1 := (List.pairwise_cons.1 hs).1 x hx
    obtain ⟨_, _, q3, q4⟩ := mem_rnorm.1 hq
    obtain ⟨_, x2, x3, x4⟩ := mem_rnorm.1 hx'
    rw [e'] at q3 q4
    simp [keepR] at q3
    have hm := most_le a 5 x.1 (by omega) (by simpa using x2)
    have hc := keepR_cases x3
    have hn := best_nonneg h hc
    show x.2 < q.2 - 1
    have hmo : mo a = most a 5 + 1 := by unfold mo; rw [if_neg (by omega)]
    omega

/-- an env of a sign -/
def EnvOf (s : Int) (env : List Int) : Prop := Pos env ∧ (∀ p : Int, Sg.has s p = true → 1 ≤ env.getD p.toNat 0) ∧ (∀ p : Int, 0 ≤ p → p < 5 → Sg.has s p = false → env.getD p.toNat 0 = 0)
theorem has_bd {s p : Int} (h : Sg.has s p = true) : 0 ≤ p ∧ p < 5 := by unfold Sg.has at h; simp at h; omega
theorem value_rnorm {s : Int} {env : List Int} (he : EnvOf s env) {l : List At} (hp : Pst s l) (h : AllOk l) : value env (rnorm l) = value env l := by
  apply Int.le_antisymm
  · exact value_le (value_ge _ _) fun a ha => value_mem (rnorm_sub ha)
  · refine value_le (value_ge _ _) fun a ha => ?_
    obtain ⟨p, x⟩ := a
    have hb := h.mem ha
    have hbm := best_mem ha
    simp only at hb
    by_cases ep : p = -1
    · subst ep
      by_cases hm : mo l < best (-1) l
      · have h1 : ((-1 : Int), best (-1) l) ∈ rnorm l := mem_rnorm.2 ⟨by simp, by simp, by simp [keepR, hm], rfl⟩
        have h2 := value_mem (env := env) h1
        simp [val] at h2 ⊢
        omega
      · have hne : most l 5 ≠ -1 := by intro e; unfold mo at hm; rw [if_pos e] at hm; omega
        have hmo : mo l = most l 5 + 1 := by unfold mo; rw [if_neg hne]
        obtain ⟨q, q1, q2, q3⟩ := most_at l 5 hne
        have g := most_ge l 5
        have h1 : (q, best q l) ∈ rnorm l := mem_rnorm.2 ⟨by simp; omega, by simp; omega, by simp [keepR, show q ≠ -1 by omega]; omega, rfl⟩
        have h2 := value_mem (env := env) h1
        have hq := hp _ (rnorm_sub h1)
        simp only at hq
        have h4 : 1 ≤ env.getD q.toNat 0 := by
          rcases hq with e | e
          · omega
          · exact he.2.1 q e
        simp only [val, if_true] at h2 ⊢
        simp only [show ¬ q = -1 by omega, if_false] at h2
        omega
    · have h1 : (p, best p l) ∈ rnorm l := mem_rnorm.2 ⟨by simp; omega, by simp; omega, by simp [keepR, ep]; omega, rfl⟩
      have h2 := value_mem (env := env) h1
      simp only [val, ep, if_false] at h2 ⊢
      omega
theorem value_zero' {s : Int} {env : List Int} (he : EnvOf s env) {a : List At} (hp : Pst s a) (hok : AllOk a) : value env a = 0 ↔ zeroL a = true := by
  rw [zeroL_iff]
  constructor
  · intro h x hx
    have hv := value_mem (env := env) hx
    have hm := hok.mem hx
    rw [h] at hv
    obtain ⟨p, y⟩ := x
    unfold val at hv
    simp only at hv hm
    rcases hp _ hx with e | e
    · simp only at e
      subst e
      rw [if_pos rfl] at hv
      have : y = 0 := by omega
      rw [this]
    · simp only at e
      have hl := he.2.1 p e
      have hb := has_bd e
      rw [if_neg (by omega)] at hv
      omega
  · intro h
    have h1 := value_ge env a
    have h2 := value_le (env := env) (l := a) (v := 0) (by omega) (fun x hx => by rw [h x hx]; simp [val])
    omega
theorem wstep_val {s : Int} {env : List Int} (he : EnvOf s env) {t : Tk} {k : Nat} {st st' : List (List At)} (hk : k ≤ 999) (hf : WFine s k st) (h : wstep s t st = some st') : Lv.step env t (st.map (value env)) = some (st'.map (value env)) := by
  have hok : tkOk t = true := by
    unfold wstep at h
    split at h
    · assumption
    · cases h
  unfold wstep at h
  unfold Lv.step
  rw [if_pos hok] at h ⊢
  split at h
  · rename_i e
    cases h
    rw [if_pos e]
    simp [value, val]
  · rename_i e
    rw [if_neg e]
    split at h
    · rename_i e4
      cases h
      rw [if_pos e4]
      have h2 : 0 ≤ t.2 ∧ t.2 < 5 := by simp [tkOk] at hok; omega
      have hg := he.1.get t.2.toNat
      simp only [List.map_cons, Option.some.injEq, List.cons.injEq, and_true]
      unfold pl
      cases hh : Sg.has s t.2 with
      | true =>
        simp only [Bool.true_eq_false, and_false, if_false, value, val, show ¬ t.2 = -1 by omega]
        omega
      | false =>
        simp only [h2.1, and_self, if_true, value, val, he.2.2 t.2 h2.1 h2.2 hh]
        rfl
    · rename_i e4
      rw [if_neg e4]
      split at h
      · rename_i e1
        rw [if_pos e1]
        split at h
        · cases h
          rename_i a r
          have ha := hf a (by simp)
          simp only [List.map_cons]
          rw [value_up he.1 ha.1 (hf.allOk (by omega) (by simp)) (by omega)]
        · cases h
      · rename_i e1
        rw [if_neg e1]
        split at h
        · cases h
          rename_i b a r
          have hb := hf b (by simp)
          have hz := value_zero' he hb.2.1 (hf.allOk (by omega) (by simp))
          simp only [List.map_cons, Option.some.injEq, List.cons.injEq, and_true]
          by_cases hc : t.1 = 3 ∧ zeroL b = true
          · rw [if_pos hc, if_pos ⟨hc.1, hz.2 hc.2⟩]
            simp [value, val]
          · rw [if_neg hc, if_neg (fun hh => hc ⟨hh.1, hz.1 hh.2⟩), value_append]
        · cases h
theorem wrun_val {s : Int} {env : List Int} (he : EnvOf s env) {l : List Tk} {st : List (List At)} (hl : l.length ≤ 24) (h : wrun s l [] = some st) : Lv.run env l [] = some (st.map (value env)) := by
  have H : ∀ (l : List Tk) (k : Nat) (u st : List (List At)), k + l.length ≤ 999 → WFine s k u → wrun s l u = some st → Lv.run env l (u.map (value env)) = some (st.map (value env)) := by
    intro l
    induction l with
    | nil => intro k u st _ _ h; cases h; rfl
    | cons t r ih =>
      intro k u st hk hf h
      simp only [wrun] at h
      simp only [List.length_cons] at hk
      cases hs : wstep s t u with
      | none => rw [hs] at h; cases h
      | some u' =>
        rw [hs] at h
        simp only [Lv.run]
        rw [wstep_val he (k := k) (by omega) hf hs, Option.bind_some]
        exact ih (k + 1) u' st (by omega) (wfine_step hf hs) h
  exact H l 0 [] st (by omega) (by intro a ha; simp at ha) h
/-- the residual has the values of the level -/
theorem eval_resid {s : Int} {env : List Int} (he : EnvOf s env) {l : List Tk} (h : levelOk l = true) : Lv.eval env l = some (value env (rnorm (wl s l))) := by
  obtain ⟨a, ha⟩ := wrun_one (s := s) h
  have h' := h
  simp only [levelOk, Bool.and_eq_true, decide_eq_true_eq] at h'
  have hr := wrun_val he (by omega) ha
  have hf := wfine_run (k := 0) (fun a ha => by simp at ha) ha
  have hfa := hf a (by simp)
  have e := Lv.eval_of_run (env := env) (l := l) (v := value env a) (by omega) (by omega) (by simpa using hr)
  rw [e, wl_of ha, value_rnorm he hfa.2.1 (hf.allOk (by omega) (by simp))]
end Go.Proofs.YtgebjnoicgmdoaaGreatDoor.Nm

namespace Go.Proofs.YtgebjnoicgmdoaaGreatDoor
open Go.RowKit

namespace Nm
/-- the atom y serves for x where positive parameters are at least 1 -/
def RFits (x y : At) : Prop := x.1 = y.1 ∧ x.2 ≤ y.2 ∨ x.1 = -1 ∧ 0 ≤ y.1 ∧ x.2 ≤ y.2 + 1
/-- some atom of b serves for x -/
def ratomLe (x : At) (b : List At) : Prop := ∃ k, k < b.length ∧ RFits x (b.getD k (0, 0))
open Classical in
noncomputable def residLe (s : Int) (a b : List At) : Bool := decide (ROk s a ∧ ROk s b ∧ ∀ k, k < a.length → ratomLe (a.getD k (0, 0)) b)
theorem residLe_iff (s : Int) (a b : List At) : residLe s a b = true ↔ ROk s a ∧ ROk s b ∧ ∀ k, k < a.length → ratomLe (a.getD k (0, 0)) b := by simp [residLe]
end Nm

end Go.Proofs.YtgebjnoicgmdoaaGreatDoor

namespace Go.Proofs.YtgebjnoicgmdoaaGreatDoor
namespace Nm

theorem rle_value {s : Int} {env : List Int} (he : EnvOf s env) {a b : List At} (hb : ROk s b) (h : ∀ k, k < a.length → ratomLe (a.getD k (0, 0)) b) : value env a ≤ value env b := by
  refine value_le (value_ge _ _) fun x hx => ?_
  obtain ⟨k, hk, rfl⟩ := getD_of_mem hx
  obtain ⟨j, hj, hf⟩ := h k hk
  have h3 := value_mem (env := env) (mem_getD hj)
  have h4 := hb.2.2.2.2.1 j hj
  generalize a.getD k (0, 0) = x at hf ⊢
  generalize b.getD j (0, 0) = y at hf h3 h4
  obtain ⟨p, u⟩ := x
  obtain ⟨q, v⟩ := y
  simp only [RFits] at hf h4
  rcases hf with ⟨rfl, h1⟩ | ⟨rfl, h1, h2⟩
  · by_cases ep : p = -1
    · simp only [val, ep, if_true] at h3 ⊢; omega
    · simp only [val, ep, if_false] at h3 ⊢; omega
  · rcases h4 with e | e
    · omega
    · have := he.2.1 q e
      simp only [val, if_true, show ¬ q = -1 by omega, if_false] at h3 ⊢
      omega

/-- the env of a sign that is great at p -/
def rpeak (s p : Int) : List Int := (List.range 5).map fun (i : Nat) => if Sg.has s i = true then (if (i : Int) = p then 1000 else 1) else 0
/-- the first k values of an env of a sign; where the answer is no, of the one that is great at p -/
def Part (s p : Int) (yes : Bool) (k : Nat) (env : List Int) : Prop := env.length = k ∧ ∀ j, j < k → (Sg.has s j = true → 1 ≤ env.getD j 0 ∧ env.getD j 0 ≤ 1000) ∧ (Sg.has s j = false → env.getD j 0 = 0) ∧ (yes = false → env.getD j 0 = (rpeak s p).getD j 0)
theorem Part.nil (s p : Int) (yes : Bool) : Part s p yes 0 [] := ⟨rfl, fun j hj => absurd hj (by omega)⟩
theorem Part.env {s p : Int} {yes : Bool} {env : List Int} (h : Part s p yes 5 env) : EnvOf s env ∧ envOk env = true := by
  have hall : ∀ x ∈ env, 0 ≤ x ∧ x ≤ 1000 := by
    intro x hx
    obtain ⟨j, hj, rfl⟩ := List.mem_iff_getElem.1 hx
    have h1 := h.2 j (by rw [← h.1]; exact hj)
    rw [List.getD_eq_getElem?_getD, List.getElem?_eq_getElem hj, Option.getD_some] at h1
    cases hh : Sg.has s j with
    | true => have := h1.1 hh; omega
    | false => have := h1.2.1 hh; omega
  refine ⟨⟨fun x hx => (hall x hx).1, fun p hp => ?_, fun p h0 h5' hp => ?_⟩, ?_⟩
  · have hb := has_bd hp
    exact ((h.2 p.toNat (by omega)).1 (by rw [show ((p.toNat : Nat) : Int) = p by omega]; exact hp)).1
  · exact (h.2 p.toNat (by omega)).2.1 (by rw [show ((p.toNat : Nat) : Int) = p by omega]; exact hp)
  · simp only [envOk, Bool.and_eq_true, decide_eq_true_eq, List.all_eq_true]
    exact ⟨h.1, fun x hx => hall x hx⟩
end Nm
end Go.Proofs.YtgebjnoicgmdoaaGreatDoor

namespace Go.Proofs.YtgebjnoicgmdoaaGreatDoor
open Go.RowKit

/-- a slice of levels: n cells below block B, each a slice of tokens that lie below B -/
def LvlR (w : World) (B : Nat) (A : Option Addr) (n : Nat) (ls : List (List (Int × Int))) : Prop :=
  ls.length = n ∧ (0 < n → ∃ b off, A = some ⟨b, off, none⟩ ∧ b < B ∧ ∀ k, k < n → ∃ Ak nk ck, w.cell? ⟨b, off + k, none⟩ = some (.slice Ak nk ck) ∧ TokR w B Ak nk (ls.getD k []) ∧ (nk : Int) ≤ 9223372036854775807)

theorem LvlR.below {w w' : World} {B : Nat} {A : Option Addr} {n : Nat} {ls : List (List (Int × Int))} (h : LvlR w B A n ls) (hb : Below B w w') : LvlR w' B A n ls :=
  ⟨h.1, fun h0 => by
    obtain ⟨b, off, rfl, hB, hc⟩ := h.2 h0
    refine ⟨b, off, rfl, hB, fun k hk => ?_⟩
    obtain ⟨Ak, nk, ck, c, t, m⟩ := hc k hk
    exact ⟨Ak, nk, ck, (hb.cell (p := ⟨b, off + k, none⟩) hB).trans c, t.below hb, m⟩⟩
theorem LvlR.more {w : World} {B B' : Nat} {A : Option Addr} {n : Nat} {ls : List (List (Int × Int))} (h : LvlR w B A n ls) (hB : B ≤ B') : LvlR w B' A n ls :=
  ⟨h.1, fun h0 => by
    obtain ⟨b, off, rfl, hb, hc⟩ := h.2 h0
    refine ⟨b, off, rfl, by omega, fun k hk => ?_⟩
    obtain ⟨Ak, nk, ck, c, t, m⟩ := hc k hk
    exact ⟨Ak, nk, ck, c, t.more hB, m⟩⟩

/-- the tokens of all levels together -/
def tot (ls : List (List (Int × Int))) : Nat := (ls.map List.length).sum
def bulk (ls : List (List (Int × Int))) : Nat := ls.length + tot ls
theorem tot_take (ls : List (List (Int × Int))) (k : Nat) (hk : k < ls.length) : tot (ls.take (k + 1)) = tot (ls.take k) + (ls.getD k []).length := by
  unfold tot
  rw [List.take_succ_eq_append_getElem hk, List.map_append, List.sum_append]
  congr 1
  simp [List.getD_eq_getElem?_getD, List.getElem?_eq_getElem hk]
theorem tot_le (ls : List (List (Int × Int))) (k : Nat) : tot (ls.take k) ≤ tot ls := by
  unfold tot
  have h : ls.map List.length = (ls.take k).map List.length ++ (ls.drop k).map List.length := by rw [← List.map_append, List.take_append_drop]
  rw [h, List.sum_append]; exact Nat.le_add_right _ _
theorem tot_get (ls : List (List (Int × Int))) (k : Nat) (hk : k < ls.length) : (ls.getD k []).length ≤ tot ls := by
  have h1 := tot_take ls k hk
  have h2 := tot_le ls (k + 1)
  omega

/-- what stands for one token -/
def piece (ls : List (List (Int × Int))) (t : Int × Int) : Option (List (Int × Int)) := if t.1 = 4 then (if t.2 < (ls.length : Int) then some (ls.getD t.2.toNat []) else none) else some [t]
def sub (ls : List (List (Int × Int))) : List (Int × Int) → Option (List (Int × Int))
  | [] => some []
  | t :: r => (piece ls t).bind fun p => (sub ls r).map fun q => p ++ q
end Go.Proofs.YtgebjnoicgmdoaaGreatDoor

namespace Go.Proofs.YtgebjnoicgmdoaaGreatDoor

theorem eval_run {env : List Int} {l : List (Int × Int)} {v : Int} (hok : Lv.levelOk l = true) (h : Lv.eval env l = some v) : Lv.run env l [] = some [v] := by
  obtain ⟨u, hu⟩ := Lv.run_of_ok (env := env) hok
  unfold Lv.eval at h
  rw [if_pos hok, hu] at h
  simp only at h
  injection h with h
  rw [hu, h]
theorem eval_some {env : List Int} {l : List (Int × Int)} (hok : Lv.levelOk l = true) : ∃ v, Lv.eval env l = some v := by
  obtain ⟨u, hu⟩ := Lv.run_of_ok (env := env) hok
  exact ⟨u, by unfold Lv.eval; rw [if_pos hok, hu]⟩
theorem run_sxs (env : List Int) (n : Nat) : ∀ v : Int, Lv.run env (sxs n) [v] = some [v + n] := by
  induction n with
  | zero => intro v; simp [sxs, Lv.run]
  | succ n ih =>
    intro v
    have : sxs (n + 1) = (1, 0) :: sxs n := rfl
    rw [this]
    simp only [Lv.run]
    have hs : Lv.step env (1, 0) [v] = some [v + 1] := by simp [Lv.step, Lv.tkOk]
    rw [hs, Option.bind_some, ih (v + 1)]
    congr 2
    omega
theorem eval_succ {env : List Int} {b q : List (Int × Int)} {n : Nat} {y : Int} (hs : succR b (n : Int) = some q) (hy : Lv.eval env b = some y) : Lv.levelOk b = true ∧ Lv.levelOk q = true ∧ Lv.eval env q = some (y + n) ∧ succs q = succs b + n := by
  unfold succR at hs
  split at hs
  · rename_i hk
    injection hs with hs
    rw [Int.toNat_natCast] at hs
    subst hs
    have hq : Lv.levelOk (b ++ sxs n) = true := by rw [ok_sxs hk.1]; simp; omega
    refine ⟨hk.1, hq, ?_, ?_⟩
    · unfold Lv.eval
      rw [if_pos hq, Lv.run_append, eval_run hk.1 hy, Option.bind_some, run_sxs]
    · unfold succs
      rw [List.filter_append, List.length_append]
      have : (sxs n).filter (fun t => t.1 == 1) = sxs n := by
        unfold sxs
        rw [List.filter_replicate]
        simp
      rw [this]
      simp [sxs]
  · cases hs
end Go.Proofs.YtgebjnoicgmdoaaGreatDoor

namespace Go.Proofs.YtgebjnoicgmdoaaGreatDoor.Dc
open Go.Proofs.YtgebjnoicgmdoaaGreatDoor.Nm

/-- the residual of a level for a sign -/
abbrev rs (l : List (Int × Int)) (s : Int) : List (Int × Int) := rnorm (wl s l)
theorem ok_two {l : List (Int × Int)} (h : Lv.levelOk l = true) : 1 ≤ l.length ∧ l.length ≤ 24 := by
  simp only [Lv.levelOk, Bool.and_eq_true, decide_eq_true_eq] at h
  omega
theorem wl_fine2 {s : Int} {l : List (Int × Int)} (h : Lv.levelOk l = true) : wl s l ≠ [] ∧ Pst s (wl s l) ∧ AllOk (wl s l) ∧ ∀ x ∈ wl s l, x.2 ≤ 24 := by
  obtain ⟨a, ha⟩ := wrun_one (s := s) h
  have hl := (ok_two h).2
  have hf := wfine_run (k := 0) (fun a ha => by simp at ha) ha
  have hfa := hf a (by simp)
  rw [wl_of ha]
  exact ⟨hfa.1, hfa.2.1, hf.allOk (by omega) (by simp), fun x hx => by have := (hfa.2.2 x hx).2.2.2; omega⟩
theorem rs_rok {s : Int} {l : List (Int × Int)} (h : Lv.levelOk l = true) (hs : Sg.isSign s = true) : ROk s (rs l s) :=
  have hf := wl_fine2 (s := s) h
  rnorm_rok hs hf.1 hf.2.1 hf.2.2.1
theorem rs_small {s : Int} {l : List (Int × Int)} (h : Lv.levelOk l = true) : ∀ x ∈ rs l s, x.2 ≤ 24 := fun x hx => (wl_fine2 (s := s) h).2.2.2 x (rnorm_sub hx)

/-- the env of a sign that is N at p -/
def gpeak (N s p : Int) : List Int := (List.range 5).map fun (i : Nat) => if Sg.has s i = true then (if (i : Int) = p then N else 1) else 0
theorem gpeak_len (N s p : Int) : (gpeak N s p).length = 5 := by simp [gpeak]
theorem gpeak_get (N s p : Int) (k : Nat) (hk : k < 5) : (gpeak N s p).getD k 0 = if Sg.has s k = true then (if (k : Int) = p then N else 1) else 0 := by
  simp [gpeak, List.getD_eq_getElem?_getD, hk]
theorem gpeak_env {N s p : Int} (hN : 1 ≤ N) : EnvOf s (gpeak N s p) := by
  refine ⟨fun x hx => ?_, fun q hq => ?_, fun q h0 h5 hq => ?_⟩
  · simp only [gpeak, List.mem_map] at hx
    obtain ⟨i, _, rfl⟩ := hx
    split
    · split <;> omega
    · omega
  · have hb := has_bd hq
    rw [gpeak_get _ _ _ _ (by omega), show ((q.toNat : Nat) : Int) = q by omega, if_pos hq]
    split <;> omega
  · rw [gpeak_get _ _ _ _ (by omega), show ((q.toNat : Nat) : Int) = q by omega, if_neg (by rw [hq]; decide)]
/-- an atom that no atom of b serves for is greater at its peak -/
theorem peak_gt {N M s : Int} {b : List At} {x : At} (hb : ROk s b) (hbM : ∀ y ∈ b, y.2 ≤ M) (hN : M + 2 ≤ N) (hM : 0 ≤ M) (hx0 : -1 ≤ x.1) (hx5 : x.1 < 5) (hxo : 0 ≤ x.2) (hxs : x.1 = -1 ∨ Sg.has s x.1 = true) (h : ¬ ratomLe x b) :
    value (gpeak N s x.1) b < val (gpeak N s x.1) x := by
  obtain ⟨p, u⟩ := x
  simp only at hx0 hx5 hxo hxs h ⊢
  have H : ∀ y ∈ b, val (gpeak N s p) y ≤ val (gpeak N s p) (p, u) - 1 := by
    intro y hy
    obtain ⟨j, hj, rfl⟩ := getD_of_mem hy
    have hby := hb.2.2.1.mem hy
    have h5 := hbM _ hy
    have hpy := hb.2.2.2.2.1 j hj
    have hn : ¬ RFits (p, u) (b.getD j (0, 0)) := fun hf => h ⟨j, hj, hf⟩
    generalize b.getD j (0, 0) = y at hby h5 hpy hn ⊢
    obtain ⟨q, v⟩ := y
    simp only [RFits] at hn
    simp only at hby h5 hpy
    have hq1 : ∀ _ : ¬ q = -1, (gpeak N s p).getD q.toNat 0 = if q = p then N else 1 := by
      intro eq
      rw [gpeak_get _ _ _ _ (by omega), show ((q.toNat : Nat) : Int) = q by omega]
      rcases hpy with e | e
      · exact absurd e eq
      · rw [if_pos e]
    by_cases ep : p = -1
    · subst ep
      simp only [val, if_true]
      by_cases eq : q = -1
      · simp only [eq, if_true]; omega
      · simp only [eq, if_false]
        rw [hq1 eq, if_neg eq]
        omega
    · have hpp : (gpeak N s p).getD p.toNat 0 = N := by
        rw [gpeak_get _ _ _ _ (by omega), show ((p.toNat : Nat) : Int) = p by omega]
        rcases hxs with e | e
        · exact absurd e ep
        · rw [if_pos e, if_pos rfl]
      simp only [val, ep, if_false]
      rw [hpp]
      by_cases eq : q = -1
      · simp only [eq, if_true]; omega
      · simp only [eq, if_false]
        rw [hq1 eq]
        by_cases eqp : q = p
        · rw [if_pos eqp]; omega
        · rw [if_neg eqp]; omega
  have hv0 : 1 ≤ val (gpeak N s p) (p, u) := by
    by_cases ep : p = -1
    · have hb1 := hb.2.1
      have := H _ (Nm.mem_getD (l := b) (k := 0) (by omega))
      have h0 := hb.2.2.1.mem (Nm.mem_getD (l := b) (k := 0) (by omega))
      have h1 : (b.getD 0 (0, 0)).2 ≤ val (gpeak N s p) (b.getD 0 (0, 0)) := val_ge (gpeak_env (by omega)).1 _
      omega
    · have hpp : (gpeak N s p).getD p.toNat 0 = N := by
        rw [gpeak_get _ _ _ _ (by omega), show ((p.toNat : Nat) : Int) = p by omega]
        rcases hxs with e | e
        · exact absurd e ep
        · rw [if_pos e, if_pos rfl]
      simp only [val, ep, if_false]
      rw [hpp]; omega
  have := value_le (env := gpeak N s p) (l := b) (v := val (gpeak N s p) (p, u) - 1) (by omega) H
  omega
/-- residuals are compared as their values are -/
theorem resid_sem {s : Int} {a b : List At} (ha : ROk s a) (hb : ROk s b) : (∀ k, k < a.length → ratomLe (a.getD k (0, 0)) b) ↔ ∀ env : List Int, env.length = 5 → EnvOf s env → value env a ≤ value env b := by
  constructor
  · exact fun h env _ he => rle_value he hb h
  · intro h k hk
    apply Classical.byContradiction
    intro hn
    have hx := Nm.mem_getD hk
    have hax := ha.2.2.1.mem hx
    have h1 := peak_gt (N := 2000) (M := 1000) hb (fun y hy => (hb.2.2.1.mem hy).2.2.2) (by omega) (by omega) hax.1 hax.2.1 hax.2.2.1 (ha.2.2.2.2.1 k hk) hn
    have h2 := h _ (gpeak_len 2000 s _) (gpeak_env (s := s) (p := (a.getD k (0, 0)).1) (by omega : (1 : Int) ≤ 2000))
    have h3 := value_mem (env := gpeak 2000 s (a.getD k (0, 0)).1) hx
    omega

/-- the value of a level, for whatever values of the parameters -/
def ev (env : List Int) (l : List (Int × Int)) : Int := (Lv.eval env l).getD 0
theorem ev_resid {s : Int} {env : List Int} (he : EnvOf s env) {l : List (Int × Int)} (h : Lv.levelOk l = true) : ev env l = value env (rs l s) := by
  unfold ev
  rw [eval_resid he h]
  rfl
/-- every env has a sign -/
theorem sign_of {env : List Int} (h5 : env.length = 5) (hp : Pos env) : ∃ S : Nat, S < 32 ∧ EnvOf (S : Int) env := by
  have hs := Sg.bits_sign h5
  have hb : 0 ≤ Sg.bits env ∧ Sg.bits env ≤ 31 := by simpa [Sg.isSign] using hs
  refine ⟨(Sg.bits env).toNat, by omega, ?_⟩
  rw [show (((Sg.bits env).toNat : Nat) : Int) = Sg.bits env by omega]
  have hh := fun k hk => Sg.bits_has h5 k hk
  refine ⟨hp, fun p h => ?_, fun p h0 h5' h => ?_⟩
  · have hbd := has_bd h
    have := hh p.toNat (by omega)
    rw [show ((p.toNat : Nat) : Int) = p by omega, h] at this
    have := of_decide_eq_true this.symm
    omega
  · have := hh p.toNat (by omega)
    rw [show ((p.toNat : Nat) : Int) = p by omega, h] at this
    have := of_decide_eq_false this.symm
    have := hp.get p.toNat
    omega
theorem isSign_nat {S : Nat} (h : S < 32) : Sg.isSign (S : Int) = true := by simp [Sg.isSign]; omega

open Classical in
/-- LevelLe's answer -/
noncomputable def leR (a b : List (Int × Int)) : Bool := decide (Lv.levelOk a = true ∧ Lv.levelOk b = true ∧ ∀ S : Nat, S < 32 → residLe (S : Int) (rs a S) (rs b S) = true)
theorem leR_iff (a b : List (Int × Int)) : leR a b = true ↔ Lv.levelOk a = true ∧ Lv.levelOk b = true ∧ ∀ S : Nat, S < 32 → residLe (S : Int) (rs a S) (rs b S) = true := by simp [leR]
/-- one level is at most another just where it is so for all values -/
theorem le_sem {a b : List (Int × Int)} (ha : Lv.levelOk a = true) (hb : Lv.levelOk b = true) : leR a b = true ↔ ∀ env : List Int, env.length = 5 → Pos env → ev env a ≤ ev env b := by
  rw [leR_iff]
  constructor
  · rintro ⟨_, _, h⟩ env h5 hp
    obtain ⟨S, hS, he⟩ := sign_of h5 hp
    rw [ev_resid he ha, ev_resid he hb]
    have h1 := (residLe_iff _ _ _).1 (h S hS)
    exact rle_value he h1.2.1 h1.2.2
  · intro h
    refine ⟨ha, hb, fun S hS => ?_⟩
    have hra := rs_rok ha (isSign_nat hS)
    have hrb := rs_rok hb (isSign_nat hS)
    refine (residLe_iff _ _ _).2 ⟨hra, hrb, (resid_sem hra hrb).2 fun env h5 he => ?_⟩
    have := h env h5 he.1
    rwa [ev_resid he ha, ev_resid he hb] at this
theorem le_refl {a : List (Int × Int)} (ha : Lv.levelOk a = true) : leR a a = true := (le_sem ha ha).2 fun _ _ _ => Int.le_refl _
theorem le_trans {a b c : List (Int × Int)} (h1 : leR a b = true) (h2 : leR b c = true) : leR a c = true := by
  have i1 := (leR_iff a b).1 h1
  have i2 := (leR_iff b c).1 h2
  exact (le_sem i1.1 i2.2.1).2 fun env h5 hp => Int.le_trans ((le_sem i1.1 i1.2.1).1 h1 env h5 hp) ((le_sem i2.1 i2.2.1).1 h2 env h5 hp)

end Go.Proofs.YtgebjnoicgmdoaaGreatDoor.Dc
