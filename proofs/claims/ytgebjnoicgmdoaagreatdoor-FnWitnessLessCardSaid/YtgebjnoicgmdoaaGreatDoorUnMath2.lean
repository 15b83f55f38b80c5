/- Residual of the program. -/
/- Two rows of atoms are compared: slices.Equal, and the model's own look. A parameter is looked for. -/
/- Plain facts: residuals are canonical; joins are compared; a parameter that is idle. -/
/- Plain facts: the first place where a level does not fit below another one, sign by sign and atom by atom. -/
/- Plain words: a list with the constraints of a sign; an atom and a list of atoms under a table of longest ways. -/
/- Plain facts: comparison under constraints, the first sign and atom that do not fit. -/
/- Plain facts: what comparison under constraints says of envs; the witness satisfies the list and exceeds. -/
import Derived.Test.YtgebjnoicgmdoaaGreatDoorWImax
import Derived.Test.YtgebjnoicgmdoaaGreatDoorEvMath
import Derived.Test.YtgebjnoicgmdoaaGreatDoorSRes2
import Derived.Test.YtgebjnoicgmdoaaGreatDoorNMath
import Derived.Test.YtgebjnoicgmdoaaGreatDoorOwnO
import Derived.Tactics2
import Derived.Defers
import Derived.Laws.Pointers
import Derived.Laws.LoneSync
import Derived.RegionTactic
import Derived.RegionCalls
import Derived.Test.YtgebjnoicgmdoaaGreatDoorCsMath
import Derived.Test.YtgebjnoicgmdoaaGreatDoorSigned
import Derived.Test.YtgebjnoicgmdoaaGreatDoorCoMem
import Derived.Test.YtgebjnoicgmdoaaGreatDoorCsMath7

namespace Go.Proofs.YtgebjnoicgmdoaaGreatDoor
open Go.RowKit

theorem wl_fine {s : Int} {l : List (Int × Int)} (h : Lv.levelOk l = true) : Nm.wl s l ≠ [] ∧ Nm.Pst s (Nm.wl s l) ∧ Nm.AllOk (Nm.wl s l) := by
  obtain ⟨a, ha⟩ := Nm.wrun_one (s := s) h
  have hl := (ok_lenO h).2
  have hf := Nm.wfine_run (k := 0) (fun a ha => by simp at ha) ha
  have hfa := hf a (by simp)
  rw [Nm.wl_of ha]
  exact ⟨hfa.1, hfa.2.1, hf.allOk (by omega) (by simp)⟩

set_option maxRecDepth 100000 in
set_option maxHeartbeats 3200000 in
theorem residualOf_any (w : World) (B : Nat) (A : Option Addr) (n c : Nat) (l : List (Int × Int)) (s : Int) (T : TypeId) (pv : Value) (h0 : 1 < B) (hB : B ≤ w.heap.size)
    (hl : TokR w B A n l) (hok : Lv.levelOk l = true) (hs : Sg.isSign s = true) (hE : ErrAt w T pv) :
    Calls Tryz.prog 94 #[.slice A n c, .int .i64 s] w (ResAO w (Nm.rnorm (Nm.wl s l))) := by
  obtain ⟨hne, hpst, hall⟩ := wl_fine (s := s) hok
  go_enter Tryz.func94, Tryz.ntmps94
  go_wp2_with fail
  refine (withoutImax_any w B A n c l s T pv h0 hB hl hok hs hE).mono ?_
  rintro e w1 ⟨g1, c1, ts, rfl, ho1, hrel, hl24, hb1⟩
  have hs1 := hb1.size
  have hfr : Nm.freeR ts = some (Nm.norm (Nm.wl s l)) := by
    rw [freeR_yes ⟨hrel.ok hl24, hrel.2⟩, leafs_of hrel.1]
  obtain ⟨Lt, hLt⟩ : ∃ Lt, ts.length = Lt := ⟨_, rfl⟩
  rw [hLt] at ho1 hl24 ⊢
  have HNF := Lib.hid (implNormFree_any w1 w1.heap.size (some ⟨g1, 0, none⟩) Lt c1 ts T pv (by omega) (Nat.le_refl _) (OwnT.reads ho1) (by omega) (hE.below (hb1.mono hB) h0))
  rw [hfr] at HNF
  have HB1 := Lib.hid hb1
  have hlen := Nm.norm_len (Nm.wl s l)
  have hNok := (Nm.norm_ok hne hall)
  have hpt := Nm.norm_parts (Nm.wl s l)
  obtain ⟨L, hL⟩ : ∃ L, Nm.wl s l = L := ⟨_, rfl⟩
  rw [hL] at HNF hlen hNok hpt
  have HWL := Lib.hid hL
  obtain ⟨N, hN⟩ : ∃ N, Nm.norm L = N := ⟨_, rfl⟩
  obtain ⟨M, hM⟩ : ∃ M, N.length = M := ⟨_, rfl⟩
  rw [hN] at HNF hlen hNok hpt
  have hM1 : 1 ≤ M := by rw [← hM]; exact hNok.1
  rw [hM] at hlen
  have HNO := Lib.hid hNok.2.1
  have HNN := Lib.hid hN
  have HMM := Lib.hid hM
  clear hne hall hfr hLt ho1 hrel hb1 hNok hpst hN hM hL
  go_wp2_with fail
  refine HNF.out.mono ?_
  rintro e w2 ⟨A2, c2, rfl, ho2, hb2⟩
  simp only [Option.getD_some, Option.isSome_some, HMM.out] at ho2 ⊢
  have hb02 := HB1.out.trans (hb2.mono hs1)
  obtain ⟨g2, c2', hv⟩ := own_form ho2 (by omega)
  injection hv with e1 _ e3
  subst e1; subst e3
  have hr2 := OwnA.reads ho2
  obtain ⟨b, off, e, hb, hc⟩ := hr2.2 (by omega)
  injection e with e
  injection e with e1 e2
  subst e1; subst e2
  obtain ⟨z1, z2⟩ := hc 0 (by omega)
  rw [Nat.zero_mul, Nat.add_zero] at z1 z2
  have hcap := own_capR ho2
  have HO2 := Lib.hid (own_base (base' := w.heap.size) ho2 hs1)
  have HB2 := Lib.hid hb02
  have hi0 : 0 < M := by omega
  have HNI := Lib.hid (numberIsNeeded_any w2 w2.heap.size g2 0 M c2 N (Nat.le_refl _) hr2 (by omega) hM1 hcap HNO.out)
  clear hc hr2 ho2 hb2 hb02 HNF
  rcases hpt with ⟨hlt3, hnp⟩ | ⟨hlt3, hnp, hrn⟩
  · have hrn := Nm.rnorm_of_norm hlt3
    rw [HNN.out] at hrn
    have h00 : N.getD 0 (0, 0) = (-1, Nm.best (-1) L) := by rw [hnp]; rfl
    have hdrop : N.drop 1 = Nm.pars L 5 := by rw [hnp]; rfl
    rw [h00] at z1 z2 HNI
    simp only at z1 z2 HNI
    rw [hdrop] at HNI
    cases hx : Nm.exceeds (Nm.best (-1) L - 1) (Nm.pars L 5) with
    | true =>
      rw [hx, if_pos rfl] at hrn
      rw [hx] at HNI
      have HRN := Lib.hid hrn
      clear hrn h00 hdrop hx hlt3 hnp z2
      go_wp2_with fail
      refine HNI.out.mono ?_
      rintro e w3 ⟨rfl, hb3⟩
      have HB3 := Lib.hid (HB2.out.trans (hb3.mono HB2.out.size))
      have HO3 := Lib.hid (own_below' HO2.out hb3)
      clear hb3 HNI
      go_wp2
      go_ret
      rw [HWL.out, HRN.out]
      exact ⟨_, _, by rw [HMM.out]; rfl, by rw [HMM.out]; exact OwnO.of HO3.out, HB3.out⟩
    | false =>
      rw [hx, if_neg (by decide)] at hrn
      rw [hx] at HNI
      have hln : (Nm.pars L 5).length = M - 1 := by rw [← hdrop, List.length_drop, HMM.out]
      have hpn : 1 ≤ M - 1 := by
        rw [← hln]
        refine List.length_pos_iff.2 (fun e => ?_)
        have : Nm.exceeds (Nm.best (-1) L - 1) (Nm.pars L 5) = true := by
          rw [Nm.exceeds_iff, Nm.exceeds_mem, e]; intro a ha; simp at ha
        rw [hx] at this
        cases this
      obtain ⟨jj, rfl⟩ : ∃ jj, M = jj + 1 := ⟨M - 1, by omega⟩
      have HRN : Hid (Nm.rnorm L = N.drop 1) := by unfold Hid; rw [hrn, hdrop]
      have HTL : Hid ((N.drop 1).length = jj) := by unfold Hid; rw [List.length_drop, HMM.out]; rfl
      have hsl := run_tail2 g2 (jj + 1) c2 (by omega) hcap
      simp only [Nat.add_sub_cancel] at hsl
      clear hrn h00 hdrop hx hlt3 hnp z2 hln
      go_wp2_with fail
      refine HNI.out.mono ?_
      rintro e w3 ⟨rfl, hb3⟩
      have HB3 := Lib.hid (HB2.out.trans (hb3.mono HB2.out.size))
      have HO3 := Lib.hid (OwnO.tail (own_below' HO2.out hb3))
      clear hb3 HNI
      go_wp2
      go_ret
      rw [HWL.out, HRN.out]
      exact ⟨_, _, by rw [HTL.out]; rfl, by rw [HTL.out]; exact HO3.out, HB3.out⟩
  · have HRN : Hid (Nm.rnorm L = N) := by unfold Hid; rw [hrn, ← hnp]
    have hp0 : 0 ≤ (N.getD 0 (0, 0)).1 := by
      have hmem := Nm.mem_getD (l := N) (k := 0) (by rw [HMM.out]; omega)
      rw [hnp] at hmem ⊢
      exact (Nm.pars_mem.1 hmem).1
    generalize N.getD 0 (0, 0) = t at z1 z2 hp0
    obtain ⟨p, x⟩ := t
    simp only at z1 z2 hp0
    have dp : (p == -1) = false := by simp; omega
    clear hrn hnp hlt3 HNI
    go_wp2
    go_ret
    rw [HWL.out, HRN.out]
    exact ⟨_, _, by rw [HMM.out]; rfl, by rw [HMM.out]; exact OwnO.of HO2.out, HB2.out⟩

end Go.Proofs.YtgebjnoicgmdoaaGreatDoor

namespace Go.Proofs.YtgebjnoicgmdoaaGreatDoor
open Go.RowKit

/-- what a search for a parameter finds -/
def FoundP (l : List (Int × Int)) (p i : Int) : Prop := (i = -1 ∧ ∀ k, k < l.length → (l.getD k (0, 0)).1 ≠ p) ∨ (0 ≤ i ∧ ∃ k, k < l.length ∧ (l.getD k (0, 0)).1 = p)
open Classical in
/-- whether an atom bears the parameter -/
noncomputable def hasP (l : List (Int × Int)) (p : Int) : Bool := decide (∃ k, k < l.length ∧ (l.getD k (0, 0)).1 = p)
theorem hasP_iff (l : List (Int × Int)) (p : Int) : hasP l p = true ↔ ∃ k, k < l.length ∧ (l.getD k (0, 0)).1 = p := by simp [hasP]
theorem hasP_yes {l : List (Int × Int)} {p : Int} {k : Nat} (h : k < l.length) (e : (l.getD k (0, 0)).1 = p) : hasP l p = true := (hasP_iff l p).2 ⟨k, h, e⟩
theorem hasP_no {l : List (Int × Int)} {p : Int} (h : ∀ k, k < l.length → (l.getD k (0, 0)).1 ≠ p) : hasP l p = false := by
  cases e : hasP l p with
  | false => rfl
  | true => obtain ⟨k, h1, h2⟩ := (hasP_iff l p).1 e; exact absurd h2 (h k h1)
theorem FoundP.has {l : List (Int × Int)} {p i : Int} (h : FoundP l p i) : hasP l p = decide (0 ≤ i) := by
  rcases h with ⟨rfl, h⟩ | ⟨h0, k, h1, h2⟩
  · rw [hasP_no h]; rfl
  · rw [hasP_yes h1 h2, decide_eq_true h0]

end Go.Proofs.YtgebjnoicgmdoaaGreatDoor

namespace Go.Proofs.YtgebjnoicgmdoaaGreatDoor.Dc
open Go.Proofs.YtgebjnoicgmdoaaGreatDoor.Nm

theorem ev_some {env : List Int} {l : List (Int × Int)} (h : Lv.levelOk l = true) : Lv.eval env l = some (ev env l) := by
  obtain ⟨v, hv⟩ := eval_some (env := env) h
  unfold ev
  rw [hv]
  rfl
end Go.Proofs.YtgebjnoicgmdoaaGreatDoor.Dc

namespace Go.Proofs.YtgebjnoicgmdoaaGreatDoor.Dc
open Go.Proofs.YtgebjnoicgmdoaaGreatDoor.Nm

theorem drop_get {l : List At} {k : Nat} (hk : k < l.length) : l.drop k = l.getD k (0, 0) :: l.drop (k + 1) := by
  rw [List.drop_eq_getElem_cons hk, List.getD_eq_getElem?_getD, List.getElem?_eq_getElem hk, Option.getD_some]
end Go.Proofs.YtgebjnoicgmdoaaGreatDoor.Dc

namespace Go.Proofs.YtgebjnoicgmdoaaGreatDoor.Un
open Go.Proofs.YtgebjnoicgmdoaaGreatDoor.Nm
open Go.Proofs.YtgebjnoicgmdoaaGreatDoor.Cs (Cn Tb)

/-- the list with the constraints of a sign -/
def sgL (l : List Cn) (s : Int) : List Cn := Cs.signed l fun p => Sg.has s (p : Int)
theorem sgL_ok {l : List Cn} (h : Cs.ok l) (s : Int) : Cs.ok (sgL l s) := Cs.signed_ok h _
/-- an atom is at most another one, and at most a list, by a table of longest ways -/
def leB (T : Tb) (x y : At) : Bool := decide (0 ≤ T (Cs.node x.1) (Cs.node y.1)) && decide (x.2 ≤ T (Cs.node x.1) (Cs.node y.1) + y.2)
def atB (T : Tb) (x : At) (n : List At) : Bool := n.any (leB T x)
/-- no atom serves up to k -/
theorem atB_none {T : Tb} {x : At} {n : List At} (h : ∀ k, k < n.length → leB T x (n.getD k (0, 0)) = false) : atB T x n = false := by
  unfold atB
  rw [List.any_eq_false]
  intro y hy
  obtain ⟨k, hk, rfl⟩ := List.mem_iff_getElem.1 hy
  have := h k hk
  rw [List.getD_eq_getElem?_getD, List.getElem?_eq_getElem hk, Option.getD_some] at this
  rw [this]
  decide
theorem atB_some {T : Tb} {x : At} {n : List At} {k : Nat} (hk : k < n.length) (h : leB T x (n.getD k (0, 0)) = true) : atB T x n = true := by
  unfold atB
  rw [List.any_eq_true]
  rw [List.getD_eq_getElem?_getD, List.getElem?_eq_getElem hk, Option.getD_some] at h
  exact ⟨n[k], List.getElem_mem hk, h⟩

theorem drop_get {l : List At} {k : Nat} (hk : k < l.length) : l.drop k = l.getD k (0, 0) :: l.drop (k + 1) := by
  rw [List.drop_eq_getElem_cons hk, List.getD_eq_getElem?_getD, List.getElem?_eq_getElem hk, Option.getD_some]
/-- the first atom that is not at most b -/
def exL (T : Tb) (b : List At) : List At → Option At
  | [] => none
  | x :: t => if atB T x b = true then exL T b t else some x
theorem exL_go {T : Tb} {b l : List At} {k : Nat} (hk : k < l.length) (h : atB T (l.getD k (0, 0)) b = true) : exL T b (l.drop k) = exL T b (l.drop (k + 1)) := by
  rw [drop_get hk, exL, if_pos h]
theorem exL_hit {T : Tb} {b l : List At} {k : Nat} (hk : k < l.length) (h : atB T (l.getD k (0, 0)) b = false) : exL T b (l.drop k) = some (l.getD k (0, 0)) := by
  rw [drop_get hk, exL, if_neg (by rw [h]; decide)]
theorem exL_end {T : Tb} {b l : List At} {k : Nat} (hk : l.length ≤ k) : exL T b (l.drop k) = none := by
  rw [List.drop_eq_nil_of_le hk, exL]
theorem exL_mem {T : Tb} {b l : List At} {x : At} (h : exL T b l = some x) : x ∈ l := by
  induction l with
  | nil => cases h
  | cons y t ih =>
    simp only [exL] at h
    split at h
    · exact List.mem_cons_of_mem _ (ih h)
    · injection h with h
      subst h
      exact List.mem_cons_self
theorem exL_no {T : Tb} {b l : List At} {x : At} (h : exL T b l = some x) : atB T x b = false := by
  induction l with
  | nil => cases h
  | cons y t ih =>
    simp only [exL] at h
    split at h
    · exact ih h
    · rename_i h1
      injection h with h
      subst h
      simpa using h1
theorem exL_none {T : Tb} {b l : List At} : exL T b l = none ↔ ∀ x ∈ l, atB T x b = true := by
  induction l with
  | nil => simp [exL]
  | cons y t ih =>
    simp only [exL]
    split
    · rename_i h1
      rw [ih]
      simp [h1]
    · rename_i h1
      simp [h1]

end Go.Proofs.YtgebjnoicgmdoaaGreatDoor.Un

namespace Go.Proofs.YtgebjnoicgmdoaaGreatDoor.Un
open Go.Proofs.YtgebjnoicgmdoaaGreatDoor.Nm
open Go.Proofs.YtgebjnoicgmdoaaGreatDoor.Cs (Cn Tb)

/-- the first atom at a sign -/
noncomputable def ex1 (l : List Cn) (a b : List (Int × Int)) (S : Nat) : Option At := if Cs.flat (sgL l (S : Int)) = true then exL (Cs.tab (sgL l (S : Int))) (Dc.rs b (S : Int)) (Dc.rs a (S : Int)) else none
theorem ex1_no {l : List Cn} {a b : List (Int × Int)} {S : Nat} (h : Cs.flat (sgL l (S : Int)) = false) : ex1 l a b S = none := if_neg (by rw [h]; decide)
theorem ex1_yes {l : List Cn} {a b : List (Int × Int)} {S : Nat} (h : Cs.flat (sgL l (S : Int)) = true) : ex1 l a b S = exL (Cs.tab (sgL l (S : Int))) (Dc.rs b (S : Int)) (Dc.rs a (S : Int)) := if_pos h
/-- the first place, from S on, at which a function gives something -/
def findS (f : Nat → Option At) : Nat → Nat → Option (Nat × At)
  | _, 0 => none
  | S, k + 1 =>
    match f S with
    | some x => some (S, x)
    | none => findS f (S + 1) k
section
variable {f : Nat → Option At}
theorem findS_more (S k : Nat) : findS f S (k + 1) = match f S with | some x => some (S, x) | none => findS f (S + 1) k := rfl
theorem findS_hit {S k : Nat} {x : At} (h : f S = some x) : findS f S (k + 1) = some (S, x) := by
  rw [findS_more, h]
theorem findS_go {S k : Nat} (h : f S = none) : findS f S (k + 1) = findS f (S + 1) k := by
  rw [findS_more, h]
theorem findS_reach {N : Nat} : ∀ {M : Nat}, M ≤ N → (∀ T, T < M → f T = none) → findS f 0 N = findS f M (N - M) := by
  intro M
  induction M with
  | zero => exact fun _ _ => rfl
  | succ M ih =>
    intro hM h
    rw [ih (by omega) (fun T hT => h T (by omega)), show N - M = (N - (M + 1)) + 1 by omega]
    exact findS_go (h M (by omega))
theorem findS_at : ∀ {k S : Nat} {S' : Nat} {x : At}, findS f S k = some (S', x) → S ≤ S' ∧ S' < S + k ∧ f S' = some x ∧ ∀ T, S ≤ T → T < S' → f T = none := by
  intro k
  induction k with
  | zero => intro S S' x h; cases h
  | succ k ih =>
    intro S S' x h
    rw [findS_more] at h
    cases h1 : f S with
    | some y =>
      rw [h1] at h
      injection h with h
      injection h with e1 e2
      subst e1; subst e2
      exact ⟨Nat.le_refl _, by omega, h1, fun T h1 h2 => by omega⟩
    | none =>
      rw [h1] at h
      obtain ⟨q1, q2, q3, q4⟩ := ih h
      refine ⟨by omega, by omega, q3, fun T ht1 ht2 => ?_⟩
      by_cases e : T = S
      · rw [e]; exact h1
      · exact q4 T (by omega) ht2
theorem findS_no : ∀ {k S : Nat}, findS f S k = none → ∀ T, S ≤ T → T < S + k → f T = none := by
  intro k
  induction k with
  | zero => intro S _ T h1 h2; omega
  | succ k ih =>
    intro S h T h1 h2
    rw [findS_more] at h
    cases hx : f S with
    | some y => rw [hx] at h; cases h
    | none =>
      rw [hx] at h
      by_cases e : T = S
      · rw [e]; exact hx
      · exact ih h T (by omega) (by omega)
theorem findS_none {N : Nat} (h : ∀ T, T < N → f T = none) : findS f 0 N = none := by
  rw [findS_reach (Nat.le_refl N) h, Nat.sub_self]
  rfl
theorem findS_some {N S : Nat} {x : At} (hS : S < N) (h : ∀ T, T < S → f T = none) (hx : f S = some x) : findS f 0 N = some (S, x) := by
  rw [findS_reach (Nat.le_of_lt hS) h, show N - S = (N - (S + 1)) + 1 by omega]
  exact findS_hit hx
end
/-- the first sign and the first atom -/
noncomputable def exR (l : List Cn) (a b : List (Int × Int)) : Option (Nat × At) := findS (ex1 l a b) 0 32
section
variable {l : List Cn} {a b : List (Int × Int)}
theorem exR_none (h : ∀ T, T < 32 → ex1 l a b T = none) : exR l a b = none := findS_none h
theorem exR_some {S : Nat} {x : At} (hS : S < 32) (h : ∀ T, T < S → ex1 l a b T = none) (hx : ex1 l a b S = some x) : exR l a b = some (S, x) := findS_some hS h hx
theorem exR_at {S : Nat} {x : At} (h : exR l a b = some (S, x)) : S < 32 ∧ ex1 l a b S = some x ∧ ∀ T, T < S → ex1 l a b T = none := by
  obtain ⟨_, h2, h3, h4⟩ := findS_at h
  exact ⟨by omega, h3, fun T hT => h4 T (by omega) hT⟩
theorem exR_no (h : exR l a b = none) : ∀ T, T < 32 → ex1 l a b T = none := fun T hT => findS_no h T (by omega) (by omega)

/-- the signs as they are ranged over -/
theorem pre_none {ys : List (Fin 32)} (hS : ys.map Fin.val = List.range 32) (hno : ∀ y ∈ ys, ex1 l a b y.val = none) : exR l a b = none := exR_none fun T hT => by
  have : T ∈ ys.map Fin.val := by rw [hS]; exact List.mem_range.2 hT
  obtain ⟨y, hy, rfl⟩ := List.mem_map.1 this
  exact hno y hy
theorem pre_found {pre : List (Fin 32)} {x : Fin 32} {p : At} (hSp : ∃ k, k ≤ 32 ∧ (pre ++ [x]).map Fin.val = List.range k) (hno : ∀ y ∈ pre, ex1 l a b y.val = none) (hm : ex1 l a b x.val = some p) : exR l a b = some (x.val, p) := by
  obtain ⟨k, hk, he⟩ := hSp
  have hl := congrArg List.length he
  simp only [List.length_map, List.length_append, List.length_cons, List.length_nil, List.length_range] at hl
  obtain rfl : k = pre.length + 1 := by omega
  rw [List.range_succ, List.map_append] at he
  obtain ⟨h1, h2⟩ := List.append_inj he (by simp)
  have hx : x.val = pre.length := by simpa using h2
  refine exR_some x.isLt (fun T hT => ?_) hm
  have : T ∈ pre.map Fin.val := by rw [h1]; exact List.mem_range.2 (by omega)
  obtain ⟨y, hy, rfl⟩ := List.mem_map.1 this
  exact hno y hy
end

/-- the signs that can hold, one after the other -/
theorem found_lt {N : Nat} {p : Nat → Bool} {i j : Nat} (hj : j < ((List.range N).filter p).length) (h : i < j) : ((List.range N).filter p)[i] < ((List.range N).filter p)[j] :=
  List.pairwise_iff_getElem.1 (List.Pairwise.filter p List.pairwise_lt_range) i j (by omega) hj h
section
variable {f : Nat → Option At} {N : Nat} {p : Nat → Bool}
theorem findF_none (hp : ∀ T, p T = false → f T = none) {F : List Nat} (hF : F = (List.range N).filter p) (h : ∀ i, (hi : i < F.length) → f F[i] = none) : findS f 0 N = none := findS_none fun T hT => by
  cases hf : p T with
  | false => exact hp T hf
  | true =>
    have : T ∈ F := by rw [hF, List.mem_filter, List.mem_range]; exact ⟨hT, hf⟩
    obtain ⟨i, hi, rfl⟩ := List.mem_iff_getElem.1 this
    exact h i hi
theorem findF_some (hp : ∀ T, p T = false → f T = none) {F : List Nat} (hF : F = (List.range N).filter p) {k : Nat} (hk : k < F.length) (h : ∀ i, (hi : i < k) → f (F[i]'(by omega)) = none) {x : At} (hx : f F[k] = some x) : findS f 0 N = some (F[k], x) := by
  have hm : F[k] ∈ (List.range N).filter p := by rw [← hF]; exact List.getElem_mem hk
  rw [List.mem_filter, List.mem_range] at hm
  refine findS_some hm.1 (fun T hT => ?_) hx
  cases hf : p T with
  | false => exact hp T hf
  | true =>
    have hT2 : T ∈ F := by rw [hF, List.mem_filter, List.mem_range]; exact ⟨by omega, hf⟩
    obtain ⟨i, hi, rfl⟩ := List.mem_iff_getElem.1 hT2
    refine h i ?_
    rcases Nat.lt_or_ge i k with h' | h'
    · exact h'
    · rcases Nat.eq_or_lt_of_le h' with e | e
      · subst e; omega
      · subst hF
        have := found_lt hi e
        omega
end
section
variable {l : List Cn} {a b : List (Int × Int)}
/-- the signs that the list allows -/
def okS (l : List Cn) (S : Nat) : Bool := Cs.flat (sgL l (S : Int))
theorem ex1_not (T : Nat) (h : okS l T = false) : ex1 l a b T = none := ex1_no h
/-- all of them have come out none; the first that has not -/
theorem fnd_none {F : List Nat} (hF : F = (List.range 32).filter (okS l)) (h : ∀ i, (hi : i < F.length) → ex1 l a b F[i] = none) : exR l a b = none := findF_none ex1_not hF h
theorem fnd_some {F : List Nat} (hF : F = (List.range 32).filter (okS l)) {k : Nat} (hk : k < F.length) (h : ∀ i, (hi : i < k) → ex1 l a b (F[i]'(by omega)) = none) {x : At} (hx : ex1 l a b F[k] = some x) : exR l a b = some (F[k], x) := findF_some ex1_not hF hk h hx
end
/-- the env that exceeds -/
def witL (T : Tb) (p : Int) : List Int := (List.range 5).map fun j => if 0 ≤ p ∧ 0 ≤ T (Cs.node p) (j + 1) then max (T 0 (j + 1)) (200 + T (Cs.node p) (j + 1)) else T 0 (j + 1)
def witO (l : List Cn) (r : Option (Nat × At)) : Option (List Int) := r.map fun x => witL (Cs.tab (sgL l (x.1 : Int))) x.2.1
end Go.Proofs.YtgebjnoicgmdoaaGreatDoor.Un

namespace Go.Proofs.YtgebjnoicgmdoaaGreatDoor.Un
open Go.Proofs.YtgebjnoicgmdoaaGreatDoor.Nm
open Go.Proofs.YtgebjnoicgmdoaaGreatDoor.Cs (Cn Tb)

theorem rok_mem {s : Int} {l : List At} (h : ROk s l) {x : At} (hx : x ∈ l) : -1 ≤ x.1 ∧ x.1 < 5 ∧ 0 ≤ x.2 ∧ x.2 ≤ 1000 ∧ (x.1 = -1 ∨ Sg.has s x.1 = true) := by
  obtain ⟨k, hk, rfl⟩ := List.mem_iff_getElem.1 hx
  have e : l.getD k (0, 0) = l[k] := by rw [List.getD_eq_getElem?_getD, List.getElem?_eq_getElem hk, Option.getD_some]
  have h1 := (atOk_iff _).1 (h.2.2.1 k hk)
  have h2 := h.2.2.2.2.1 k hk
  rw [e] at h1 h2
  exact ⟨h1.1, h1.2.1, h1.2.2.1, h1.2.2.2, h2⟩
theorem val_node (env : List Int) {x : At} (h : -1 ≤ x.1) : val env x = Cs.valOf env (Cs.node x.1) + x.2 := by
  unfold val Cs.node
  by_cases e : x.1 = -1
  · rw [if_pos e, e]
    simp [Cs.valOf]
  · rw [if_neg e, show (x.1 + 1).toNat = x.1.toNat + 1 by omega]
    rfl
theorem leB_iff (T : Tb) (x y : At) : leB T x y = true ↔ 0 ≤ T (Cs.node x.1) (Cs.node y.1) ∧ x.2 ≤ T (Cs.node x.1) (Cs.node y.1) + y.2 := by simp [leB]
theorem sat_sign {l : List Cn} {env : List Int} {S : Nat} (he : EnvOf (S : Int) env) (hs : Cs.SatAll (Cs.valOf env) l) : Cs.SatAll (Cs.valOf env) (sgL l (S : Int)) := by
  rw [sgL, Cs.signed_sat]
  refine ⟨hs, fun p hp => ?_⟩
  show Sg.has (S : Int) (p : Int) = true ↔ 0 < env.getD p 0
  constructor
  · intro h
    have := he.2.1 p h
    rw [show ((p : Int)).toNat = p by omega] at this
    omega
  · intro h
    cases e : Sg.has (S : Int) (p : Int) with
    | true => rfl
    | false =>
      have := he.2.2 p (by omega) (by omega) e
      rw [show ((p : Int)).toNat = p by omega] at this
      omega
theorem sign_sat {l : List Cn} {env : List Int} {S : Nat} (hp : Pos env) (h : Cs.SatAll (Cs.valOf env) (sgL l (S : Int))) : EnvOf (S : Int) env ∧ Cs.SatAll (Cs.valOf env) l := by
  rw [sgL, Cs.signed_sat] at h
  refine ⟨⟨hp, fun p hh => ?_, fun p h0 h5 hh => ?_⟩, h.1⟩
  · have hb := has_bd hh
    have := (h.2 p.toNat (by omega)).1 (by rw [show ((p.toNat : Nat) : Int) = p by omega]; exact hh)
    have h1 : 0 < env.getD p.toNat 0 := this
    omega
  · have := (h.2 p.toNat (by omega))
    rw [show ((p.toNat : Nat) : Int) = p by omega, hh] at this
    have h1 : ¬ 0 < env.getD p.toNat 0 := fun q => by have := this.2 q; cases this
    have := hp.get p.toNat
    omega
/-- where all fits, the first level is at most the second one in every env that satisfies the list -/
theorem un_le {l : List Cn} {a b : List (Int × Int)} (hok : Cs.ok l) (ha : Lv.levelOk a = true) (hb : Lv.levelOk b = true) (h : exR l a b = none) {env : List Int} (h5 : env.length = 5) (hp : Pos env) (hs : Cs.SatAll (Cs.valOf env) l) : Dc.ev env a ≤ Dc.ev env b := by
  obtain ⟨S, hS, he⟩ := Dc.sign_of h5 hp
  have hss := sat_sign he hs
  have hf : Cs.flat (sgL l (S : Int)) = true := (Cs.sat_iff (sgL_ok hok _)).2 ⟨_, hss⟩
  have h1 := exR_no h S hS
  rw [ex1_yes hf, exL_none] at h1
  have hk := Cs.tab_keeps (sgL_ok hok _) hss
  have hra := Dc.rs_rok ha (Dc.isSign_nat hS)
  have hrb := Dc.rs_rok hb (Dc.isSign_nat hS)
  rw [Dc.ev_resid he ha, Dc.ev_resid he hb]
  refine value_le (value_ge _ _) fun x hx => ?_
  have h2 := h1 x hx
  unfold atB at h2
  rw [List.any_eq_true] at h2
  obtain ⟨y, hy, hle⟩ := h2
  rw [leB_iff] at hle
  have h3 := hk _ _ hle.1
  refine Int.le_trans ?_ (value_mem hy)
  rw [val_node env (rok_mem hra hx).1, val_node env (rok_mem hrb hy).1]
  omega
theorem witL_len (T : Tb) (p : Int) : (witL T p).length = 5 := by simp [witL]
theorem witL_get (T : Tb) (p : Int) {j : Nat} (hj : j < 5) : (witL T p).getD j 0 = if 0 ≤ p ∧ 0 ≤ T (Cs.node p) (j + 1) then max (T 0 (j + 1)) (200 + T (Cs.node p) (j + 1)) else T 0 (j + 1) := by
  simp [witL, List.getD_eq_getElem?_getD, hj]
theorem witL_pos {L : List Cn} (p : Int) : Pos (witL (Cs.tab L) p) := fun x hx => by
  obtain ⟨j, _, rfl⟩ := List.mem_map.1 hx
  have := Cs.tab_zero L (j + 1)
  split <;> omega
theorem witL_least (L : List Cn) {p : Int} (hp : p < 0) : witL (Cs.tab L) p = Cs.leastEnv L := by
  unfold witL Cs.leastEnv
  apply List.map_congr_left
  intro j _
  rw [if_neg (fun h => by omega)]
theorem sat_of_nodes {v u : Nat → Int} {l : List Cn} (hok : Cs.ok l) (hu : Cs.Val u) (h : ∀ x, x < 6 → v x = u x) (hs : Cs.SatAll v l) : Cs.SatAll u l :=
  ⟨hu, fun c hc => (Cs.sat_congr (hok c hc) h).1 (hs.2 c hc)⟩
theorem wit_nodes {L : List Cn} (hf : Cs.flat L = true) {p : Int} (hp : 0 ≤ p) (h0 : Cs.tab L (Cs.node p) 0 < 0) : ∀ x, x < 6 → Cs.lifted L (Cs.node p) 200 x = Cs.valOf (witL (Cs.tab L) p) x := by
  intro x hx
  cases x with
  | zero =>
    unfold Cs.lifted
    rw [if_neg (by omega)]
    exact Cs.tab_diag hf (by omega)
  | succ j =>
    show _ = (witL (Cs.tab L) p).getD j 0
    rw [witL_get _ _ (by omega)]
    unfold Cs.lifted
    by_cases h : 0 ≤ Cs.tab L (Cs.node p) (j + 1)
    · rw [if_pos h, if_pos ⟨hp, h⟩]
    · rw [if_neg h, if_neg (fun q => h q.2)]
set_option maxHeartbeats 1600000 in
theorem un_witL {l L : List Cn} {a b : List (Int × Int)} {S : Nat} {x : At} (hLe : sgL l (S : Int) = L) (hL : Cs.ok L) (ha : Lv.levelOk a = true) (hb : Lv.levelOk b = true) (hS : S < 32) (hf : Cs.flat L = true) (hmem : x ∈ Dc.rs a (S : Int)) (hno : atB (Cs.tab L) x (Dc.rs b (S : Int)) = false) :
    Pos (witL (Cs.tab L) x.1) ∧ Cs.SatAll (Cs.valOf (witL (Cs.tab L) x.1)) L ∧ Dc.ev (witL (Cs.tab L) x.1) b < Dc.ev (witL (Cs.tab L) x.1) a := by
  have hra := Dc.rs_rok ha (Dc.isSign_nat hS)
  have hrb := Dc.rs_rok hb (Dc.isSign_nat hS)
  have hx := rok_mem hra hmem
  have hleast := Cs.leastEnv_sat hL hf
  have hsig : ∀ p : Nat, p < 5 → (Sg.has (S : Int) (p : Int) = true ↔ 0 < Cs.valOf (Cs.leastEnv L) (p + 1)) := by
    subst hLe
    exact (Cs.signed_sat.1 hleast).2
  have hpos : Pos (witL (Cs.tab L) x.1) := witL_pos x.1
  have hno' : ∀ y ∈ Dc.rs b (S : Int), ¬ (0 ≤ Cs.tab L (Cs.node x.1) (Cs.node y.1) ∧ x.2 ≤ Cs.tab L (Cs.node x.1) (Cs.node y.1) + y.2) := fun y hy q => by
    unfold atB at hno
    rw [List.any_eq_false] at hno
    exact hno y hy ((leB_iff _ _ _).2 q)
  have hsm := Dc.rs_small (s := (S : Int)) hb
  have hfin : Cs.SatAll (Cs.valOf (witL (Cs.tab L) x.1)) L → (0 ≤ val (witL (Cs.tab L) x.1) x - 1) → (∀ y ∈ Dc.rs b (S : Int), val (witL (Cs.tab L) x.1) y ≤ val (witL (Cs.tab L) x.1) x - 1) → Dc.ev (witL (Cs.tab L) x.1) b < Dc.ev (witL (Cs.tab L) x.1) a := fun hsat h0 hy => by
    have he := (sign_sat (l := l) (S := S) hpos (by rw [hLe]; exact hsat)).1
    rw [Dc.ev_resid he ha, Dc.ev_resid he hb]
    have q1 := value_le h0 hy
    have q2 := value_mem (env := witL (Cs.tab L) x.1) hmem
    omega
  by_cases hx0 : x.1 < 0
  · have hx1 : x.1 = -1 := by omega
    have hn : Cs.node x.1 = 0 := by rw [hx1]; rfl
    have hsat : Cs.SatAll (Cs.valOf (witL (Cs.tab L) x.1)) L := by rw [witL_least L hx0]; exact hleast
    have hvx : val (witL (Cs.tab L) x.1) x = x.2 := by unfold val; rw [if_pos hx1]
    have hy : ∀ y ∈ Dc.rs b (S : Int), val (witL (Cs.tab L) x.1) y ≤ x.2 - 1 := fun y hy => by
      have hyb := rok_mem hrb hy
      have hne := hno' y hy
      rw [hn] at hne
      have z := Cs.tab_zero L (Cs.node y.1)
      rw [val_node _ hyb.1, witL_least L hx0, Cs.valOf_least hf _ (Cs.node_lt hyb.1 hyb.2.1)]
      unfold Cs.least
      omega
    have h1x : 0 ≤ x.2 - 1 := by
      obtain ⟨y, hym⟩ : ∃ y, y ∈ Dc.rs b (S : Int) := by
        have := hrb.2.1
        exact ⟨(Dc.rs b (S : Int))[0], List.getElem_mem (by omega)⟩
      have hyb := rok_mem hrb hym
      have hne := hno' y hym
      rw [hn] at hne
      have z := Cs.tab_zero L (Cs.node y.1)
      omega
    refine ⟨hpos, hsat, hfin hsat (by rw [hvx]; exact h1x) (by rw [hvx]; exact hy)⟩
  · have hx0' : 0 ≤ x.1 := by omega
    have hnx : Cs.node x.1 = x.1.toNat + 1 := by unfold Cs.node; omega
    have hi : Cs.node x.1 < 6 := Cs.node_lt hx.1 hx.2.1
    have hhas : Sg.has (S : Int) x.1 = true := by
      rcases hx.2.2.2.2 with q | q
      · omega
      · exact q
    have hvi : 0 < Cs.tab L 0 (Cs.node x.1) := by
      have q := (hsig x.1.toNat (by omega)).1 (by rw [show ((x.1.toNat : Nat) : Int) = x.1 by omega]; exact hhas)
      rw [← hnx, Cs.valOf_least hf _ hi] at q
      exact q
    have ht0 : Cs.tab L (Cs.node x.1) 0 < 0 := by
      rcases Int.lt_or_le (Cs.tab L (Cs.node x.1) 0) 0 with q | q
      · exact q
      · have c := Cs.tab_closed hf (i := 0) (j := 0) (k := Cs.node x.1) (by omega) (by omega) hi (by omega) q
        have d := Cs.tab_diag hf (i := 0) (by omega)
        omega
    have hnod := wit_nodes hf hx0' ht0
    have hsat : Cs.SatAll (Cs.valOf (witL (Cs.tab L) x.1)) L := sat_of_nodes hL (Cs.valOf_val fun p => hpos.get p) hnod (Cs.lifted_sat hL hf hi ht0 200)
    have hdi := Cs.tab_diag hf hi
    have hb0 := (Cs.tab_bd hf 0 (Cs.node x.1)).2
    have hvx : val (witL (Cs.tab L) x.1) x = 200 + x.2 := by
      rw [val_node _ hx.1, ← hnod _ hi]
      unfold Cs.lifted
      rw [if_pos (by omega)]
      omega
    have hy : ∀ y ∈ Dc.rs b (S : Int), val (witL (Cs.tab L) x.1) y ≤ 200 + x.2 - 1 := fun y hy => by
      have hyb := rok_mem hrb hy
      have hy6 : Cs.node y.1 < 6 := Cs.node_lt hyb.1 hyb.2.1
      have hne := hno' y hy
      have hbd := (Cs.tab_bd hf 0 (Cs.node y.1)).2
      have h24 := hsm y hy
      rw [val_node _ hyb.1, ← hnod _ hy6]
      unfold Cs.lifted
      split <;> omega
    refine ⟨hpos, hsat, hfin hsat (by rw [hvx]; omega) (by rw [hvx]; exact hy)⟩
/-- where something does not fit, the witness satisfies the list with its sign, and the first level is greater in it -/
theorem un_wit {l : List Cn} {a b : List (Int × Int)} (hok : Cs.ok l) (ha : Lv.levelOk a = true) (hb : Lv.levelOk b = true) {S : Nat} {x : At} (h : exR l a b = some (S, x)) :
    Pos (witL (Cs.tab (sgL l (S : Int))) x.1) ∧ Cs.SatAll (Cs.valOf (witL (Cs.tab (sgL l (S : Int))) x.1)) (sgL l (S : Int)) ∧ Dc.ev (witL (Cs.tab (sgL l (S : Int))) x.1) b < Dc.ev (witL (Cs.tab (sgL l (S : Int))) x.1) a := by
  obtain ⟨hS, h1, _⟩ := exR_at h
  have hf : Cs.flat (sgL l (S : Int)) = true := by
    cases e : Cs.flat (sgL l (S : Int)) with
    | true => rfl
    | false => rw [ex1_no e] at h1; cases h1
  rw [ex1_yes hf] at h1
  exact un_witL rfl (sgL_ok hok (S : Int)) ha hb hS hf (exL_mem h1) (exL_no h1)
/-- comparison under constraints is what it says of envs -/
theorem un_sem {l : List Cn} {a b : List (Int × Int)} (hok : Cs.ok l) (ha : Lv.levelOk a = true) (hb : Lv.levelOk b = true) : exR l a b = none ↔ ∀ env : List Int, env.length = 5 → Pos env → Cs.SatAll (Cs.valOf env) l → Dc.ev env a ≤ Dc.ev env b := by
  constructor
  · intro h env h5 hp hs
    exact un_le hok ha hb h h5 hp hs
  · intro h
    cases e : exR l a b with
    | none => rfl
    | some r =>
      obtain ⟨S, x⟩ := r
      obtain ⟨h1, h2, h3⟩ := un_wit hok ha hb e
      have := h _ (witL_len _ _) h1 (sign_sat h1 h2).2
      omega
end Go.Proofs.YtgebjnoicgmdoaaGreatDoor.Un
