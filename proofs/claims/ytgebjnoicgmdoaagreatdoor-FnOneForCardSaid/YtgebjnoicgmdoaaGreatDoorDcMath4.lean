/- Plain facts: two levels are compared for all values of the parameters. -/
/- Two rows of atoms are compared: slices.Equal, and the model's own look. A parameter is looked for. -/
/- Plain facts: residuals are canonical; joins are compared; a parameter that is idle. -/
/- Plain facts: the first place where a level does not fit below another one, sign by sign and atom by atom. -/
import Derived.Test.YtgebjnoicgmdoaaGreatDoorEvMath
import Derived.Test.YtgebjnoicgmdoaaGreatDoorNMath2
import Derived.Tactics2
import Derived.Defers
import Derived.Laws.Pointers
import Derived.Laws.LoneSync
import Derived.RegionTactic
import Derived.RegionCalls
import Derived.Test.YtgebjnoicgmdoaaGreatDoorCsMath

namespace Go.Proofs.YtgebjnoicgmdoaaGreatDoor.Dc
open Go.Proofs.YtgebjnoicgmdoaaGreatDoor.Nm

/-- the residual of a level for a sign -/
abbrev rs (l : List (Int × Int)) (s : Int) : List (Int × Int) := rnorm (wl s l)
theorem ok_two {l : List (Int × Int)} (h : Lv.levelOk l = true) : 1 ≤ l.length ∧ l.length ≤ 24 := by
  simp only [Lv.levelOk, Bool.and_eq_true, decide_eq_true_eq] at h
  omega
theorem wl_fine2 {s : Int} {l : List (Int × Int)} (h : Lv.levelOk l = true) : wl s l ≠ [] ∧ Pst s (wl s l) ∧ AllOk (wl s l) ∧ ∀ x ∈ wl s l, x.2 ≤ 24 := by
  obtain ⟨a, ha⟩ := wrun_one (s := s) h
  have hl := (ok_two h).2
  have hf := wfine_run (k := 0) (fun a ha => by simp at ha) ha
  have hfa := hf a (by simp)
  rw [wl_of ha]
  exact ⟨hfa.1, hfa.2.1, hf.allOk (by omega) (by simp), fun x hx => by have := (hfa.2.2 x hx).2.2.2; omega⟩
theorem rs_rok {s : Int} {l : List (Int × Int)} (h : Lv.levelOk l = true) (hs : Sg.isSign s = true) : ROk s (rs l s) :=
  have hf := wl_fine2 (s := s) h
  rnorm_rok hs hf.1 hf.2.1 hf.2.2.1
theorem rs_small {s : Int} {l : List (Int × Int)} (h : Lv.levelOk l = true) : ∀ x ∈ rs l s, x.2 ≤ 24 := fun x hx => (wl_fine2 (s := s) h).2.2.2 x (rnorm_sub hx)

/-- the env of a sign that is N at p -/
def gpeak (N s p : Int) : List Int := (List.range 5).map fun (i : Nat) => if Sg.has s i = true then (if (i : Int) = p then N else 1) else 0
theorem gpeak_len (N s p : Int) : (gpeak N s p).length = 5 := by simp [gpeak]
theorem gpeak_get (N s p : Int) (k : Nat) (hk : k < 5) : (gpeak N s p).getD k 0 = if Sg.has s k = true then (if (k : Int) = p then N else 1) else 0 := by
  simp [gpeak, List.getD_eq_getElem?_getD, hk]
theorem gpeak_env {N s p : Int} (hN : 1 ≤ N) : EnvOf s (gpeak N s p) := by
  refine ⟨fun x hx => ?_, fun q hq => ?_, fun q h0 h5 hq => ?_⟩
  · simp only [gpeak, List.mem_map] at hx
    obtain ⟨i, _, rfl⟩ := hx
    split
    · split <;> omega
    · omega
  · have hb := has_bd hq
    rw [gpeak_get _ _ _ _ (by omega), show ((q.toNat : Nat) : Int) = q by omega, if_pos hq]
    split <;> omega
  · rw [gpeak_get _ _ _ _ (by omega), show ((q.toNat : Nat) : Int) = q by omega, if_neg (by rw [hq]; decide)]
/-- an atom that no atom of b serves for is greater at its peak -/
theorem peak_gt {N M s : Int} {b : List At} {x : At} (hb : ROk s b) (hbM : ∀ y ∈ b, y.2 ≤ M) (hN : M + 2 ≤ N) (hM : 0 ≤ M) (hx0 : -1 ≤ x.1) (hx5 : x.1 < 5) (hxo : 0 ≤ x.2) (hxs : x.1 = -1 ∨ Sg.has s x.1 = true) (h : ¬ ratomLe x b) :
    value (gpeak N s x.1) b < val (gpeak N s x.1) x := by
  obtain ⟨p, u⟩ := x
  simp only at hx0 hx5 hxo hxs h ⊢
  have H : ∀ y ∈ b, val (gpeak N s p) y ≤ val (gpeak N s p) (p, u) - 1 := by
    intro y hy
    obtain ⟨j, hj, rfl⟩ := getD_of_mem hy
    have hby := hb.2.2.1.mem hy
    have h5 := hbM _ hy
    have hpy := hb.2.2.2.2.1 j hj
    have hn : ¬ RFits (p, u) (b.getD j (0, 0)) := fun hf => h ⟨j, hj, hf⟩
    generalize b.getD j (0, 0) = y at hby h5 hpy hn ⊢
    obtain ⟨q, v⟩ := y
    simp only [RFits] at hn
    simp only at hby h5 hpy
    have hq1 : ∀ _ : ¬ q = -1, (gpeak N s p).getD q.toNat 0 = if q = p then N else 1 := by
      intro eq
      rw [gpeak_get _ _ _ _ (by omega), show ((q.toNat : Nat) : Int) = q by omega]
      rcases hpy with e | e
      · exact absurd e eq
      · rw [if_pos e]
    by_cases ep : p = -1
    · subst ep
      simp only [val, if_true]
      by_cases eq : q = -1
      · simp only [eq, if_true]; omega
      · simp only [eq, if_false]
        rw [hq1 eq, if_neg eq]
        omega
    · have hpp : (gpeak N s p).getD p.toNat 0 = N := by
        rw [gpeak_get _ _ _ _ (by omega), show ((p.toNat : Nat) : Int) = p by omega]
        rcases hxs with e | e
        · exact absurd e ep
        · rw [if_pos e, if_pos rfl]
      simp only [val, ep, if_false]
      rw [hpp]
      by_cases eq : q = -1
      · simp only [eq, if_true]; omega
      · simp only [eq, if_false]
        rw [hq1 eq]
        by_cases eqp : q = p
        · rw [if_pos eqp]; omega
        · rw [if_neg eqp]; omega
  have hv0 : 1 ≤ val (gpeak N s p) (p, u) := by
    by_cases ep : p = -1
    · have hb1 := hb.2.1
      have := H _ (Nm.mem_getD (l := b) (k := 0) (by omega))
      have h0 := hb.2.2.1.mem (Nm.mem_getD (l := b) (k := 0) (by omega))
      have h1 : (b.getD 0 (0, 0)).2 ≤ val (gpeak N s p) (b.getD 0 (0, 0)) := val_ge (gpeak_env (by omega)).1 _
      omega
    · have hpp : (gpeak N s p).getD p.toNat 0 = N := by
        rw [gpeak_get _ _ _ _ (by omega), show ((p.toNat : Nat) : Int) = p by omega]
        rcases hxs with e | e
        · exact absurd e ep
        · rw [if_pos e, if_pos rfl]
      simp only [val, ep, if_false]
      rw [hpp]; omega
  have := value_le (env := gpeak N s p) (l := b) (v := val (gpeak N s p) (p, u) - 1) (by omega) H
  omega
/-- residuals are compared as their values are -/
theorem resid_sem {s : Int} {a b : List At} (ha : ROk s a) (hb : ROk s b) : (∀ k, k < a.length → ratomLe (a.getD k (0, 0)) b) ↔ ∀ env : List Int, env.length = 5 → EnvOf s env → value env a ≤ value env b := by
  constructor
  · exact fun h env _ he => rle_value he hb h
  · intro h k hk
    apply Classical.byContradiction
    intro hn
    have hx := Nm.mem_getD hk
    have hax := ha.2.2.1.mem hx
    have h1 := peak_gt (N := 2000) (M := 1000) hb (fun y hy => (hb.2.2.1.mem hy).2.2.2) (by omega) (by omega) hax.1 hax.2.1 hax.2.2.1 (ha.2.2.2.2.1 k hk) hn
    have h2 := h _ (gpeak_len 2000 s _) (gpeak_env (s := s) (p := (a.getD k (0, 0)).1) (by omega : (1 : Int) ≤ 2000))
    have h3 := value_mem (env := gpeak 2000 s (a.getD k (0, 0)).1) hx
    omega

/-- the value of a level, for whatever values of the parameters -/
def ev (env : List Int) (l : List (Int × Int)) : Int := (Lv.eval env l).getD 0
theorem ev_resid {s : Int} {env : List Int} (he : EnvOf s env) {l : List (Int × Int)} (h : Lv.levelOk l = true) : ev env l = value env (rs l s) := by
  unfold ev
  rw [eval_resid he h]
  rfl
/-- every env has a sign -/
theorem sign_of {env : List Int} (h5 : env.length = 5) (hp : Pos env) : ∃ S : Nat, S < 32 ∧ EnvOf (S : Int) env := by
  have hs := Sg.bits_sign h5
  have hb : 0 ≤ Sg.bits env ∧ Sg.bits env ≤ 31 := by simpa [Sg.isSign] using hs
  refine ⟨(Sg.bits env).toNat, by omega, ?_⟩
  rw [show (((Sg.bits env).toNat : Nat) : Int) = Sg.bits env by omega]
  have hh := fun k hk => Sg.bits_has h5 k hk
  refine ⟨hp, fun p h => ?_, fun p h0 h5' h => ?_⟩
  · have hbd := has_bd h
    have := hh p.toNat (by omega)
    rw [show ((p.toNat : Nat) : Int) = p by omega, h] at this
    have := of_decide_eq_true this.symm
    omega
  · have := hh p.toNat (by omega)
    rw [show ((p.toNat : Nat) : Int) = p by omega, h] at this
    have := of_decide_eq_false this.symm
    have := hp.get p.toNat
    omega
theorem isSign_nat {S : Nat} (h : S < 32) : Sg.isSign (S : Int) = true := by simp [Sg.isSign]; omega

open Classical in
/-- LevelLe's answer -/
noncomputable def leR (a b : List (Int × Int)) : Bool := decide (Lv.levelOk a = true ∧ Lv.levelOk b = true ∧ ∀ S : Nat, S < 32 → residLe (S : Int) (rs a S) (rs b S) = true)
theorem leR_iff (a b : List (Int × Int)) : leR a b = true ↔ Lv.levelOk a = true ∧ Lv.levelOk b = true ∧ ∀ S : Nat, S < 32 → residLe (S : Int) (rs a S) (rs b S) = true := by simp [leR]
/-- one level is at most another just where it is so for all values -/
theorem le_sem {a b : List (Int × Int)} (ha : Lv.levelOk a = true) (hb : Lv.levelOk b = true) : leR a b = true ↔ ∀ env : List Int, env.length = 5 → Pos env → ev env a ≤ ev env b := by
  rw [leR_iff]
  constructor
  · rintro ⟨_, _, h⟩ env h5 hp
    obtain ⟨S, hS, he⟩ := sign_of h5 hp
    rw [ev_resid he ha, ev_resid he hb]
    have h1 := (residLe_iff _ _ _).1 (h S hS)
    exact rle_value he h1.2.1 h1.2.2
  · intro h
    refine ⟨ha, hb, fun S hS => ?_⟩
    have hra := rs_rok ha (isSign_nat hS)
    have hrb := rs_rok hb (isSign_nat hS)
    refine (residLe_iff _ _ _).2 ⟨hra, hrb, (resid_sem hra hrb).2 fun env h5 he => ?_⟩
    have := h env h5 he.1
    rwa [ev_resid he ha, ev_resid he hb] at this
theorem le_refl {a : List (Int × Int)} (ha : Lv.levelOk a = true) : leR a a = true := (le_sem ha ha).2 fun _ _ _ => Int.le_refl _
theorem le_trans {a b c : List (Int × Int)} (h1 : leR a b = true) (h2 : leR b c = true) : leR a c = true := by
  have i1 := (leR_iff a b).1 h1
  have i2 := (leR_iff b c).1 h2
  exact (le_sem i1.1 i2.2.1).2 fun env h5 hp => Int.le_trans ((le_sem i1.1 i1.2.1).1 h1 env h5 hp) ((le_sem i2.1 i2.2.1).1 h2 env h5 hp)

end Go.Proofs.YtgebjnoicgmdoaaGreatDoor.Dc

namespace Go.Proofs.YtgebjnoicgmdoaaGreatDoor
open Go.RowKit

/-- what a search for a parameter finds -/
def FoundP (l : List (Int × Int)) (p i : Int) : Prop := (i = -1 ∧ ∀ k, k < l.length → (l.getD k (0, 0)).1 ≠ p) ∨ (0 ≤ i ∧ ∃ k, k < l.length ∧ (l.getD k (0, 0)).1 = p)
open Classical in
/-- whether an atom bears the parameter -/
noncomputable def hasP (l : List (Int × Int)) (p : Int) : Bool := decide (∃ k, k < l.length ∧ (l.getD k (0, 0)).1 = p)
theorem hasP_iff (l : List (Int × Int)) (p : Int) : hasP l p = true ↔ ∃ k, k < l.length ∧ (l.getD k (0, 0)).1 = p := by simp [hasP]
theorem hasP_yes {l : List (Int × Int)} {p : Int} {k : Nat} (h : k < l.length) (e : (l.getD k (0, 0)).1 = p) : hasP l p = true := (hasP_iff l p).2 ⟨k, h, e⟩
theorem hasP_no {l : List (Int × Int)} {p : Int} (h : ∀ k, k < l.length → (l.getD k (0, 0)).1 ≠ p) : hasP l p = false := by
  cases e : hasP l p with
  | false => rfl
  | true => obtain ⟨k, h1, h2⟩ := (hasP_iff l p).1 e; exact absurd h2 (h k h1)
theorem FoundP.has {l : List (Int × Int)} {p i : Int} (h : FoundP l p i) : hasP l p = decide (0 ≤ i) := by
  rcases h with ⟨rfl, h⟩ | ⟨h0, k, h1, h2⟩
  · rw [hasP_no h]; rfl
  · rw [hasP_yes h1 h2, decide_eq_true h0]

end Go.Proofs.YtgebjnoicgmdoaaGreatDoor

namespace Go.Proofs.YtgebjnoicgmdoaaGreatDoor.Dc
open Go.Proofs.YtgebjnoicgmdoaaGreatDoor.Nm

theorem ev_some {env : List Int} {l : List (Int × Int)} (h : Lv.levelOk l = true) : Lv.eval env l = some (ev env l) := by
  obtain ⟨v, hv⟩ := eval_some (env := env) h
  unfold ev
  rw [hv]
  rfl
end Go.Proofs.YtgebjnoicgmdoaaGreatDoor.Dc

namespace Go.Proofs.YtgebjnoicgmdoaaGreatDoor.Dc
open Go.Proofs.YtgebjnoicgmdoaaGreatDoor.Nm

theorem drop_get {l : List At} {k : Nat} (hk : k < l.length) : l.drop k = l.getD k (0, 0) :: l.drop (k + 1) := by
  rw [List.drop_eq_getElem_cons hk, List.getD_eq_getElem?_getD, List.getElem?_eq_getElem hk, Option.getD_some]
end Go.Proofs.YtgebjnoicgmdoaaGreatDoor.Dc
