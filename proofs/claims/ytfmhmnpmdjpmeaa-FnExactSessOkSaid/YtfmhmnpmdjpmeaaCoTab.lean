/- Plain facts on ResidLe: it holds for every env of the sign, and else an env of the sign with one great parameter tells. -/
/- Slices of levels: how they are read, substitution in plain lists, levelsOk of the program. -/
/- Plain facts: two levels are compared for all values of the parameters. -/
/- The model's cursor: what it hands out. -/
/- The model's cursor: raw numbers and leaves. -/
/- Two rows of atoms are compared: slices.Equal, and the model's own look. A parameter is looked for. -/
/- LevelTrim: the program's and the reference model's; slices.Clone over tokens, slices.Contains over numbers. -/
/- Words for memory: a table of six rows of six numbers, each row a block of the call's own. -/
import Derived.Test.YtfmhmnpmdjpmeaaRLe
import Derived.Test.YtfmhmnpmdjpmeaaAct
import Derived.Laws.IdiomCopy
import Derived.Laws.CopyOwn
import Derived.Defers
import Derived.Test.YtfmhmnpmdjpmeaaMarks
import Derived.Maps.Range
import Derived.Test.YtfmhmnpmdjpmeaaBase
import Derived.Deep.RegionHeld3
import Derived.Deep.AppendLies
import Derived.Deep.RegionLaw
import Derived.Tactics2
import Derived.Laws.Pointers
import Derived.Laws.LoneSync
import Derived.RegionTactic
import Derived.RegionCalls
import Derived.Deep.WholeRow
import Derived.Test.YtfmhmnpmdjpmeaaCoMem

namespace Go.Proofs.Ytfmhmnpmdjpmeaa
namespace Nm

theorem rle_value {s : Int} {env : List Int} (he : EnvOf s env) {a b : List At} (hb : ROk s b) (h : ∀ k, k < a.length → ratomLe (a.getD k (0, 0)) b) : value env a ≤ value env b := by
  refine value_le (value_ge _ _) fun x hx => ?_
  obtain ⟨k, hk, rfl⟩ := getD_of_mem hx
  obtain ⟨j, hj, hf⟩ := h k hk
  have h3 := value_mem (env := env) (mem_getD hj)
  have h4 := hb.2.2.2.2.1 j hj
  generalize a.getD k (0, 0) = x at hf ⊢
  generalize b.getD j (0, 0) = y at hf h3 h4
  obtain ⟨p, u⟩ := x
  obtain ⟨q, v⟩ := y
  simp only [RFits] at hf h4
  rcases hf with ⟨rfl, h1⟩ | ⟨rfl, h1, h2⟩
  · by_cases ep : p = -1
    · simp only [val, ep, if_true] at h3 ⊢; omega
    · simp only [val, ep, if_false] at h3 ⊢; omega
  · rcases h4 with e | e
    · omega
    · have := he.2.1 q e
      simp only [val, if_true, show ¬ q = -1 by omega, if_false] at h3 ⊢
      omega

/-- the env of a sign that is great at p -/
def rpeak (s p : Int) : List Int := (List.range 5).map fun (i : Nat) => if Sg.has s i = true then (if (i : Int) = p then 1000 else 1) else 0
/-- the first k values of an env of a sign; where the answer is no, of the one that is great at p -/
def Part (s p : Int) (yes : Bool) (k : Nat) (env : List Int) : Prop := env.length = k ∧ ∀ j, j < k → (Sg.has s j = true → 1 ≤ env.getD j 0 ∧ env.getD j 0 ≤ 1000) ∧ (Sg.has s j = false → env.getD j 0 = 0) ∧ (yes = false → env.getD j 0 = (rpeak s p).getD j 0)
theorem Part.nil (s p : Int) (yes : Bool) : Part s p yes 0 [] := ⟨rfl, fun j hj => absurd hj (by omega)⟩
theorem Part.env {s p : Int} {yes : Bool} {env : List Int} (h : Part s p yes 5 env) : EnvOf s env ∧ envOk env = true := by
  have hall : ∀ x ∈ env, 0 ≤ x ∧ x ≤ 1000 := by
    intro x hx
    obtain ⟨j, hj, rfl⟩ := List.mem_iff_getElem.1 hx
    have h1 := h.2 j (by rw [← h.1]; exact hj)
    rw [List.getD_eq_getElem?_getD, List.getElem?_eq_getElem hj, Option.getD_some] at h1
    cases hh : Sg.has s j with
    | true => have := h1.1 hh; omega
    | false => have := h1.2.1 hh; omega
  refine ⟨⟨fun x hx => (hall x hx).1, fun p hp => ?_, fun p h0 h5' hp => ?_⟩, ?_⟩
  · have hb := has_bd hp
    exact ((h.2 p.toNat (by omega)).1 (by rw [show ((p.toNat : Nat) : Int) = p by omega]; exact hp)).1
  · exact (h.2 p.toNat (by omega)).2.1 (by rw [show ((p.toNat : Nat) : Int) = p by omega]; exact hp)
  · simp only [envOk, Bool.and_eq_true, decide_eq_true_eq, List.all_eq_true]
    exact ⟨h.1, fun x hx => hall x hx⟩
end Nm
end Go.Proofs.Ytfmhmnpmdjpmeaa

namespace Go.Proofs.Ytfmhmnpmdjpmeaa
open Go.RowKit

/-- a slice of levels: n cells below block B, each a slice of tokens that lie below B -/
def LvlR (w : World) (B : Nat) (A : Option Addr) (n : Nat) (ls : List (List (Int × Int))) : Prop :=
  ls.length = n ∧ (0 < n → ∃ b off, A = some ⟨b, off, none⟩ ∧ b < B ∧ ∀ k, k < n → ∃ Ak nk ck, w.cell? ⟨b, off + k, none⟩ = some (.slice Ak nk ck) ∧ TokR w B Ak nk (ls.getD k []) ∧ (nk : Int) ≤ 9223372036854775807)

theorem LvlR.below {w w' : World} {B : Nat} {A : Option Addr} {n : Nat} {ls : List (List (Int × Int))} (h : LvlR w B A n ls) (hb : Below B w w') : LvlR w' B A n ls :=
  ⟨h.1, fun h0 => by
    obtain ⟨b, off, rfl, hB, hc⟩ := h.2 h0
    refine ⟨b, off, rfl, hB, fun k hk => ?_⟩
    obtain ⟨Ak, nk, ck, c, t, m⟩ := hc k hk
    exact ⟨Ak, nk, ck, (hb.cell (p := ⟨b, off + k, none⟩) hB).trans c, t.below hb, m⟩⟩
theorem LvlR.more {w : World} {B B' : Nat} {A : Option Addr} {n : Nat} {ls : List (List (Int × Int))} (h : LvlR w B A n ls) (hB : B ≤ B') : LvlR w B' A n ls :=
  ⟨h.1, fun h0 => by
    obtain ⟨b, off, rfl, hb, hc⟩ := h.2 h0
    refine ⟨b, off, rfl, by omega, fun k hk => ?_⟩
    obtain ⟨Ak, nk, ck, c, t, m⟩ := hc k hk
    exact ⟨Ak, nk, ck, c, t.more hB, m⟩⟩

/-- what stands for one token -/
def piece (ls : List (List (Int × Int))) (t : Int × Int) : Option (List (Int × Int)) := if t.1 = 4 then (if t.2 < (ls.length : Int) then some (ls.getD t.2.toNat []) else none) else some [t]
def sub (ls : List (List (Int × Int))) : List (Int × Int) → Option (List (Int × Int))
  | [] => some []
  | t :: r => (piece ls t).bind fun p => (sub ls r).map fun q => p ++ q
end Go.Proofs.Ytfmhmnpmdjpmeaa

namespace Go.Proofs.Ytfmhmnpmdjpmeaa.Dc
open Go.Proofs.Ytfmhmnpmdjpmeaa.Nm

/-- the residual of a level for a sign -/
abbrev rs (l : List (Int × Int)) (s : Int) : List (Int × Int) := rnorm (wl s l)
theorem ok_two {l : List (Int × Int)} (h : Lv.levelOk l = true) : 1 ≤ l.length ∧ l.length ≤ 24 := by
  simp only [Lv.levelOk, Bool.and_eq_true, decide_eq_true_eq] at h
  omega
theorem wl_fine2 {s : Int} {l : List (Int × Int)} (h : Lv.levelOk l = true) : wl s l ≠ [] ∧ Pst s (wl s l) ∧ AllOk (wl s l) ∧ ∀ x ∈ wl s l, x.2 ≤ 24 := by
  obtain ⟨a, ha⟩ := wrun_one (s := s) h
  have hl := (ok_two h).2
  have hf := wfine_run (k := 0) (fun a ha => by simp at ha) ha
  have hfa := hf a (by simp)
  rw [wl_of ha]
  exact ⟨hfa.1, hfa.2.1, hf.allOk (by omega) (by simp), fun x hx => by have := (hfa.2.2 x hx).2.2.2; omega⟩
theorem rs_rok {s : Int} {l : List (Int × Int)} (h : Lv.levelOk l = true) (hs : Sg.isSign s = true) : ROk s (rs l s) :=
  have hf := wl_fine2 (s := s) h
  rnorm_rok hs hf.1 hf.2.1 hf.2.2.1
/-- the env of a sign that is N at p -/
def gpeak (N s p : Int) : List Int := (List.range 5).map fun (i : Nat) => if Sg.has s i = true then (if (i : Int) = p then N else 1) else 0
theorem gpeak_len (N s p : Int) : (gpeak N s p).length = 5 := by simp [gpeak]
theorem gpeak_get (N s p : Int) (k : Nat) (hk : k < 5) : (gpeak N s p).getD k 0 = if Sg.has s k = true then (if (k : Int) = p then N else 1) else 0 := by
  simp [gpeak, List.getD_eq_getElem?_getD, hk]
theorem gpeak_env {N s p : Int} (hN : 1 ≤ N) : EnvOf s (gpeak N s p) := by
  refine ⟨fun x hx => ?_, fun q hq => ?_, fun q h0 h5 hq => ?_⟩
  · simp only [gpeak, List.mem_map] at hx
    obtain ⟨i, _, rfl⟩ := hx
    split
    · split <;> omega
    · omega
  · have hb := has_bd hq
    rw [gpeak_get _ _ _ _ (by omega), show ((q.toNat : Nat) : Int) = q by omega, if_pos hq]
    split <;> omega
  · rw [gpeak_get _ _ _ _ (by omega), show ((q.toNat : Nat) : Int) = q by omega, if_neg (by rw [hq]; decide)]
/-- an atom that no atom of b serves for is greater at its peak -/
theorem peak_gt {N M s : Int} {b : List At} {x : At} (hb : ROk s b) (hbM : ∀ y ∈ b, y.2 ≤ M) (hN : M + 2 ≤ N) (hM : 0 ≤ M) (hx0 : -1 ≤ x.1) (hx5 : x.1 < 5) (hxo : 0 ≤ x.2) (hxs : x.1 = -1 ∨ Sg.has s x.1 = true) (h : ¬ ratomLe x b) :
    value (gpeak N s x.1) b < val (gpeak N s x.1) x := by
  obtain ⟨p, u⟩ := x
  simp only at hx0 hx5 hxo hxs h ⊢
  have H : ∀ y ∈ b, val (gpeak N s p) y ≤ val (gpeak N s p) (p, u) - 1 := by
    intro y hy
    obtain ⟨j, hj, rfl⟩ := getD_of_mem hy
    have hby := hb.2.2.1.mem hy
    have h5 := hbM _ hy
    have hpy := hb.2.2.2.2.1 j hj
    have hn : ¬ RFits (p, u) (b.getD j (0, 0)) := fun hf => h ⟨j, hj, hf⟩
    generalize b.getD j (0, 0) = y at hby h5 hpy hn ⊢
    obtain ⟨q, v⟩ := y
    simp only [RFits] at hn
    simp only at hby h5 hpy
    have hq1 : ∀ _ : ¬ q = -1, (gpeak N s p).getD q.toNat 0 = if q = p then N else 1 := by
      intro eq
      rw [gpeak_get _ _ _ _ (by omega), show ((q.toNat : Nat) : Int) = q by omega]
      rcases hpy with e | e
      · exact absurd e eq
      · rw [if_pos e]
    by_cases ep : p = -1
    · subst ep
      simp only [val, if_true]
      by_cases eq : q = -1
      · simp only [eq, if_true]; omega
      · simp only [eq, if_false]
        rw [hq1 eq, if_neg eq]
        omega
    · have hpp : (gpeak N s p).getD p.toNat 0 = N := by
        rw [gpeak_get _ _ _ _ (by omega), show ((p.toNat : Nat) : Int) = p by omega]
        rcases hxs with e | e
        · exact absurd e ep
        · rw [if_pos e, if_pos rfl]
      simp only [val, ep, if_false]
      rw [hpp]
      by_cases eq : q = -1
      · simp only [eq, if_true]; omega
      · simp only [eq, if_false]
        rw [hq1 eq]
        by_cases eqp : q = p
        · rw [if_pos eqp]; omega
        · rw [if_neg eqp]; omega
  have hv0 : 1 ≤ val (gpeak N s p) (p, u) := by
    by_cases ep : p = -1
    · have hb1 := hb.2.1
      have := H _ (Nm.mem_getD (l := b) (k := 0) (by omega))
      have h0 := hb.2.2.1.mem (Nm.mem_getD (l := b) (k := 0) (by omega))
      have h1 : (b.getD 0 (0, 0)).2 ≤ val (gpeak N s p) (b.getD 0 (0, 0)) := val_ge (gpeak_env (by omega)).1 _
      omega
    · have hpp : (gpeak N s p).getD p.toNat 0 = N := by
        rw [gpeak_get _ _ _ _ (by omega), show ((p.toNat : Nat) : Int) = p by omega]
        rcases hxs with e | e
        · exact absurd e ep
        · rw [if_pos e, if_pos rfl]
      simp only [val, ep, if_false]
      rw [hpp]; omega
  have := value_le (env := gpeak N s p) (l := b) (v := val (gpeak N s p) (p, u) - 1) (by omega) H
  omega
/-- residuals are compared as their values are -/
theorem resid_sem {s : Int} {a b : List At} (ha : ROk s a) (hb : ROk s b) : (∀ k, k < a.length → ratomLe (a.getD k (0, 0)) b) ↔ ∀ env : List Int, env.length = 5 → EnvOf s env → value env a ≤ value env b := by
  constructor
  · exact fun h env _ he => rle_value he hb h
  · intro h k hk
    apply Classical.byContradiction
    intro hn
    have hx := Nm.mem_getD hk
    have hax := ha.2.2.1.mem hx
    have h1 := peak_gt (N := 2000) (M := 1000) hb (fun y hy => (hb.2.2.1.mem hy).2.2.2) (by omega) (by omega) hax.1 hax.2.1 hax.2.2.1 (ha.2.2.2.2.1 k hk) hn
    have h2 := h _ (gpeak_len 2000 s _) (gpeak_env (s := s) (p := (a.getD k (0, 0)).1) (by omega : (1 : Int) ≤ 2000))
    have h3 := value_mem (env := gpeak 2000 s (a.getD k (0, 0)).1) hx
    omega

/-- the value of a level, for whatever values of the parameters -/
def ev (env : List Int) (l : List (Int × Int)) : Int := (Lv.eval env l).getD 0
theorem ev_resid {s : Int} {env : List Int} (he : EnvOf s env) {l : List (Int × Int)} (h : Lv.levelOk l = true) : ev env l = value env (rs l s) := by
  unfold ev
  rw [eval_resid he h]
  rfl
/-- every env has a sign -/
theorem sign_of {env : List Int} (h5 : env.length = 5) (hp : Pos env) : ∃ S : Nat, S < 32 ∧ EnvOf (S : Int) env := by
  have hs := Sg.bits_sign h5
  have hb : 0 ≤ Sg.bits env ∧ Sg.bits env ≤ 31 := by simpa [Sg.isSign] using hs
  refine ⟨(Sg.bits env).toNat, by omega, ?_⟩
  rw [show (((Sg.bits env).toNat : Nat) : Int) = Sg.bits env by omega]
  have hh := fun k hk => Sg.bits_has h5 k hk
  refine ⟨hp, fun p h => ?_, fun p h0 h5' h => ?_⟩
  · have hbd := has_bd h
    have := hh p.toNat (by omega)
    rw [show ((p.toNat : Nat) : Int) = p by omega, h] at this
    have := of_decide_eq_true this.symm
    omega
  · have := hh p.toNat (by omega)
    rw [show ((p.toNat : Nat) : Int) = p by omega, h] at this
    have := of_decide_eq_false this.symm
    have := hp.get p.toNat
    omega
theorem isSign_nat {S : Nat} (h : S < 32) : Sg.isSign (S : Int) = true := by simp [Sg.isSign]; omega

open Classical in
/-- LevelLe's answer -/
noncomputable def leR (a b : List (Int × Int)) : Bool := decide (Lv.levelOk a = true ∧ Lv.levelOk b = true ∧ ∀ S : Nat, S < 32 → residLe (S : Int) (rs a S) (rs b S) = true)
theorem leR_iff (a b : List (Int × Int)) : leR a b = true ↔ Lv.levelOk a = true ∧ Lv.levelOk b = true ∧ ∀ S : Nat, S < 32 → residLe (S : Int) (rs a S) (rs b S) = true := by simp [leR]
/-- one level is at most another just where it is so for all values -/
theorem le_sem {a b : List (Int × Int)} (ha : Lv.levelOk a = true) (hb : Lv.levelOk b = true) : leR a b = true ↔ ∀ env : List Int, env.length = 5 → Pos env → ev env a ≤ ev env b := by
  rw [leR_iff]
  constructor
  · rintro ⟨_, _, h⟩ env h5 hp
    obtain ⟨S, hS, he⟩ := sign_of h5 hp
    rw [ev_resid he ha, ev_resid he hb]
    have h1 := (residLe_iff _ _ _).1 (h S hS)
    exact rle_value he h1.2.1 h1.2.2
  · intro h
    refine ⟨ha, hb, fun S hS => ?_⟩
    have hra := rs_rok ha (isSign_nat hS)
    have hrb := rs_rok hb (isSign_nat hS)
    refine (residLe_iff _ _ _).2 ⟨hra, hrb, (resid_sem hra hrb).2 fun env h5 he => ?_⟩
    have := h env h5 he.1
    rwa [ev_resid he ha, ev_resid he hb] at this
theorem le_refl {a : List (Int × Int)} (ha : Lv.levelOk a = true) : leR a a = true := (le_sem ha ha).2 fun _ _ _ => Int.le_refl _
theorem le_trans {a b c : List (Int × Int)} (h1 : leR a b = true) (h2 : leR b c = true) : leR a c = true := by
  have i1 := (leR_iff a b).1 h1
  have i2 := (leR_iff b c).1 h2
  exact (le_sem i1.1 i2.2.1).2 fun env h5 hp => Int.le_trans ((le_sem i1.1 i1.2.1).1 h1 env h5 hp) ((le_sem i2.1 i2.2.1).1 h2 env h5 hp)

end Go.Proofs.Ytfmhmnpmdjpmeaa.Dc

namespace Go.Proofs.Ytfmhmnpmdjpmeaa
open Go.RowKit

/-- a slice of bytes below block B -/
def BytR (w : World) (B : Nat) (A : Option Addr) (n : Nat) : Prop :=
  0 < n → ∃ b off, A = some ⟨b, off, none⟩ ∧ b < B ∧ ∀ k, k < n → ∃ x : Nat, x < 256 ∧ w.cell? ⟨b, off + k, none⟩ = some (.int .u8 x)
theorem BytR.below {w w' : World} {B : Nat} {A : Option Addr} {n : Nat} (h : BytR w B A n) (hb : Below B w w') : BytR w' B A n := fun h0 => by
  obtain ⟨b, off, rfl, hB, hc⟩ := h h0
  refine ⟨b, off, rfl, hB, fun k hk => ?_⟩
  obtain ⟨x, hx, c⟩ := hc k hk
  exact ⟨x, hx, (hb.cell (p := ⟨b, off + k, none⟩) hB).trans c⟩

/-- nothing but the cursor's block has turned -/
abbrev Kp (bc : Nat) (w w' : World) : Prop := w.grownBy w' (some bc)
theorem Kp.refl (bc : Nat) (w : World) : Kp bc w w := ⟨rfl, rfl, rfl, Nat.le_refl _, fun _ _ _ => rfl⟩
theorem Kp.trans {bc : Nat} {a b c : World} (h : Kp bc a b) (k : Kp bc b c) : Kp bc a c :=
  ⟨k.os.trans h.os, k.tape.trans h.tape, k.output.trans h.output, Nat.le_trans h.size k.size, fun i hi hn => (k.block i (Nat.lt_of_lt_of_le hi h.size) hn).trans (h.block i hi hn)⟩
theorem Kp.of_below {bc : Nat} {a b : World} (h : Below a.heap.size a b) : Kp bc a b := ⟨h.os, h.tape, h.output, h.size, fun i hi _ => h.block i hi⟩
theorem Kp.below {bc B : Nat} {w0 a b : World} (h0 : Below B w0 a) (h : Kp bc a b) (hB : B ≤ bc) (hz : B ≤ a.heap.size) : Below B w0 b := h0.grown h hz (fun k hk => by injection hk with hk; omega)
theorem Kp.own {bc : Nat} {a b : World} {base : Nat} {e : TypeId} {size n : Nat} {v : Value} {xs : List Value} (h : a.ownsRow base e size v n xs) (hk : Kp bc a b) (hb : bc < base) : b.ownsRow base e size v n xs :=
  h.kept hk (by
    cases hv : v.ownBlock with
    | none => exact .inl rfl
    | some g =>
      refine .inr (fun he => ?_)
      have := (h.lt g hv).1
      injection he with he
      omega)
theorem Kp.drew {bc : Nat} {a b : World} (h : Kp bc a b) : Kp bc a b.drew := ⟨h.os, h.tape, h.output, h.size, h.block⟩
theorem Kp.put (w : World) (bc i : Nat) (u : Value) : Kp bc w (w.setCell ⟨bc, i, none⟩ u) :=
  ⟨rfl, rfl, rfl, by rw [World.size_setCell]; exact Nat.le_refl _, fun k _ hn => Below.heap_setCell w ⟨bc, i, none⟩ u k (fun e => hn (by rw [e]))⟩
end Go.Proofs.Ytfmhmnpmdjpmeaa

namespace Go.Proofs.Ytfmhmnpmdjpmeaa
open Go.RowKit

theorem BytR.grown {w w' : World} {B : Nat} {A : Option Addr} {n : Nat} {row : Option Nat} (h : BytR w B A n) (hg : w.grownBy w' row) (hB : B ≤ w.heap.size) (hr : ∀ k, row = some k → B ≤ k) : BytR w' B A n :=
  h.below ((Below.refl B w).grown hg hB hr)
theorem Kp.alloc {bc : Nat} {a b : World} (h : Kp bc a b) (o : Obj) : Kp bc a (b.alloc o) := h.trans (Kp.of_below ((Below.refl _ _).alloc (Nat.le_refl _) o))
theorem Kp.blk {bc g : Nat} {a b : World} {t : TypeId} {cs : Array Value} (hb : Blk a g t cs) (h : Kp bc a b) (hne : g ≠ bc) : Blk b g t cs := hb.grown h (fun he => by injection he with he; exact hne he)
theorem Kp.more {bc : Nat} {a b c : World} {row : Option Nat} (h : Kp bc a b) (k : b.grownBy c row) (hr : ∀ j, row = some j → a.heap.size ≤ j) : Kp bc a c := h.andThen k (fun j hj => .inl (hr j hj))

end Go.Proofs.Ytfmhmnpmdjpmeaa

namespace Go.Proofs.Ytfmhmnpmdjpmeaa
open Go.RowKit

/-- what a search for a parameter finds -/
def FoundP (l : List (Int × Int)) (p i : Int) : Prop := (i = -1 ∧ ∀ k, k < l.length → (l.getD k (0, 0)).1 ≠ p) ∨ (0 ≤ i ∧ ∃ k, k < l.length ∧ (l.getD k (0, 0)).1 = p)
open Classical in
/-- whether an atom bears the parameter -/
noncomputable def hasP (l : List (Int × Int)) (p : Int) : Bool := decide (∃ k, k < l.length ∧ (l.getD k (0, 0)).1 = p)
theorem hasP_iff (l : List (Int × Int)) (p : Int) : hasP l p = true ↔ ∃ k, k < l.length ∧ (l.getD k (0, 0)).1 = p := by simp [hasP]
theorem hasP_yes {l : List (Int × Int)} {p : Int} {k : Nat} (h : k < l.length) (e : (l.getD k (0, 0)).1 = p) : hasP l p = true := (hasP_iff l p).2 ⟨k, h, e⟩
theorem hasP_no {l : List (Int × Int)} {p : Int} (h : ∀ k, k < l.length → (l.getD k (0, 0)).1 ≠ p) : hasP l p = false := by
  cases e : hasP l p with
  | false => rfl
  | true => obtain ⟨k, h1, h2⟩ := (hasP_iff l p).1 e; exact absurd h2 (h k h1)
theorem FoundP.has {l : List (Int × Int)} {p i : Int} (h : FoundP l p i) : hasP l p = decide (0 ≤ i) := by
  rcases h with ⟨rfl, h⟩ | ⟨h0, k, h1, h2⟩
  · rw [hasP_no h]; rfl
  · rw [hasP_yes h1 h2, decide_eq_true h0]

end Go.Proofs.Ytfmhmnpmdjpmeaa

namespace Go.Proofs.Ytfmhmnpmdjpmeaa
open Go.RowKit

/-- a number is among them -/
def inI (l : List Int) (v : Int) : Bool := l.contains v
theorem getD_memT {l : List Int} {v : Int} {k : Nat} (hk : k < l.length) (h : l.getD k 0 = v) : inI l v = true := by
  unfold inI
  rw [List.contains_iff_mem, ← h, List.getD_eq_getElem?_getD, List.getElem?_eq_getElem hk]
  exact List.getElem_mem _
theorem getD_not {l : List Int} {v : Int} (h : ∀ k, k < l.length → l.getD k 0 ≠ v) : inI l v = false := by
  unfold inI
  cases e : l.contains v with
  | false => rfl
  | true =>
    obtain ⟨k, hk, he⟩ := List.getElem_of_mem (List.contains_iff_mem.1 e)
    exact absurd (by rw [List.getD_eq_getElem?_getD, List.getElem?_eq_getElem hk]; exact he) (h k hk)

set_option maxHeartbeats 800000 in
theorem indexI_any (w : World) (B : Nat) (A : Option Addr) (n c : Nat) (l : List Int) (v : Int) (hl : IntR w B A n l) (hn : n ≤ 1000) :
    Calls Try.prog 96 #[.slice A n c, .int .i64 v] w fun e w' => ∃ r : Int, e = .returned (.int .i64 r) ∧ w' = w ∧ Hid (decide (0 ≤ r) = inI l v) := by
  go_enter Try.func96, Try.ntmps96
  go_wp2
  go_loop [8] (fun i => ∃ k : Nat, k ≤ n ∧ i = .int .i64 k ∧ Hid (∀ j, j < k → l.getD j 0 ≠ v)) (fun i => n - (intOf i).toNat)
  case atStart => exact ⟨0, Nat.zero_le _, rfl, fun j hj => absurd hj (by omega)⟩
  case round =>
    obtain ⟨k, hk, rfl, HA⟩ := hrel
    by_cases hlt : k < n
    · obtain ⟨b1, off, rfl, hb1, hc⟩ := hl.2 (by omega)
      have x1 := hc k hlt
      obtain ⟨t, ht⟩ : ∃ t, l.getD k 0 = t := ⟨_, rfl⟩
      rw [ht] at x1
      have HT := Lib.hid ht
      have HL := Lib.hid hl.1
      have hki : (k : Int) < (n : Int) := by omega
      clear hc ht hl
      by_cases heq : v = t
      · subst heq
        have HM := Lib.hid (getD_memT (l := l) (v := v) (k := k) (by rw [HL.out]; exact hlt) HT.out)
        go_wp2
        go_ret
        exact ⟨k, rfl, rfl, by show _ = _; rw [HM.out]; simp⟩
      · have e2 : (v == t) = false := by simpa using heq
        have HA2 : Hid (∀ j, j < k + 1 → l.getD j 0 ≠ v) := fun j hj => by
          by_cases e : j = k
          · subst e; rw [HT.out]; exact fun h => heq h.symm
          · exact HA.out j (by omega)
        clear heq
        go_wp2
        go_round
        case rel => exact ⟨k + 1, by omega, by go_num, HA2.out⟩
        case measure => simp [intOf]; omega
    · obtain rfl : k = n := by omega
      have HM := Lib.hid (getD_not (l := l) (v := v) (by rw [hl.1]; exact HA.out))
      have hkk : ¬ (k : Int) < (k : Int) := by omega
      clear hl
      go_wp2
      go_ret
      exact ⟨-1, rfl, rfl, by show _ = _; rw [HM.out]; rfl⟩

set_option maxHeartbeats 800000 in
theorem containsI_any (w : World) (B : Nat) (A : Option Addr) (n c : Nat) (l : List Int) (v : Int) (hl : IntR w B A n l) (hn : n ≤ 1000) :
    Calls Try.prog 79 #[.slice A n c, .int .i64 v] w fun e w' => e = .returned (.bool (inI l v)) ∧ w' = w := by
  go_enter Try.func79, Try.ntmps79
  go_wp2_with fail
  refine (indexI_any w B A n c l v hl hn).mono ?_
  rintro e w1 ⟨r, rfl, rfl, HR⟩
  clear hl
  go_wp2
  go_ret
  exact ⟨by rw [← HR.out]; rfl, rfl⟩

set_option maxHeartbeats 800000 in
theorem l04In_any (w : World) (B : Nat) (A : Option Addr) (n c : Nat) (l : List Int) (v : Int) (hl : IntR w B A n l) (hn : n ≤ 1000) :
    Calls Try.prog 43 #[.slice A n c, .int .i64 v] w fun e w' => e = .returned (.bool (inI l v)) ∧ w' = w := by
  go_enter Try.func43, Try.ntmps43
  go_wp2
  go_loop [5] (fun i => ∃ k : Nat, k ≤ n ∧ i = .int .i64 k ∧ Hid (∀ j, j < k → l.getD j 0 ≠ v)) (fun i => n - (intOf i).toNat)
  case atStart => exact ⟨0, Nat.zero_le _, rfl, fun j hj => absurd hj (by omega)⟩
  case round =>
    obtain ⟨k, hk, rfl, HA⟩ := hrel
    by_cases hlt : k < n
    · obtain ⟨b1, off, rfl, hb1, hc⟩ := hl.2 (by omega)
      have x1 := hc k hlt
      obtain ⟨t, ht⟩ : ∃ t, l.getD k 0 = t := ⟨_, rfl⟩
      rw [ht] at x1
      have HT := Lib.hid ht
      have HL := Lib.hid hl.1
      have hki : (k : Int) < (n : Int) := by omega
      clear hc ht hl
      by_cases heq : t = v
      · subst heq
        have HM := Lib.hid (getD_memT (l := l) (v := t) (k := k) (by rw [HL.out]; exact hlt) HT.out)
        go_wp2
        go_ret
        exact ⟨by rw [HM.out]; rfl, rfl⟩
      · have e2 : (t == v) = false := by simpa using heq
        have HA2 : Hid (∀ j, j < k + 1 → l.getD j 0 ≠ v) := fun j hj => by
          by_cases e : j = k
          · subst e; rw [HT.out]; exact heq
          · exact HA.out j (by omega)
        clear heq
        go_wp2
        go_round
        case rel => exact ⟨k + 1, by omega, by go_num, HA2.out⟩
        case measure => simp [intOf]; omega
    · obtain rfl : k = n := by omega
      have HM := Lib.hid (getD_not (l := l) (v := v) (by rw [hl.1]; exact HA.out))
      have hkk : ¬ (k : Int) < (k : Int) := by omega
      clear hl
      go_wp2
      go_ret
      exact ⟨by rw [HM.out]; rfl, rfl⟩

end Go.Proofs.Ytfmhmnpmdjpmeaa

namespace Go.Proofs.Ytfmhmnpmdjpmeaa
open Go.RowKit
open Cs (Cn Tb)

theorem own_set {w : World} {base g n c size : Nat} {e : TypeId} {xs : List Value} (h : w.ownsRow base e size (.slice (some ⟨g, 0, none⟩) n c) n xs) (i : Nat) (u : Value) :
    (w.setCell ⟨g, i, none⟩ u).ownsRow base e size (.slice (some ⟨g, 0, none⟩) n c) n (xs.set i u) := by
  refine ⟨by rw [List.length_set]; exact h.1, ?_⟩
  rcases h.2 with ⟨h0, _⟩ | ⟨g', cap, cur, hv, hb, hgg, h1, h2, h3, h4⟩
  · cases h0
  · injection hv with e1 e2 e3
    injection e1 with e1
    injection e1 with e1
    subst e1; subst e3
    refine .inr ⟨g, c, _, rfl, hb, Blk.put (w := w) (t := e) hgg i u, h1, h2, by simp [h3], ?_⟩
    rw [Array.toList_setIfInBounds, List.take_set, h4]
/-- a row of a table -/
def rowL (d : Tb) (i : Nat) : List Int := (List.range 6).map fun j => d i j
theorem rowL_len (d : Tb) (i : Nat) : (rowL d i).length = 6 := by simp [rowL]
theorem rowL_get (d : Tb) (i : Nat) {j : Nat} (hj : j < 6) : (rowL d i).getD j 0 = d i j := by simp [rowL, List.getD_eq_getElem?_getD, hj]
theorem rowL_put (d : Tb) (i j : Nat) (x : Int) : (rowL d i).set j x = rowL (Cs.put d i j x) i := by
  apply List.ext_getElem (by simp [rowL])
  intro k h1 h2
  rw [List.getElem_set]
  by_cases e : j = k
  · subst e
    rw [if_pos rfl]
    simp [rowL, Cs.put]
  · rw [if_neg e]
    simp only [rowL, List.getElem_map, List.getElem_range]
    exact (Cs.put_other d x (fun h => e h.2.symm)).symm
theorem rowL_other (d : Tb) {i a : Nat} (h : a ≠ i) (j : Nat) (x : Int) : rowL (Cs.put d i j x) a = rowL d a := by
  unfold rowL
  apply List.map_congr_left
  intro k _
  exact Cs.put_other d x (fun e => h e.1)
/-- the rows of a table, as values -/
def rowVs (rw cp : Nat → Nat) (n : Nat) : List Value := (List.range n).map fun i => .slice (some ⟨rw i, 0, none⟩) 6 (cp i)
theorem rowVs_get (rw cp : Nat → Nat) {n i : Nat} (hi : i < n) : (rowVs rw cp n)[i]? = some (.slice (some ⟨rw i, 0, none⟩) 6 (cp i)) := by simp [rowVs, hi]
/-- the first n rows of a table -/
structure TabN (w : World) (base g cap n : Nat) (rw cp : Nat → Nat) (d : Tb) : Prop where
  out : w.ownsRow base 23 1 (.slice (some ⟨g, 0, none⟩) n cap) n (rowVs rw cp n)
  row : ∀ i, i < n → OwnI w base (some ⟨rw i, 0, none⟩) 6 (cp i) (rowL d i)
  inj : ∀ i j, i < n → j < n → rw i = rw j → i = j
theorem TabN.below {w w' : World} {base g cap n : Nat} {rw cp : Nat → Nat} {d : Tb} (h : TabN w base g cap n rw cp d) (hb : Below w.heap.size w w') : TabN w' base g cap n rw cp d :=
  ⟨own_below' h.out hb, fun i hi => own_below' (h.row i hi) hb, h.inj⟩
theorem TabN.head {w : World} {base g cap n : Nat} {rw cp : Nat → Nat} {d : Tb} (h : TabN w base g cap n rw cp d) {i : Nat} (hi : i < n) : w.cell? ⟨g, i, none⟩ = some (.slice (some ⟨rw i, 0, none⟩) 6 (cp i)) := by
  have := h.out.cells (g := g) rfl i _ (rowVs_get rw cp hi)
  rw [own_adds] at this
  exact this
theorem TabN.spot {w : World} {base g cap n : Nat} {rw cp : Nat → Nat} {d : Tb} (h : TabN w base g cap n rw cp d) {i j : Nat} (hi : i < n) (hj : j < 6) : w.cell? ⟨rw i, j, none⟩ = some (.int .i64 (d i j)) ∧ w.frozen? ⟨rw i, j, none⟩ = false := by
  have hr := h.row i hi
  obtain ⟨b, off, hA, _, hc⟩ := (OwnI.reads hr).2 (by omega)
  injection hA with e2
  injection e2 with e2 e3
  subst e2; subst e3
  have := hc j hj
  rw [Nat.zero_add, rowL_get d i hj] at this
  refine ⟨this, ?_⟩
  rcases hr.2 with ⟨h0, _⟩ | ⟨g', cap', cur, hv, _, hgg, _⟩
  · cases h0
  · injection hv with e1
    injection e1 with e1
    injection e1 with e1
    rw [e1]
    exact Blk.thawed (w := w) hgg j
theorem TabN.put {w : World} {base g cap n : Nat} {rw cp : Nat → Nat} {d : Tb} (h : TabN w base g cap n rw cp d) {i : Nat} (hi : i < n) (j : Nat) (x : Int) :
    TabN (w.setCell ⟨rw i, j, none⟩ (.int .i64 x)) base g cap n rw cp (Cs.put d i j x) := by
  have hr := h.row i hi
  obtain ⟨cs, hblk⟩ := own_blk hr (rw i) rfl
  have grown : w.grownBy (w.setCell ⟨rw i, j, none⟩ (.int .i64 x)) (some (rw i)) := ⟨rfl, rfl, rfl, by simp [World.setCell], fun k _ hk => Below.heap_setCell _ _ _ _ (fun e => hk (by rw [e]))⟩
  refine ⟨h.out.kept grown (.inr ?_), fun a ha => ?_, h.inj⟩
  · exact own_apart h.out hblk (by decide)
  · by_cases e : a = i
    · subst e
      have := own_set hr j (.int .i64 x)
      rw [← List.map_set, rowL_put d a j x] at this
      exact this
    · rw [rowL_other d e j x]
      refine (h.row a ha).kept grown (.inr fun e2 => ?_)
      have e3 : rw a = rw i := by simpa [Value.ownBlock] using e2
      exact e (h.inj a i ha hi e3)
theorem TabN.base {w : World} {base g cap n : Nat} {rw cp : Nat → Nat} {d : Tb} (h : TabN w base g cap n rw cp d) {i : Nat} (hi : i < n) : base ≤ rw i ∧ rw i < w.heap.size := (h.row i hi).lt (rw i) rfl
end Go.Proofs.Ytfmhmnpmdjpmeaa
