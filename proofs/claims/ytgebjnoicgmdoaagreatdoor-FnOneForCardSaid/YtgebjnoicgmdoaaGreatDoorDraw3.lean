/- Plain facts: what comparison under constraints says of envs; the witness satisfies the list and exceeds. -/
/- What LeUnder says of envs; a list split at a parameter; LevelLe. -/
/- Plain facts: Counter's env is one in which the first level is greater; an env of small numbers. -/
/- Plain facts of FnOneFor: one parameter put for an equal one. -/
/- The laws' work on slices of levels: their size, a copy. -/
/- The model's cursor: slices of levels; the draw of LevelSubst. -/
import Derived.Test.YtgebjnoicgmdoaaGreatDoorUnMath
import Derived.Test.YtgebjnoicgmdoaaGreatDoorConApp
import Derived.Test.YtgebjnoicgmdoaaGreatDoorDcMath4
import Derived.Test.YtgebjnoicgmdoaaGreatDoorSpec
import Derived.Test.YtgebjnoicgmdoaaGreatDoorEvMath
import Derived.Test.YtgebjnoicgmdoaaGreatDoorNMath2
import Derived.Test.YtgebjnoicgmdoaaGreatDoorParams
import Derived.Test.YtgebjnoicgmdoaaGreatDoorSlc

namespace Go.Proofs.YtgebjnoicgmdoaaGreatDoor.Un
open Go.Proofs.YtgebjnoicgmdoaaGreatDoor.Nm
open Go.Proofs.YtgebjnoicgmdoaaGreatDoor.Cs (Cn Tb)

theorem rok_mem {s : Int} {l : List At} (h : ROk s l) {x : At} (hx : x ∈ l) : -1 ≤ x.1 ∧ x.1 < 5 ∧ 0 ≤ x.2 ∧ x.2 ≤ 1000 ∧ (x.1 = -1 ∨ Sg.has s x.1 = true) := by
  obtain ⟨k, hk, rfl⟩ := List.mem_iff_getElem.1 hx
  have e : l.getD k (0, 0) = l[k] := by rw [List.getD_eq_getElem?_getD, List.getElem?_eq_getElem hk, Option.getD_some]
  have h1 := (atOk_iff _).1 (h.2.2.1 k hk)
  have h2 := h.2.2.2.2.1 k hk
  rw [e] at h1 h2
  exact ⟨h1.1, h1.2.1, h1.2.2.1, h1.2.2.2, h2⟩
theorem val_node (env : List Int) {x : At} (h : -1 ≤ x.1) : val env x = Cs.valOf env (Cs.node x.1) + x.2 := by
  unfold val Cs.node
  by_cases e : x.1 = -1
  · rw [if_pos e, e]
    simp [Cs.valOf]
  · rw [if_neg e, show (x.1 + 1).toNat = x.1.toNat + 1 by omega]
    rfl
theorem leB_iff (T : Tb) (x y : At) : leB T x y = true ↔ 0 ≤ T (Cs.node x.1) (Cs.node y.1) ∧ x.2 ≤ T (Cs.node x.1) (Cs.node y.1) + y.2 := by simp [leB]
theorem sat_sign {l : List Cn} {env : List Int} {S : Nat} (he : EnvOf (S : Int) env) (hs : Cs.SatAll (Cs.valOf env) l) : Cs.SatAll (Cs.valOf env) (sgL l (S : Int)) := by
  rw [sgL, Cs.signed_sat]
  refine ⟨hs, fun p hp => ?_⟩
  show Sg.has (S : Int) (p : Int) = true ↔ 0 < env.getD p 0
  constructor
  · intro h
    have := he.2.1 p h
    rw [show ((p : Int)).toNat = p by omega] at this
    omega
  · intro h
    cases e : Sg.has (S : Int) (p : Int) with
    | true => rfl
    | false =>
      have := he.2.2 p (by omega) (by omega) e
      rw [show ((p : Int)).toNat = p by omega] at this
      omega
theorem sign_sat {l : List Cn} {env : List Int} {S : Nat} (hp : Pos env) (h : Cs.SatAll (Cs.valOf env) (sgL l (S : Int))) : EnvOf (S : Int) env ∧ Cs.SatAll (Cs.valOf env) l := by
  rw [sgL, Cs.signed_sat] at h
  refine ⟨⟨hp, fun p hh => ?_, fun p h0 h5 hh => ?_⟩, h.1⟩
  · have hb := has_bd hh
    have := (h.2 p.toNat (by omega)).1 (by rw [show ((p.toNat : Nat) : Int) = p by omega]; exact hh)
    have h1 : 0 < env.getD p.toNat 0 := this
    omega
  · have := (h.2 p.toNat (by omega))
    rw [show ((p.toNat : Nat) : Int) = p by omega, hh] at this
    have h1 : ¬ 0 < env.getD p.toNat 0 := fun q => by have := this.2 q; cases this
    have := hp.get p.toNat
    omega
/-- where all fits, the first level is at most the second one in every env that satisfies the list -/
theorem un_le {l : List Cn} {a b : List (Int × Int)} (hok : Cs.ok l) (ha : Lv.levelOk a = true) (hb : Lv.levelOk b = true) (h : exR l a b = none) {env : List Int} (h5 : env.length = 5) (hp : Pos env) (hs : Cs.SatAll (Cs.valOf env) l) : Dc.ev env a ≤ Dc.ev env b := by
  obtain ⟨S, hS, he⟩ := Dc.sign_of h5 hp
  have hss := sat_sign he hs
  have hf : Cs.flat (sgL l (S : Int)) = true := (Cs.sat_iff (sgL_ok hok _)).2 ⟨_, hss⟩
  have h1 := exR_no h S hS
  rw [ex1_yes hf, exL_none] at h1
  have hk := Cs.tab_keeps (sgL_ok hok _) hss
  have hra := Dc.rs_rok ha (Dc.isSign_nat hS)
  have hrb := Dc.rs_rok hb (Dc.isSign_nat hS)
  rw [Dc.ev_resid he ha, Dc.ev_resid he hb]
  refine value_le (value_ge _ _) fun x hx => ?_
  have h2 := h1 x hx
  unfold atB at h2
  rw [List.any_eq_true] at h2
  obtain ⟨y, hy, hle⟩ := h2
  rw [leB_iff] at hle
  have h3 := hk _ _ hle.1
  refine Int.le_trans ?_ (value_mem hy)
  rw [val_node env (rok_mem hra hx).1, val_node env (rok_mem hrb hy).1]
  omega
theorem witL_len (T : Tb) (p : Int) : (witL T p).length = 5 := by simp [witL]
theorem witL_get (T : Tb) (p : Int) {j : Nat} (hj : j < 5) : (witL T p).getD j 0 = if 0 ≤ p ∧ 0 ≤ T (Cs.node p) (j + 1) then max (T 0 (j + 1)) (200 + T (Cs.node p) (j + 1)) else T 0 (j + 1) := by
  simp [witL, List.getD_eq_getElem?_getD, hj]
theorem witL_pos {L : List Cn} (p : Int) : Pos (witL (Cs.tab L) p) := fun x hx => by
  obtain ⟨j, _, rfl⟩ := List.mem_map.1 hx
  have := Cs.tab_zero L (j + 1)
  split <;> omega
theorem witL_least (L : List Cn) {p : Int} (hp : p < 0) : witL (Cs.tab L) p = Cs.leastEnv L := by
  unfold witL Cs.leastEnv
  apply List.map_congr_left
  intro j _
  rw [if_neg (fun h => by omega)]
theorem sat_of_nodes {v u : Nat → Int} {l : List Cn} (hok : Cs.ok l) (hu : Cs.Val u) (h : ∀ x, x < 6 → v x = u x) (hs : Cs.SatAll v l) : Cs.SatAll u l :=
  ⟨hu, fun c hc => (Cs.sat_congr (hok c hc) h).1 (hs.2 c hc)⟩
theorem wit_nodes {L : List Cn} (hf : Cs.flat L = true) {p : Int} (hp : 0 ≤ p) (h0 : Cs.tab L (Cs.node p) 0 < 0) : ∀ x, x < 6 → Cs.lifted L (Cs.node p) 200 x = Cs.valOf (witL (Cs.tab L) p) x := by
  intro x hx
  cases x with
  | zero =>
    unfold Cs.lifted
    rw [if_neg (by omega)]
    exact Cs.tab_diag hf (by omega)
  | succ j =>
    show _ = (witL (Cs.tab L) p).getD j 0
    rw [witL_get _ _ (by omega)]
    unfold Cs.lifted
    by_cases h : 0 ≤ Cs.tab L (Cs.node p) (j + 1)
    · rw [if_pos h, if_pos ⟨hp, h⟩]
    · rw [if_neg h, if_neg (fun q => h q.2)]
set_option maxHeartbeats 1600000 in
theorem un_witL {l L : List Cn} {a b : List (Int × Int)} {S : Nat} {x : At} (hLe : sgL l (S : Int) = L) (hL : Cs.ok L) (ha : Lv.levelOk a = true) (hb : Lv.levelOk b = true) (hS : S < 32) (hf : Cs.flat L = true) (hmem : x ∈ Dc.rs a (S : Int)) (hno : atB (Cs.tab L) x (Dc.rs b (S : Int)) = false) :
    Pos (witL (Cs.tab L) x.1) ∧ Cs.SatAll (Cs.valOf (witL (Cs.tab L) x.1)) L ∧ Dc.ev (witL (Cs.tab L) x.1) b < Dc.ev (witL (Cs.tab L) x.1) a := by
  have hra := Dc.rs_rok ha (Dc.isSign_nat hS)
  have hrb := Dc.rs_rok hb (Dc.isSign_nat hS)
  have hx := rok_mem hra hmem
  have hleast := Cs.leastEnv_sat hL hf
  have hsig : ∀ p : Nat, p < 5 → (Sg.has (S : Int) (p : Int) = true ↔ 0 < Cs.valOf (Cs.leastEnv L) (p + 1)) := by
    subst hLe
    exact (Cs.signed_sat.1 hleast).2
  have hpos : Pos (witL (Cs.tab L) x.1) := witL_pos x.1
  have hno' : ∀ y ∈ Dc.rs b (S : Int), ¬ (0 ≤ Cs.tab L (Cs.node x.1) (Cs.node y.1) ∧ x.2 ≤ Cs.tab L (Cs.node x.1) (Cs.node y.1) + y.2) := fun y hy q => by
    unfold atB at hno
    rw [List.any_eq_false] at hno
    exact hno y hy ((leB_iff _ _ _).2 q)
  have hsm := Dc.rs_small (s := (S : Int)) hb
  have hfin : Cs.SatAll (Cs.valOf (witL (Cs.tab L) x.1)) L → (0 ≤ val (witL (Cs.tab L) x.1) x - 1) → (∀ y ∈ Dc.rs b (S : Int), val (witL (Cs.tab L) x.1) y ≤ val (witL (Cs.tab L) x.1) x - 1) → Dc.ev (witL (Cs.tab L) x.1) b < Dc.ev (witL (Cs.tab L) x.1) a := fun hsat h0 hy => by
    have he := (sign_sat (l := l) (S := S) hpos (by rw [hLe]; exact hsat)).1
    rw [Dc.ev_resid he ha, Dc.ev_resid he hb]
    have q1 := value_le h0 hy
    have q2 := value_mem (env := witL (Cs.tab L) x.1) hmem
    omega
  by_cases hx0 : x.1 < 0
  · have hx1 : x.1 = -1 := by omega
    have hn : Cs.node x.1 = 0 := by rw [hx1]; rfl
    have hsat : Cs.SatAll (Cs.valOf (witL (Cs.tab L) x.1)) L := by rw [witL_least L hx0]; exact hleast
    have hvx : val (witL (Cs.tab L) x.1) x = x.2 := by unfold val; rw [if_pos hx1]
    have hy : ∀ y ∈ Dc.rs b (S : Int), val (witL (Cs.tab L) x.1) y ≤ x.2 - 1 := fun y hy => by
      have hyb := rok_mem hrb hy
      have hne := hno' y hy
      rw [hn] at hne
      have z := Cs.tab_zero L (Cs.node y.1)
      rw [val_node _ hyb.1, witL_least L hx0, Cs.valOf_least hf _ (Cs.node_lt hyb.1 hyb.2.1)]
      unfold Cs.least
      omega
    have h1x : 0 ≤ x.2 - 1 := by
      obtain ⟨y, hym⟩ : ∃ y, y ∈ Dc.rs b (S : Int) := by
        have := hrb.2.1
        exact ⟨(Dc.rs b (S : Int))[0], List.getElem_mem (by omega)⟩
      have hyb := rok_mem hrb hym
      have hne := hno' y hym
      rw [hn] at hne
      have z := Cs.tab_zero L (Cs.node y.1)
      omega
    refine ⟨hpos, hsat, hfin hsat (by rw [hvx]; exact h1x) (by rw [hvx]; exact hy)⟩
  · have hx0' : 0 ≤ x.1 := by omega
    have hnx : Cs.node x.1 = x.1.toNat + 1 := by unfold Cs.node; omega
    have hi : Cs.node x.1 < 6 := Cs.node_lt hx.1 hx.2.1
    have hhas : Sg.has (S : Int) x.1 = true := by
      rcases hx.2.2.2.2 with q | q
      · omega
      · exact q
    have hvi : 0 < Cs.tab L 0 (Cs.node x.1) := by
      have q := (hsig x.1.toNat (by omega)).1 (by rw [show ((x.1.toNat : Nat) : Int) = x.1 by omega]; exact hhas)
      rw [← hnx, Cs.valOf_least hf _ hi] at q
      exact q
    have ht0 : Cs.tab L (Cs.node x.1) 0 < 0 := by
      rcases Int.lt_or_le (Cs.tab L (Cs.node x.1) 0) 0 with q | q
      · exact q
      · have c := Cs.tab_closed hf (i := 0) (j := 0) (k := Cs.node x.1) (by omega) (by omega) hi (by omega) q
        have d := Cs.tab_diag hf (i := 0) (by omega)
        omega
    have hnod := wit_nodes hf hx0' ht0
    have hsat : Cs.SatAll (Cs.valOf (witL (Cs.tab L) x.1)) L := sat_of_nodes hL (Cs.valOf_val fun p => hpos.get p) hnod (Cs.lifted_sat hL hf hi ht0 200)
    have hdi := Cs.tab_diag hf hi
    have hb0 := (Cs.tab_bd hf 0 (Cs.node x.1)).2
    have hvx : val (witL (Cs.tab L) x.1) x = 200 + x.2 := by
      rw [val_node _ hx.1, ← hnod _ hi]
      unfold Cs.lifted
      rw [if_pos (by omega)]
      omega
    have hy : ∀ y ∈ Dc.rs b (S : Int), val (witL (Cs.tab L) x.1) y ≤ 200 + x.2 - 1 := fun y hy => by
      have hyb := rok_mem hrb hy
      have hy6 : Cs.node y.1 < 6 := Cs.node_lt hyb.1 hyb.2.1
      have hne := hno' y hy
      have hbd := (Cs.tab_bd hf 0 (Cs.node y.1)).2
      have h24 := hsm y hy
      rw [val_node _ hyb.1, ← hnod _ hy6]
      unfold Cs.lifted
      split <;> omega
    refine ⟨hpos, hsat, hfin hsat (by rw [hvx]; omega) (by rw [hvx]; exact hy)⟩
/-- where something does not fit, the witness satisfies the list with its sign, and the first level is greater in it -/
theorem un_wit {l : List Cn} {a b : List (Int × Int)} (hok : Cs.ok l) (ha : Lv.levelOk a = true) (hb : Lv.levelOk b = true) {S : Nat} {x : At} (h : exR l a b = some (S, x)) :
    Pos (witL (Cs.tab (sgL l (S : Int))) x.1) ∧ Cs.SatAll (Cs.valOf (witL (Cs.tab (sgL l (S : Int))) x.1)) (sgL l (S : Int)) ∧ Dc.ev (witL (Cs.tab (sgL l (S : Int))) x.1) b < Dc.ev (witL (Cs.tab (sgL l (S : Int))) x.1) a := by
  obtain ⟨hS, h1, _⟩ := exR_at h
  have hf : Cs.flat (sgL l (S : Int)) = true := by
    cases e : Cs.flat (sgL l (S : Int)) with
    | true => rfl
    | false => rw [ex1_no e] at h1; cases h1
  rw [ex1_yes hf] at h1
  exact un_witL rfl (sgL_ok hok (S : Int)) ha hb hS hf (exL_mem h1) (exL_no h1)
/-- comparison under constraints is what it says of envs -/
theorem un_sem {l : List Cn} {a b : List (Int × Int)} (hok : Cs.ok l) (ha : Lv.levelOk a = true) (hb : Lv.levelOk b = true) : exR l a b = none ↔ ∀ env : List Int, env.length = 5 → Pos env → Cs.SatAll (Cs.valOf env) l → Dc.ev env a ≤ Dc.ev env b := by
  constructor
  · intro h env h5 hp hs
    exact un_le hok ha hb h h5 hp hs
  · intro h
    cases e : exR l a b with
    | none => rfl
    | some r =>
      obtain ⟨S, x⟩ := r
      obtain ⟨h1, h2, h3⟩ := un_wit hok ha hb e
      have := h _ (witL_len _ _) h1 (sign_sat h1 h2).2
      omega
end Go.Proofs.YtgebjnoicgmdoaaGreatDoor.Un

namespace Go.Proofs.YtgebjnoicgmdoaaGreatDoor
open Nm (Pos)
open Cs (Cn)

theorem leUn_iff (l : List Cn) (a b : List (Int × Int)) : leUnR l a b = true ↔ consOkR l = true ∧ Lv.levelOk a = true ∧ Lv.levelOk b = true ∧ ∀ env : List Int, env.length = 5 → Pos env → Cs.SatAll (Cs.valOf env) l → Dc.ev env a ≤ Dc.ev env b := by
  constructor
  · intro h
    cases hc : consOkR l with
    | false => rw [leUnR_c hc] at h; cases h
    | true =>
      cases ha : Lv.levelOk a with
      | false => rw [leUnR_a ha] at h; cases h
      | true =>
        cases hb : Lv.levelOk b with
        | false => rw [leUnR_b hb] at h; cases h
        | true =>
          rw [leUnR_y hc ha hb, Option.isNone_iff_eq_none] at h
          exact ⟨rfl, rfl, rfl, (Un.un_sem (consOkR_ok hc).1 ha hb).1 h⟩
  · rintro ⟨hc, ha, hb, h⟩
    rw [leUnR_y hc ha hb, Option.isNone_iff_eq_none]
    exact (Un.un_sem (consOkR_ok hc).1 ha hb).2 h
theorem satAll_snoc {v : Nat → Int} {l : List Cn} {c : Cn} : Cs.SatAll v (l ++ [c]) ↔ Cs.SatAll v l ∧ Cs.Sat v c := by
  constructor
  · rintro ⟨h1, h2⟩
    exact ⟨⟨h1, fun x hx => h2 x (List.mem_append.2 (.inl hx))⟩, h2 c (List.mem_append.2 (.inr (List.mem_singleton.2 rfl)))⟩
  · rintro ⟨⟨h1, h2⟩, h3⟩
    refine ⟨h1, fun x hx => ?_⟩
    rcases List.mem_append.1 hx with h | h
    · exact h2 x h
    · rw [List.mem_singleton.1 h]
      exact h3
theorem consOk_snoc {l : List Cn} {c : Cn} (h : consOkR l = true) (hl : l.length < 24) (hc : Cs.cOk c = true) : consOkR (l ++ [c]) = true := by
  unfold consOkR at h ⊢
  rw [Bool.and_eq_true] at h ⊢
  refine ⟨?_, by simp; omega⟩
  rw [List.all_eq_true] at h ⊢
  intro x hx
  rcases List.mem_append.1 hx with q | q
  · exact h.1 x q
  · rw [List.mem_singleton.1 q]
    exact hc
theorem node_nat (p : Nat) : Cs.node (p : Int) = p + 1 := by unfold Cs.node; omega
theorem sat_more {v : Nat → Int} (hv : Cs.Val v) (p : Nat) : Cs.Sat v (-1, 1, (p : Int)) ↔ 0 < v (p + 1) := by
  unfold Cs.Sat
  rw [if_neg (show ¬ (1 : Int) = 0 by decide), if_pos (show (1 : Int) = 1 by decide)]
  show v (Cs.node (-1)) < v (Cs.node (p : Int)) ↔ _
  rw [node_nat, show Cs.node (-1) = 0 from rfl, hv.1]
end Go.Proofs.YtgebjnoicgmdoaaGreatDoor

namespace Go.Proofs.YtgebjnoicgmdoaaGreatDoor
open Nm

namespace Dc
end Dc
theorem evalU_ok {env : List Int} {l : List (Int × Int)} (he : envOk env = true) (h : Lv.levelOk l = true) : evalV (evalR env l) = .tuple #[.int .i64 (Dc.ev env l), .bool true] := by
  unfold evalR
  rw [if_pos he, Dc.ev_some h]
  rfl
theorem env_small {env : List Int} {m : Int} (h5 : env.length = 5) (hm : m ≤ 1000) (h : ∀ x ∈ env, 0 ≤ x ∧ x ≤ m) : envOk env = true ∧ Pos env := by
  refine ⟨?_, fun x hx => (h x hx).1⟩
  unfold envOk
  rw [Bool.and_eq_true, decide_eq_true_iff, List.all_eq_true]
  refine ⟨h5, fun x hx => ?_⟩
  have := h x hx
  simp
  omega
end Go.Proofs.YtgebjnoicgmdoaaGreatDoor

namespace Go.Proofs.YtgebjnoicgmdoaaGreatDoor
open Nm (Pos)
open Cs (Cn)

/-- the levels: each parameter stands for itself, but for the one -/
def oneL (u v p : Nat) : List (Int × Int) := [((4 : Int), if p = u then (v : Int) else (p : Int))]
def onesL (u v k : Nat) : List (List (Int × Int)) := (List.range k).map (oneL u v)
theorem onesL_len (u v k : Nat) : (onesL u v k).length = k := by simp [onesL]
theorem onesL_more (u v k : Nat) : onesL u v (k + 1) = onesL u v k ++ [oneL u v k] := by simp [onesL, List.range_succ]
theorem onesL_get (u v : Nat) {k p : Nat} (hp : p < k) : (onesL u v k).getD p [] = oneL u v p := by simp [onesL, List.getD_eq_getElem?_getD, hp]
/-- one token -/
def renT (u v : Nat) (t : Int × Int) : Int × Int := if t.1 = 4 ∧ t.2 = (u : Int) then (4, (v : Int)) else t
theorem renT_op (u v : Nat) (t : Int × Int) : (renT u v t).1 = t.1 := by
  unfold renT
  split
  · rename_i h; exact h.1.symm
  · rfl
theorem renT_ok {u v : Nat} (hu : u < 5) (hv : v < 5) (t : Int × Int) : Lv.tkOk (renT u v t) = Lv.tkOk t := by
  unfold renT
  split
  · rename_i h
    obtain ⟨a, b⟩ := t
    obtain ⟨h1, h2⟩ := h
    simp only at h1 h2
    subst h1; subst h2
    simp [Lv.tkOk]
    omega
  · rfl
theorem piece_one {u v : Nat} {t : Int × Int} (h : Lv.tkOk t = true) : piece (onesL u v 5) t = some [renT u v t] := by
  unfold piece renT
  obtain ⟨a, b⟩ := t
  simp [Lv.tkOk] at h
  by_cases h4 : a = 4
  · subst h4
    rw [if_pos rfl, if_pos (by rw [onesL_len]; show b < 5; omega)]
    show some ((onesL u v 5).getD b.toNat []) = _
    rw [onesL_get u v (by omega)]
    unfold oneL
    by_cases e : b = (u : Int)
    · rw [if_pos (by omega), if_pos ⟨rfl, e⟩]
    · rw [if_neg (by omega), if_neg (fun q => e q.2)]
      congr 3
      omega
  · rw [if_neg h4, if_neg (fun q => h4 q.1)]
theorem sub_one {u v : Nat} : ∀ {l : List (Int × Int)}, (∀ t ∈ l, Lv.tkOk t = true) → sub (onesL u v 5) l = some (l.map (renT u v))
  | [], _ => rfl
  | t :: r, h => by
    rw [sub, piece_one (h t List.mem_cons_self), sub_one fun x hx => h x (List.mem_cons_of_mem _ hx)]
    rfl
theorem hts_ren {u v : Nat} (hu : u < 5) (hv : v < 5) : ∀ (l : List (Int × Int)) (n : Int), Lv.hts (l.map (renT u v)) n = Lv.hts l n
  | [], _ => rfl
  | t :: r, n => by
    rw [List.map_cons, Lv.hts, Lv.hts, renT_ok hu hv, renT_op, hts_ren hu hv r]
theorem ren_ok {u v : Nat} (hu : u < 5) (hv : v < 5) (l : List (Int × Int)) : Lv.levelOk (l.map (renT u v)) = Lv.levelOk l := by
  unfold Lv.levelOk
  rw [hts_ren hu hv, List.length_map]
theorem ones_ok {u v : Nat} (hv : v < 5) : (onesL u v 5).all Lv.levelOk = true := by
  refine all_of fun j hj => ?_
  rw [onesL_len] at hj
  rw [onesL_get u v hj]
  have hz : ∀ z : Int, 0 ≤ z → z < 5 → Lv.levelOk [((4 : Int), z)] = true := fun z h0 h5 => by
    obtain rfl | rfl | rfl | rfl | rfl : z = 0 ∨ z = 1 ∨ z = 2 ∨ z = 3 ∨ z = 4 := by omega
    all_goals rfl
  unfold oneL
  split
  · exact hz _ (by omega) (by omega)
  · exact hz _ (by omega) (by omega)
theorem substR_one {u v : Nat} (hu : u < 5) (hv : v < 5) {l : List (Int × Int)} (h : Lv.levelOk l = true) : substR l (onesL u v 5) = some (l.map (renT u v)) := by
  have hk := h
  simp only [Lv.levelOk, Bool.and_eq_true, decide_eq_true_eq] at hk
  unfold substR
  rw [if_pos ⟨h, ones_ok hv⟩, sub_one (hts_all hk.2), Option.bind_some]
  unfold ifR
  rw [if_pos (by rw [ren_ok hu hv]; exact h)]
/-- in an env in which the two are equal a level keeps its value -/
theorem step_ren {u v : Nat} (hu : u < 5) (hv : v < 5) {env : List Int} (he : env.getD u 0 = env.getD v 0) (t : Int × Int) (st : List Int) : Lv.step env (renT u v t) st = Lv.step env t st := by
  unfold Lv.step
  rw [renT_ok hu hv, renT_op]
  by_cases h : t.1 = 4 ∧ t.2 = (u : Int)
  · have h2 : (renT u v t).2 = (v : Int) := by unfold renT; rw [if_pos h]
    have e : env.getD (renT u v t).2.toNat 0 = env.getD t.2.toNat 0 := by
      rw [h2, h.2, Int.toNat_natCast, Int.toNat_natCast]
      exact he.symm
    rw [e]
  · have h2 : renT u v t = t := if_neg h
    rw [h2]
theorem run_ren {u v : Nat} (hu : u < 5) (hv : v < 5) {env : List Int} (he : env.getD u 0 = env.getD v 0) : ∀ (l : List (Int × Int)) (st : List Int), Lv.run env (l.map (renT u v)) st = Lv.run env l st
  | [], _ => rfl
  | t :: r, st => by
    rw [List.map_cons, Lv.run, Lv.run, step_ren hu hv he]
    cases Lv.step env t st with
    | none => rfl
    | some s => exact run_ren hu hv he r s
theorem ev_ren {u v : Nat} (hu : u < 5) (hv : v < 5) {env : List Int} (he : env.getD u 0 = env.getD v 0) (l : List (Int × Int)) : Dc.ev env (l.map (renT u v)) = Dc.ev env l := by
  unfold Dc.ev Lv.eval
  rw [ren_ok hu hv, run_ren hu hv he]
theorem one_same {l : List Cn} {u v : Nat} {env : List Int} (h : Cs.SatAll (Cs.valOf env) (l ++ [((u : Int), 2, (v : Int))])) : env.getD u 0 = env.getD v 0 := by
  have h1 := (satAll_snoc.1 h).2
  unfold Cs.Sat at h1
  rw [if_neg (show ¬ (2 : Int) = 0 by decide), if_neg (show ¬ (2 : Int) = 1 by decide)] at h1
  have h2 : Cs.valOf env (Cs.node (u : Int)) = Cs.valOf env (Cs.node (v : Int)) := h1
  rw [node_nat, node_nat] at h2
  exact h2
theorem cOk_same {u v : Nat} (hu : u < 5) (hv : v < 5) : Cs.cOk ((u : Int), 2, (v : Int)) = true := by
  rw [Cs.cOk_iff]
  show (-1 ≤ (u : Int) ∧ (u : Int) < 5) ∧ (-1 ≤ (v : Int) ∧ (v : Int) < 5) ∧ (0 : Int) ≤ 2 ∧ (2 : Int) ≤ 2
  omega
section
variable {l : List Cn} {u v : Nat} {a b : List (Int × Int)}
theorem one_le (hu : u < 5) (hv : v < 5) : leUnR (l ++ [((u : Int), 2, (v : Int))]) (a.map (renT u v)) (b.map (renT u v)) = leUnR (l ++ [((u : Int), 2, (v : Int))]) a b := by
  rw [Bool.eq_iff_iff, leUn_iff, leUn_iff, ren_ok hu hv, ren_ok hu hv]
  constructor
  · rintro ⟨h1, h2, h3, h4⟩
    refine ⟨h1, h2, h3, fun env h5 hp hs => ?_⟩
    have := h4 env h5 hp hs
    rwa [ev_ren hu hv (one_same hs), ev_ren hu hv (one_same hs)] at this
  · rintro ⟨h1, h2, h3, h4⟩
    refine ⟨h1, h2, h3, fun env h5 hp hs => ?_⟩
    rw [ev_ren hu hv (one_same hs), ev_ren hu hv (one_same hs)]
    exact h4 env h5 hp hs
theorem one_eq (hu : u < 5) (hv : v < 5) (hc : consOkR (l ++ [((u : Int), 2, (v : Int))]) = true) (ha : Lv.levelOk a = true) : eqUnR (l ++ [((u : Int), 2, (v : Int))]) a (a.map (renT u v)) = true := by
  unfold eqUnR
  rw [Bool.and_eq_true, leUn_iff, leUn_iff, ren_ok hu hv]
  exact ⟨⟨hc, ha, ha, fun env h5 hp hs => by rw [ev_ren hu hv (one_same hs)]; exact Int.le_refl _⟩, hc, ha, ha, fun env h5 hp hs => by rw [ev_ren hu hv (one_same hs)]; exact Int.le_refl _⟩
end
end Go.Proofs.YtgebjnoicgmdoaaGreatDoor

namespace Go.Proofs.YtgebjnoicgmdoaaGreatDoor
open Go.RowKit

theorem info_level : (Tryz.prog.info? 53).map (fun i => (i.zero, i.size, i.bytes)) = some (some (.agg #[.slice none 0 0]), 1, 24) := by kernel_rfl

theorem TokOwn.tl {w : World} {g n : Nat} {l : List (Int × Int)} (h : TokOwn w g n l) : g < w.heap.size := by obtain ⟨_, cs, hblk, _⟩ := h; exact hblk.lt
theorem TokOwn.put {w : World} {g n : Nat} {l : List (Int × Int)} (h : TokOwn w g n l) {p : Addr} (hp : g ≠ p.block) (u : Value) : TokOwn (w.setCell p u) g n l := by
  obtain ⟨hl, cs, hblk, rest⟩ := h
  exact ⟨hl, cs, hblk.other hp u, rest⟩

/-- block g is a row of just n levels, those of ls, each with a row of tokens of its own; all of it lies in g .. hi - 1 -/
def LvlOwn (w : World) (g hi n : Nat) (ls : List (List (Int × Int))) : Prop :=
  ls.length = n ∧ g < hi ∧ hi ≤ w.heap.size ∧ ∃ gs : Nat → Nat, (∀ i, i < n → g < gs i ∧ gs i < hi) ∧ (∀ i j, i < j → j < n → gs i < gs j) ∧
    (∃ cs, Blk w g 53 cs ∧ cs.size = n ∧ ∀ i, i < n → cs[i]? = some (.slice (some ⟨gs i, 0, none⟩) (ls.getD i []).length (ls.getD i []).length)) ∧ ∀ i, i < n → TokOwn w (gs i) (ls.getD i []).length (ls.getD i [])

theorem LvlOwn.lt {w : World} {g hi n : Nat} {ls : List (List (Int × Int))} (h : LvlOwn w g hi n ls) : g + 1 ≤ w.heap.size := by have := h.2.1; have := h.2.2.1; omega
theorem LvlOwn.below {w w' : World} {g hi n B : Nat} {ls : List (List (Int × Int))} (h : LvlOwn w g hi n ls) (hb : Below B w w') (hB : hi ≤ B) : LvlOwn w' g hi n ls := by
  obtain ⟨h1, h2, h3, gs, h4, h5, ⟨cs, hblk, hs, hc⟩, h7⟩ := h
  have := hb.size
  exact ⟨h1, h2, by omega, gs, h4, h5, ⟨cs, hblk.below hb (by omega), hs, hc⟩, fun i hi' => (h7 i hi').below hb (by have := (h4 i hi').2; omega)⟩
theorem LvlOwn.reads {w : World} {g hi n : Nat} {ls : List (List (Int × Int))} (h : LvlOwn w g hi n ls) (hm : bulk ls ≤ 1048576) : LvlR w hi (some ⟨g, 0, none⟩) n ls := by
  obtain ⟨h1, h2, _, gs, h4, _, ⟨cs, hblk, hs, hc⟩, h7⟩ := h
  refine ⟨h1, fun _ => ⟨g, 0, rfl, h2, fun k hk => ⟨some ⟨gs k, 0, none⟩, (ls.getD k []).length, (ls.getD k []).length, ?_, (h7 k hk).reads.more (by have := (h4 k hk).2; omega), ?_⟩⟩⟩
  · rw [Nat.zero_add, hblk.cell]; exact hc k hk
  · have := tot_get ls k (by omega)
    unfold bulk at hm
    omega

theorem TokOwn.lt {w : World} {g n : Nat} {l : List (Int × Int)} (h : TokOwn w g n l) : g + 1 ≤ w.heap.size := h.tl
theorem TokOwn.mark {w w' : World} {g n base m k size : Nat} {e : TypeId} {v : Value} {l : List (Int × Int)} {lo hi : Nat} (h : TokOwn w g n l) (hm : MarkOut w base e size v m k w') (hv : InR v lo hi) (hd : g < lo ∨ hi ≤ g) : TokOwn w' g n l := by
  have hlt := h.lt
  obtain ⟨hl, cs, hblk, rest⟩ := h
  refine ⟨hl, cs, ?_, rest⟩
  exact (hm.1.block g (by omega) (fun he => by have := hv g he.symm; omega)).trans hblk
theorem LvlOwn.mark {w w' : World} {g h' n base m k size : Nat} {e : TypeId} {v : Value} {ls : List (List (Int × Int))} {lo hi : Nat} (h : LvlOwn w g h' n ls) (hm : MarkOut w base e size v m k w') (hv : InR v lo hi) (hd : h' ≤ lo ∨ hi ≤ g) : LvlOwn w' g h' n ls := by
  obtain ⟨h1, h2, h3, gs, h4, h5, ⟨cs, hblk, hs, hc⟩, h7⟩ := h
  exact ⟨h1, h2, by rw [hm.2.1]; exact h3, gs, h4, h5, ⟨cs, hblk.grown hm.1 (fun he => by have := hv g he.symm; omega), hs, hc⟩, fun i hi' => (h7 i hi').mark hm hv (by have := h4 i hi'; omega)⟩

/-- nothing outside of g .. hi - 1 has turned -/
def LKept (w : World) (g hi : Nat) (wr : World) : Prop :=
  (∀ (B : Nat) (w0 : World), Below B w0 w → B ≤ g → Below B w0 wr) ∧
  (∀ (base : Nat) (e : TypeId) (size n : Nat) (u : Value) (xs : List Value) (lo' hi' : Nat), w.ownsRow base e size u n xs → InR u lo' hi' → (hi ≤ lo' ∨ hi' ≤ g) → wr.ownsRow base e size u n xs) ∧ wr.heap.size = w.heap.size
theorem LKept.below {w wr : World} {g hi : Nat} (h : LKept w g hi wr) {B : Nat} {w0 : World} (hb : Below B w0 w) (hB : B ≤ g) : Below B w0 wr := h.1 B w0 hb hB
theorem LKept.kept {w wr : World} {g hi : Nat} (h : LKept w g hi wr) {base : Nat} {e : TypeId} {size n : Nat} {u : Value} {xs : List Value} {lo' hi' : Nat} (hu : w.ownsRow base e size u n xs) (hi1 : InR u lo' hi') (hd : hi ≤ lo' ∨ hi' ≤ g) : wr.ownsRow base e size u n xs :=
  h.2.1 base e size n u xs lo' hi' hu hi1 hd
theorem LKept.size {w wr : World} {g hi : Nat} (h : LKept w g hi wr) : w.heap.size ≤ wr.heap.size := by rw [h.2.2]; exact Nat.le_refl _
theorem LKept.step {w wr w1 : World} {g hi base size n k : Nat} {e : TypeId} {v : Value} {lo h' : Nat} (h : LKept w g hi wr) (hg : g ≤ w.heap.size) (hm : MarkOut wr base e size v n k w1) (hv : InR v lo h') (h1 : g ≤ lo) (h2 : h' ≤ hi) : LKept w g hi w1 :=
  ⟨fun B w0 hb hB => markBelow (h.1 B w0 hb hB) hm hv (by omega) (by rw [h.2.2]; omega), fun base' e' size' n' u xs lo' hi' hu hi1 hd => markKept (h.kept hu hi1 hd) hm hv hi1 (by omega), by rw [hm.2.1, h.2.2]⟩

end Go.Proofs.YtgebjnoicgmdoaaGreatDoor

namespace Go.Proofs.YtgebjnoicgmdoaaGreatDoor
open Go.RowKit

/-- a row of levels of one's own, each with a row of tokens of its own -/
def LvlD (w : World) (base g k cap : Nat) (ls : List (List (Int × Int))) : Prop :=
  ls.length = k ∧ ∃ vals : List Value, w.ownsRow base 53 1 (.slice (some ⟨g, 0, none⟩) k cap) k vals ∧
    ∀ i, i < k → ∃ gi ci, vals[i]? = some (.slice (some ⟨gi, 0, none⟩) (ls.getD i []).length ci) ∧ OwnT w base (some ⟨gi, 0, none⟩) (ls.getD i []).length ci (ls.getD i []) ∧ (ls.getD i []).length ≤ 25
theorem LvlD.kp {bc base g k cap : Nat} {w w' : World} {ls : List (List (Int × Int))} (h : LvlD w base g k cap ls) (hk : Kp bc w w') (hb : bc < base) : LvlD w' base g k cap ls := by
  obtain ⟨h1, vals, h2, h3⟩ := h
  refine ⟨h1, vals, Kp.own h2 hk hb, fun i hi => ?_⟩
  obtain ⟨gi, ci, q1, q2, q3⟩ := h3 i hi
  exact ⟨gi, ci, q1, Kp.own q2 hk hb, q3⟩
theorem LvlD.below {base g k cap : Nat} {w w' : World} {ls : List (List (Int × Int))} (h : LvlD w base g k cap ls) (hb : Below w.heap.size w w') : LvlD w' base g k cap ls := by
  obtain ⟨h1, vals, h2, h3⟩ := h
  refine ⟨h1, vals, own_below' h2 hb, fun i hi => ?_⟩
  obtain ⟨gi, ci, q1, q2, q3⟩ := h3 i hi
  exact ⟨gi, ci, q1, own_below' q2 hb, q3⟩
theorem LvlD.base {base base' g k cap : Nat} {w : World} {ls : List (List (Int × Int))} (h : LvlD w base g k cap ls) (hb : base' ≤ base) : LvlD w base' g k cap ls := by
  obtain ⟨h1, vals, h2, h3⟩ := h
  refine ⟨h1, vals, own_base h2 hb, fun i hi => ?_⟩
  obtain ⟨gi, ci, q1, q2, q3⟩ := h3 i hi
  exact ⟨gi, ci, q1, own_base q2 hb, q3⟩
theorem LvlD.reads {base g k cap : Nat} {w : World} {ls : List (List (Int × Int))} (h : LvlD w base g k cap ls) : LvlR w w.heap.size (some ⟨g, 0, none⟩) k ls := by
  obtain ⟨h1, vals, h2, h3⟩ := h
  refine ⟨h1, fun _ => ⟨g, 0, rfl, (h2.lt g rfl).2, fun i hi => ?_⟩⟩
  obtain ⟨gi, ci, q1, q2, q3⟩ := h3 i hi
  refine ⟨_, _, ci, ?_, OwnT.reads q2, by omega⟩
  have := h2.cells (g := g) rfl i _ q1
  rw [own_adds] at this
  rw [Nat.zero_add]
  exact this
theorem LvlD.bulk {base g k cap : Nat} {w : World} {ls : List (List (Int × Int))} (h : LvlD w base g k cap ls) (hk : k ≤ 10) : bulk ls ≤ 1048576 := by
  obtain ⟨h1, vals, h2, h3⟩ := h
  have : ∀ m, m ≤ k → tot (ls.take m) ≤ m * 25 := by
    intro m
    induction m with
    | zero => intro _; simp [tot]
    | succ m ih =>
      intro hm
      obtain ⟨_, _, _, _, q3⟩ := h3 m (by omega)
      rw [tot_take ls m (by omega)]
      have := ih (by omega)
      omega
  have h4 := this k (Nat.le_refl _)
  rw [List.take_of_length_le (by omega)] at h4
  unfold Proofs.YtgebjnoicgmdoaaGreatDoor.bulk
  omega
/-- one level more -/
theorem lvlD_push {base g k cap g2 cap2 g1 c1 : Nat} {w0 w3 : World} {ls : List (List (Int × Int))} {l : List (Int × Int)} {vals : List Value} (hl : ls.length = k)
    (hown' : w3.ownsRow base 53 1 (.slice (some ⟨g2, 0, none⟩) (k + 1) cap2) (k + 1) (vals ++ [.slice (some ⟨g1, 0, none⟩) l.length c1]))
    (h2 : w0.ownsRow base 53 1 (.slice (some ⟨g, 0, none⟩) k cap) k vals)
    (h3 : ∀ i, i < k → ∃ gi ci, vals[i]? = some (.slice (some ⟨gi, 0, none⟩) (ls.getD i []).length ci) ∧ OwnT w0 base (some ⟨gi, 0, none⟩) (ls.getD i []).length ci (ls.getD i []) ∧ (ls.getD i []).length ≤ 25)
    (ho : OwnT w0 base (some ⟨g1, 0, none⟩) l.length c1 l) (h25 : l.length ≤ 25) (hg : w0.grownBy w3 (Value.slice (some ⟨g, 0, none⟩) k cap).ownBlock) : LvlD w3 base g2 (k + 1) cap2 (ls ++ [l]) := by
  obtain ⟨cs, hblk⟩ := own_blk h2 g rfl
  have hvl : vals.length = k := by have := h2.1; omega
  have keep : ∀ {gi ci m : Nat} {t : List (Int × Int)}, OwnT w0 base (some ⟨gi, 0, none⟩) m ci t → OwnT w3 base (some ⟨gi, 0, none⟩) m ci t := by
    intro gi ci m t h
    have hne := own_apart h hblk (by decide)
    exact h.kept hg (.inr (fun he => hne he))
  refine ⟨by simp [hl], _, hown', fun i hi => ?_⟩
  by_cases hik : i < k
  · obtain ⟨gi, ci, q1, q2, q3⟩ := h3 i hik
    have hg' : (ls ++ [l]).getD i [] = ls.getD i [] := by
      rw [List.getD_eq_getElem?_getD, List.getElem?_append_left (by omega), ← List.getD_eq_getElem?_getD]
    rw [hg']
    exact ⟨gi, ci, by rw [List.getElem?_append_left (by omega)]; exact q1, keep q2, q3⟩
  · obtain rfl : i = k := by omega
    have hg' : (ls ++ [l]).getD i [] = l := by
      rw [List.getD_eq_getElem?_getD, List.getElem?_append_right (by omega), hl]
      simp
    rw [hg']
    exact ⟨g1, c1, by rw [List.getElem?_append_right (by omega), hvl]; simp, keep ho, h25⟩

end Go.Proofs.YtgebjnoicgmdoaaGreatDoor
