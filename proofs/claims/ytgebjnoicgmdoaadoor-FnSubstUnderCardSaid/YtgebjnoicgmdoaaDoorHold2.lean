/- Plain facts: what comparison under constraints says of envs; the witness satisfies the list and exceeds. -/
/- What LeUnder says of envs; a list split at a parameter; LevelLe. -/
/- Plain facts: Counter's env is one in which the first level is greater; an env of small numbers. -/
/- Plain facts of FnSubstUnder: the pairs hold in an env just where the list holds of the values of the levels. -/
/- ConsHold, of the program and of the reference model. -/
import Derived.Test.YtgebjnoicgmdoaaDoorUnMath
import Derived.Test.YtgebjnoicgmdoaaDoorSide
import Derived.Test.YtgebjnoicgmdoaaDoorDcMath4
import Derived.Test.YtgebjnoicgmdoaaDoorSpec
import Derived.Test.YtgebjnoicgmdoaaDoorUnPairs
import Derived.Test.YtgebjnoicgmdoaaDoorCSubW

namespace Go.Proofs.YtgebjnoicgmdoaaDoor.Un
open Go.Proofs.YtgebjnoicgmdoaaDoor.Nm
open Go.Proofs.YtgebjnoicgmdoaaDoor.Cs (Cn Tb)

theorem rok_mem {s : Int} {l : List At} (h : ROk s l) {x : At} (hx : x ∈ l) : -1 ≤ x.1 ∧ x.1 < 5 ∧ 0 ≤ x.2 ∧ x.2 ≤ 1000 ∧ (x.1 = -1 ∨ Sg.has s x.1 = true) := by
  obtain ⟨k, hk, rfl⟩ := List.mem_iff_getElem.1 hx
  have e : l.getD k (0, 0) = l[k] := by rw [List.getD_eq_getElem?_getD, List.getElem?_eq_getElem hk, Option.getD_some]
  have h1 := (atOk_iff _).1 (h.2.2.1 k hk)
  have h2 := h.2.2.2.2.1 k hk
  rw [e] at h1 h2
  exact ⟨h1.1, h1.2.1, h1.2.2.1, h1.2.2.2, h2⟩
theorem val_node (env : List Int) {x : At} (h : -1 ≤ x.1) : val env x = Cs.valOf env (Cs.node x.1) + x.2 := by
  unfold val Cs.node
  by_cases e : x.1 = -1
  · rw [if_pos e, e]
    simp [Cs.valOf]
  · rw [if_neg e, show (x.1 + 1).toNat = x.1.toNat + 1 by omega]
    rfl
theorem leB_iff (T : Tb) (x y : At) : leB T x y = true ↔ 0 ≤ T (Cs.node x.1) (Cs.node y.1) ∧ x.2 ≤ T (Cs.node x.1) (Cs.node y.1) + y.2 := by simp [leB]
theorem sat_sign {l : List Cn} {env : List Int} {S : Nat} (he : EnvOf (S : Int) env) (hs : Cs.SatAll (Cs.valOf env) l) : Cs.SatAll (Cs.valOf env) (sgL l (S : Int)) := by
  rw [sgL, Cs.signed_sat]
  refine ⟨hs, fun p hp => ?_⟩
  show Sg.has (S : Int) (p : Int) = true ↔ 0 < env.getD p 0
  constructor
  · intro h
    have := he.2.1 p h
    rw [show ((p : Int)).toNat = p by omega] at this
    omega
  · intro h
    cases e : Sg.has (S : Int) (p : Int) with
    | true => rfl
    | false =>
      have := he.2.2 p (by omega) (by omega) e
      rw [show ((p : Int)).toNat = p by omega] at this
      omega
theorem sign_sat {l : List Cn} {env : List Int} {S : Nat} (hp : Pos env) (h : Cs.SatAll (Cs.valOf env) (sgL l (S : Int))) : EnvOf (S : Int) env ∧ Cs.SatAll (Cs.valOf env) l := by
  rw [sgL, Cs.signed_sat] at h
  refine ⟨⟨hp, fun p hh => ?_, fun p h0 h5 hh => ?_⟩, h.1⟩
  · have hb := has_bd hh
    have := (h.2 p.toNat (by omega)).1 (by rw [show ((p.toNat : Nat) : Int) = p by omega]; exact hh)
    have h1 : 0 < env.getD p.toNat 0 := this
    omega
  · have := (h.2 p.toNat (by omega))
    rw [show ((p.toNat : Nat) : Int) = p by omega, hh] at this
    have h1 : ¬ 0 < env.getD p.toNat 0 := fun q => by have := this.2 q; cases this
    have := hp.get p.toNat
    omega
/-- where all fits, the first level is at most the second one in every env that satisfies the list -/
theorem un_le {l : List Cn} {a b : List (Int × Int)} (hok : Cs.ok l) (ha : Lv.levelOk a = true) (hb : Lv.levelOk b = true) (h : exR l a b = none) {env : List Int} (h5 : env.length = 5) (hp : Pos env) (hs : Cs.SatAll (Cs.valOf env) l) : Dc.ev env a ≤ Dc.ev env b := by
  obtain ⟨S, hS, he⟩ := Dc.sign_of h5 hp
  have hss := sat_sign he hs
  have hf : Cs.flat (sgL l (S : Int)) = true := (Cs.sat_iff (sgL_ok hok _)).2 ⟨_, hss⟩
  have h1 := exR_no h S hS
  rw [ex1_yes hf, exL_none] at h1
  have hk := Cs.tab_keeps (sgL_ok hok _) hss
  have hra := Dc.rs_rok ha (Dc.isSign_nat hS)
  have hrb := Dc.rs_rok hb (Dc.isSign_nat hS)
  rw [Dc.ev_resid he ha, Dc.ev_resid he hb]
  refine value_le (value_ge _ _) fun x hx => ?_
  have h2 := h1 x hx
  unfold atB at h2
  rw [List.any_eq_true] at h2
  obtain ⟨y, hy, hle⟩ := h2
  rw [leB_iff] at hle
  have h3 := hk _ _ hle.1
  refine Int.le_trans ?_ (value_mem hy)
  rw [val_node env (rok_mem hra hx).1, val_node env (rok_mem hrb hy).1]
  omega
theorem witL_len (T : Tb) (p : Int) : (witL T p).length = 5 := by simp [witL]
theorem witL_get (T : Tb) (p : Int) {j : Nat} (hj : j < 5) : (witL T p).getD j 0 = if 0 ≤ p ∧ 0 ≤ T (Cs.node p) (j + 1) then max (T 0 (j + 1)) (200 + T (Cs.node p) (j + 1)) else T 0 (j + 1) := by
  simp [witL, List.getD_eq_getElem?_getD, hj]
theorem witL_pos {L : List Cn} (p : Int) : Pos (witL (Cs.tab L) p) := fun x hx => by
  obtain ⟨j, _, rfl⟩ := List.mem_map.1 hx
  have := Cs.tab_zero L (j + 1)
  split <;> omega
theorem witL_least (L : List Cn) {p : Int} (hp : p < 0) : witL (Cs.tab L) p = Cs.leastEnv L := by
  unfold witL Cs.leastEnv
  apply List.map_congr_left
  intro j _
  rw [if_neg (fun h => by omega)]
theorem sat_of_nodes {v u : Nat → Int} {l : List Cn} (hok : Cs.ok l) (hu : Cs.Val u) (h : ∀ x, x < 6 → v x = u x) (hs : Cs.SatAll v l) : Cs.SatAll u l :=
  ⟨hu, fun c hc => (Cs.sat_congr (hok c hc) h).1 (hs.2 c hc)⟩
theorem wit_nodes {L : List Cn} (hf : Cs.flat L = true) {p : Int} (hp : 0 ≤ p) (h0 : Cs.tab L (Cs.node p) 0 < 0) : ∀ x, x < 6 → Cs.lifted L (Cs.node p) 200 x = Cs.valOf (witL (Cs.tab L) p) x := by
  intro x hx
  cases x with
  | zero =>
    unfold Cs.lifted
    rw [if_neg (by omega)]
    exact Cs.tab_diag hf (by omega)
  | succ j =>
    show _ = (witL (Cs.tab L) p).getD j 0
    rw [witL_get _ _ (by omega)]
    unfold Cs.lifted
    by_cases h : 0 ≤ Cs.tab L (Cs.node p) (j + 1)
    · rw [if_pos h, if_pos ⟨hp, h⟩]
    · rw [if_neg h, if_neg (fun q => h q.2)]
set_option maxHeartbeats 1600000 in
theorem un_witL {l L : List Cn} {a b : List (Int × Int)} {S : Nat} {x : At} (hLe : sgL l (S : Int) = L) (hL : Cs.ok L) (ha : Lv.levelOk a = true) (hb : Lv.levelOk b = true) (hS : S < 32) (hf : Cs.flat L = true) (hmem : x ∈ Dc.rs a (S : Int)) (hno : atB (Cs.tab L) x (Dc.rs b (S : Int)) = false) :
    Pos (witL (Cs.tab L) x.1) ∧ Cs.SatAll (Cs.valOf (witL (Cs.tab L) x.1)) L ∧ Dc.ev (witL (Cs.tab L) x.1) b < Dc.ev (witL (Cs.tab L) x.1) a := by
  have hra := Dc.rs_rok ha (Dc.isSign_nat hS)
  have hrb := Dc.rs_rok hb (Dc.isSign_nat hS)
  have hx := rok_mem hra hmem
  have hleast := Cs.leastEnv_sat hL hf
  have hsig : ∀ p : Nat, p < 5 → (Sg.has (S : Int) (p : Int) = true ↔ 0 < Cs.valOf (Cs.leastEnv L) (p + 1)) := by
    subst hLe
    exact (Cs.signed_sat.1 hleast).2
  have hpos : Pos (witL (Cs.tab L) x.1) := witL_pos x.1
  have hno' : ∀ y ∈ Dc.rs b (S : Int), ¬ (0 ≤ Cs.tab L (Cs.node x.1) (Cs.node y.1) ∧ x.2 ≤ Cs.tab L (Cs.node x.1) (Cs.node y.1) + y.2) := fun y hy q => by
    unfold atB at hno
    rw [List.any_eq_false] at hno
    exact hno y hy ((leB_iff _ _ _).2 q)
  have hsm := Dc.rs_small (s := (S : Int)) hb
  have hfin : Cs.SatAll (Cs.valOf (witL (Cs.tab L) x.1)) L → (0 ≤ val (witL (Cs.tab L) x.1) x - 1) → (∀ y ∈ Dc.rs b (S : Int), val (witL (Cs.tab L) x.1) y ≤ val (witL (Cs.tab L) x.1) x - 1) → Dc.ev (witL (Cs.tab L) x.1) b < Dc.ev (witL (Cs.tab L) x.1) a := fun hsat h0 hy => by
    have he := (sign_sat (l := l) (S := S) hpos (by rw [hLe]; exact hsat)).1
    rw [Dc.ev_resid he ha, Dc.ev_resid he hb]
    have q1 := value_le h0 hy
    have q2 := value_mem (env := witL (Cs.tab L) x.1) hmem
    omega
  by_cases hx0 : x.1 < 0
  · have hx1 : x.1 = -1 := by omega
    have hn : Cs.node x.1 = 0 := by rw [hx1]; rfl
    have hsat : Cs.SatAll (Cs.valOf (witL (Cs.tab L) x.1)) L := by rw [witL_least L hx0]; exact hleast
    have hvx : val (witL (Cs.tab L) x.1) x = x.2 := by unfold val; rw [if_pos hx1]
    have hy : ∀ y ∈ Dc.rs b (S : Int), val (witL (Cs.tab L) x.1) y ≤ x.2 - 1 := fun y hy => by
      have hyb := rok_mem hrb hy
      have hne := hno' y hy
      rw [hn] at hne
      have z := Cs.tab_zero L (Cs.node y.1)
      rw [val_node _ hyb.1, witL_least L hx0, Cs.valOf_least hf _ (Cs.node_lt hyb.1 hyb.2.1)]
      unfold Cs.least
      omega
    have h1x : 0 ≤ x.2 - 1 := by
      obtain ⟨y, hym⟩ : ∃ y, y ∈ Dc.rs b (S : Int) := by
        have := hrb.2.1
        exact ⟨(Dc.rs b (S : Int))[0], List.getElem_mem (by omega)⟩
      have hyb := rok_mem hrb hym
      have hne := hno' y hym
      rw [hn] at hne
      have z := Cs.tab_zero L (Cs.node y.1)
      omega
    refine ⟨hpos, hsat, hfin hsat (by rw [hvx]; exact h1x) (by rw [hvx]; exact hy)⟩
  · have hx0' : 0 ≤ x.1 := by omega
    have hnx : Cs.node x.1 = x.1.toNat + 1 := by unfold Cs.node; omega
    have hi : Cs.node x.1 < 6 := Cs.node_lt hx.1 hx.2.1
    have hhas : Sg.has (S : Int) x.1 = true := by
      rcases hx.2.2.2.2 with q | q
      · omega
      · exact q
    have hvi : 0 < Cs.tab L 0 (Cs.node x.1) := by
      have q := (hsig x.1.toNat (by omega)).1 (by rw [show ((x.1.toNat : Nat) : Int) = x.1 by omega]; exact hhas)
      rw [← hnx, Cs.valOf_least hf _ hi] at q
      exact q
    have ht0 : Cs.tab L (Cs.node x.1) 0 < 0 := by
      rcases Int.lt_or_le (Cs.tab L (Cs.node x.1) 0) 0 with q | q
      · exact q
      · have c := Cs.tab_closed hf (i := 0) (j := 0) (k := Cs.node x.1) (by omega) (by omega) hi (by omega) q
        have d := Cs.tab_diag hf (i := 0) (by omega)
        omega
    have hnod := wit_nodes hf hx0' ht0
    have hsat : Cs.SatAll (Cs.valOf (witL (Cs.tab L) x.1)) L := sat_of_nodes hL (Cs.valOf_val fun p => hpos.get p) hnod (Cs.lifted_sat hL hf hi ht0 200)
    have hdi := Cs.tab_diag hf hi
    have hb0 := (Cs.tab_bd hf 0 (Cs.node x.1)).2
    have hvx : val (witL (Cs.tab L) x.1) x = 200 + x.2 := by
      rw [val_node _ hx.1, ← hnod _ hi]
      unfold Cs.lifted
      rw [if_pos (by omega)]
      omega
    have hy : ∀ y ∈ Dc.rs b (S : Int), val (witL (Cs.tab L) x.1) y ≤ 200 + x.2 - 1 := fun y hy => by
      have hyb := rok_mem hrb hy
      have hy6 : Cs.node y.1 < 6 := Cs.node_lt hyb.1 hyb.2.1
      have hne := hno' y hy
      have hbd := (Cs.tab_bd hf 0 (Cs.node y.1)).2
      have h24 := hsm y hy
      rw [val_node _ hyb.1, ← hnod _ hy6]
      unfold Cs.lifted
      split <;> omega
    refine ⟨hpos, hsat, hfin hsat (by rw [hvx]; omega) (by rw [hvx]; exact hy)⟩
/-- where something does not fit, the witness satisfies the list with its sign, and the first level is greater in it -/
theorem un_wit {l : List Cn} {a b : List (Int × Int)} (hok : Cs.ok l) (ha : Lv.levelOk a = true) (hb : Lv.levelOk b = true) {S : Nat} {x : At} (h : exR l a b = some (S, x)) :
    Pos (witL (Cs.tab (sgL l (S : Int))) x.1) ∧ Cs.SatAll (Cs.valOf (witL (Cs.tab (sgL l (S : Int))) x.1)) (sgL l (S : Int)) ∧ Dc.ev (witL (Cs.tab (sgL l (S : Int))) x.1) b < Dc.ev (witL (Cs.tab (sgL l (S : Int))) x.1) a := by
  obtain ⟨hS, h1, _⟩ := exR_at h
  have hf : Cs.flat (sgL l (S : Int)) = true := by
    cases e : Cs.flat (sgL l (S : Int)) with
    | true => rfl
    | false => rw [ex1_no e] at h1; cases h1
  rw [ex1_yes hf] at h1
  exact un_witL rfl (sgL_ok hok (S : Int)) ha hb hS hf (exL_mem h1) (exL_no h1)
/-- comparison under constraints is what it says of envs -/
theorem un_sem {l : List Cn} {a b : List (Int × Int)} (hok : Cs.ok l) (ha : Lv.levelOk a = true) (hb : Lv.levelOk b = true) : exR l a b = none ↔ ∀ env : List Int, env.length = 5 → Pos env → Cs.SatAll (Cs.valOf env) l → Dc.ev env a ≤ Dc.ev env b := by
  constructor
  · intro h env h5 hp hs
    exact un_le hok ha hb h h5 hp hs
  · intro h
    cases e : exR l a b with
    | none => rfl
    | some r =>
      obtain ⟨S, x⟩ := r
      obtain ⟨h1, h2, h3⟩ := un_wit hok ha hb e
      have := h _ (witL_len _ _) h1 (sign_sat h1 h2).2
      omega
end Go.Proofs.YtgebjnoicgmdoaaDoor.Un

namespace Go.Proofs.YtgebjnoicgmdoaaDoor
open Nm (Pos)
open Cs (Cn)

theorem leUn_iff (l : List Cn) (a b : List (Int × Int)) : leUnR l a b = true ↔ consOkR l = true ∧ Lv.levelOk a = true ∧ Lv.levelOk b = true ∧ ∀ env : List Int, env.length = 5 → Pos env → Cs.SatAll (Cs.valOf env) l → Dc.ev env a ≤ Dc.ev env b := by
  constructor
  · intro h
    cases hc : consOkR l with
    | false => rw [leUnR_c hc] at h; cases h
    | true =>
      cases ha : Lv.levelOk a with
      | false => rw [leUnR_a ha] at h; cases h
      | true =>
        cases hb : Lv.levelOk b with
        | false => rw [leUnR_b hb] at h; cases h
        | true =>
          rw [leUnR_y hc ha hb, Option.isNone_iff_eq_none] at h
          exact ⟨rfl, rfl, rfl, (Un.un_sem (consOkR_ok hc).1 ha hb).1 h⟩
  · rintro ⟨hc, ha, hb, h⟩
    rw [leUnR_y hc ha hb, Option.isNone_iff_eq_none]
    exact (Un.un_sem (consOkR_ok hc).1 ha hb).2 h
end Go.Proofs.YtgebjnoicgmdoaaDoor

namespace Go.Proofs.YtgebjnoicgmdoaaDoor
open Nm

namespace Dc
end Dc
theorem evalU_ok {env : List Int} {l : List (Int × Int)} (he : envOk env = true) (h : Lv.levelOk l = true) : evalV (evalR env l) = .tuple #[.int .i64 (Dc.ev env l), .bool true] := by
  unfold evalR
  rw [if_pos he, Dc.ev_some h]
  rfl
theorem env_small {env : List Int} {m : Int} (h5 : env.length = 5) (hm : m ≤ 1000) (h : ∀ x ∈ env, 0 ≤ x ∧ x ≤ m) : envOk env = true ∧ Pos env := by
  refine ⟨?_, fun x hx => (h x hx).1⟩
  unfold envOk
  rw [Bool.and_eq_true, decide_eq_true_iff, List.all_eq_true]
  refine ⟨h5, fun x hx => ?_⟩
  have := h x hx
  simp
  omega
end Go.Proofs.YtgebjnoicgmdoaaDoor

namespace Go.Proofs.YtgebjnoicgmdoaaDoor
open Nm (Pos)
open Cs (Cn)

/-- the values of the levels in an env, the first k of them -/
def inE (env : List Int) (ls : List (List (Int × Int))) (k : Nat) : List Int := (List.range 5).map fun j => if j < k then Dc.ev env (ls.getD j []) else 0
theorem inE_len (env : List Int) (ls : List (List (Int × Int))) (k : Nat) : (inE env ls k).length = 5 := by simp [inE]
theorem inE_zero (env : List Int) (ls : List (List (Int × Int))) : inE env ls 0 = [0, 0, 0, 0, 0] := rfl
theorem inE_at (env : List Int) (ls : List (List (Int × Int))) {j k : Nat} (hj : j < 5) (hk : k ≤ j) : (inE env ls k)[j]? = some 0 := by
  simp only [inE, List.getElem?_map, List.getElem?_range hj, Option.map_some]
  rw [if_neg (by omega)]
theorem inE_set (env : List Int) (ls : List (List (Int × Int))) {k : Nat} (_ : k < 5) : (inE env ls k).set k (Dc.ev env (ls.getD k [])) = inE env ls (k + 1) := by
  apply List.ext_getElem (by simp [inE])
  intro i h1 h2
  rw [List.getElem_set]
  simp only [inE, List.getElem_map, List.getElem_range]
  by_cases e : k = i
  · subst e
    rw [if_pos rfl, if_pos (by omega)]
  · rw [if_neg e]
    by_cases c : i < k
    · rw [if_pos c, if_pos (by omega)]
    · rw [if_neg c, if_neg (by omega)]
theorem ev_bad {env : List Int} {l : List (Int × Int)} (h : Lv.levelOk l = false) : Dc.ev env l = 0 := by
  unfold Dc.ev Lv.eval
  rw [if_neg (by rw [h]; decide)]
  rfl
theorem inE_end {env : List Int} {ls : List (List (Int × Int))} {k : Nat} (h : ls.length ≤ k) : inE env ls k = inE env ls 5 := by
  unfold inE
  apply List.map_congr_left
  intro j hj
  have := List.mem_range.1 hj
  rw [if_pos this]
  by_cases e : j < k
  · rw [if_pos e]
  · rw [if_neg e, List.getD_eq_getElem?_getD, List.getElem?_eq_none (by omega)]
    exact (ev_bad rfl).symm
theorem eval_any {env : List Int} (he : envOk env = true) (l : List (Int × Int)) : evalV (evalR env l) = .tuple #[.int .i64 (Dc.ev env l), .bool (Lv.levelOk l)] := by
  cases h : Lv.levelOk l with
  | true => exact evalU_ok he h
  | false =>
    rw [ev_bad h]
    unfold evalR Lv.eval
    rw [if_pos he, if_neg (by rw [h]; decide)]
    rfl
theorem ev_small {env : List Int} {l : List (Int × Int)} (h5 : env.length = 5) (he : ∀ x ∈ env, 0 ≤ x ∧ x ≤ 4) : 0 ≤ Dc.ev env l ∧ Dc.ev env l ≤ 1000 := by
  cases h : Lv.levelOk l with
  | false => rw [ev_bad h]; omega
  | true =>
    have hv := Dc.ev_some (env := env) h
    have h1 := eval_bound (b := 4) (by omega) (fun x hx => (he x hx).2) hv
    have h2 := (succs_bd l).2
    have h3 : l.length ≤ 24 := by have q := h; simp only [Lv.levelOk, Bool.and_eq_true, decide_eq_true_eq] at q; exact q.1.2
    obtain ⟨S, hS, heo⟩ := Dc.sign_of h5 (fun x hx => (he x hx).1)
    have h4 : 0 ≤ Dc.ev env l := by rw [Dc.ev_resid heo h]; exact Nm.value_ge _ _
    omega
theorem inE_ok {env : List Int} {ls : List (List (Int × Int))} (h5 : env.length = 5) (he : ∀ x ∈ env, 0 ≤ x ∧ x ≤ 4) : envOk (inE env ls 5) = true ∧ Pos (inE env ls 5) :=
  env_small (m := 1000) (inE_len _ _ _) (by omega) fun x hx => by
    obtain ⟨j, hj, rfl⟩ := List.mem_map.1 hx
    have := ev_small (env := env) (l := ls.getD j []) h5 he
    split <;> omega
theorem inE_get (env : List Int) (ls : List (List (Int × Int))) {p : Nat} (hp : p < 5) : (inE env ls 5).getD p 0 = Dc.ev env (ls.getD p []) := by
  rw [List.getD_eq_getElem?_getD]
  simp only [inE, List.getElem?_map, List.getElem?_range hp, Option.map_some]
  rw [if_pos hp]
  rfl
/-- a side's level has the value that the list sees -/
theorem side_val {env : List Int} {ls : List (List (Int × Int))} {p : Int} {q : List (Int × Int)} (h : sdR ls p = some q) (h5 : p < 5) : Dc.ev env q = valR (inE env ls 5) p := by
  unfold sdR at h
  unfold valR
  by_cases e : p < 0
  · rw [if_pos e] at h ⊢
    injection h with h
    subst h
    rfl
  · rw [if_neg e] at h ⊢
    split at h
    · injection h with h
      subst h
      rw [inE_get env ls (by omega)]
    · cases h
/-- a pair holds in an env -/
def prB (env : List Int) (t : Pr) : Bool := decide (Dc.ev env t.1 < Dc.ev env t.2.2) || (!t.2.1 && (Dc.ev env t.1 == Dc.ev env t.2.2))
theorem sub1_hold {env : List Int} {ls : List (List (Int × Int))} {c : Cn} {qs : List Pr} (hc : Cs.cOk c = true) (h : sub1 ls c = some qs) : qs.all (prB env) = holdR (inE env ls 5) c := by
  obtain ⟨⟨u0, u5⟩, ⟨v0, v5⟩, r0, r2⟩ := (Cs.cOk_iff c).1 hc
  obtain ⟨U, R, V⟩ := c
  simp only at u0 u5 v0 v5 r0 r2
  cases hu : sdR ls U with
  | none => rw [sub1_u hu] at h; cases h
  | some x =>
    cases hv : sdR ls V with
    | none => rw [sub1_v hv] at h; cases h
    | some y =>
      rw [sub1_y hu hv] at h
      injection h with h
      subst h
      have hx := side_val (env := env) hu u5
      have hy := side_val (env := env) hv v5
      unfold holdR
      simp only
      rw [← hx, ← hy]
      have hR : R = 0 ∨ R = 1 ∨ R = 2 := by omega
      rcases hR with rfl | rfl | rfl
      · rw [Bool.eq_iff_iff]
        simp [prB]
        omega
      · rw [Bool.eq_iff_iff]
        simp [prB]
      · rw [Bool.eq_iff_iff]
        simp [prB]
        omega
theorem sub_hold {env : List Int} {ls : List (List (Int × Int))} {l : List Cn} (hok : Cs.ok l) : ∀ {k : Nat} {ps : List Pr}, k ≤ l.length → subTo l ls k = some ps → ps.all (prB env) = (l.take k).all (holdR (inE env ls 5))
  | 0, ps, _, h => by
    injection h with h
    subst h
    rfl
  | k + 1, ps, hk, h => by
    change (subTo l ls k).bind _ = _ at h
    cases h1 : subTo l ls k with
    | none => rw [h1] at h; cases h
    | some qs =>
      rw [h1] at h
      change (sub1 ls (l.getD k (0, 0, 0))).map _ = _ at h
      have hg : l.getD k (0, 0, 0) = l[k]'(by omega) := by rw [List.getD_eq_getElem?_getD, List.getElem?_eq_getElem (by omega)]; rfl
      cases h2 : sub1 ls (l.getD k (0, 0, 0)) with
      | none => rw [h2] at h; cases h
      | some rs =>
        rw [h2] at h
        injection h with h
        subst h
        rw [List.take_succ_eq_append_getElem (by omega), List.all_append, List.all_append, sub_hold hok (by omega) h1, sub1_hold (by rw [hg]; exact hok _ (List.getElem_mem _)) h2, hg]
        simp
theorem csub_hold {env : List Int} {ls : List (List (Int × Int))} {l : List Cn} {ps : List Pr} (h5 : env.length = 5) (he : ∀ x ∈ env, 0 ≤ x ∧ x ≤ 4) (h : csubR l ls = some ps) : ps.all (prB env) = consHoldR l (inE env ls 5) := by
  unfold csubR at h
  split at h
  · rename_i hc
    rw [sub_hold (consOkR_ok hc).1 (Nat.le_refl _) h, List.take_length]
    unfold consHoldR
    rw [hc, (inE_ok h5 he).1]
    rfl
  · cases h
/-- the levels of the pairs are levels -/
theorem sub1_ok {ls : List (List (Int × Int))} {c : Cn} {qs : List Pr} (h : sub1 ls c = some qs) : ∀ q ∈ qs, Lv.levelOk q.1 = true ∧ Lv.levelOk q.2.2 = true := by
  unfold sub1 at h
  split at h
  · rename_i u v hu hv
    injection h with h
    subst h
    have a := (sdR_ok hu).1
    have b := (sdR_ok hv).1
    intro q hq
    rcases List.mem_cons.1 hq with rfl | hq
    · exact ⟨a, b⟩
    · split at hq
      · rcases List.mem_cons.1 hq with rfl | hq
        · exact ⟨b, a⟩
        · cases hq
      · cases hq
  · cases h
theorem subTo_ok {l : List Cn} {ls : List (List (Int × Int))} : ∀ {k : Nat} {ps : List Pr}, subTo l ls k = some ps → ∀ q ∈ ps, Lv.levelOk q.1 = true ∧ Lv.levelOk q.2.2 = true
  | 0, ps, h => by
    injection h with h
    subst h
    exact fun q hq => by cases hq
  | k + 1, ps, h => by
    change (subTo l ls k).bind _ = _ at h
    cases h1 : subTo l ls k with
    | none => rw [h1] at h; cases h
    | some qs =>
      rw [h1] at h
      change (sub1 ls (l.getD k (0, 0, 0))).map _ = _ at h
      cases h2 : sub1 ls (l.getD k (0, 0, 0)) with
      | none => rw [h2] at h; cases h
      | some rs =>
        rw [h2] at h
        injection h with h
        subst h
        intro q hq
        rcases List.mem_append.1 hq with hq | hq
        · exact subTo_ok h1 q hq
        · exact sub1_ok h2 q hq
theorem csub_ok {l : List Cn} {ls : List (List (Int × Int))} {ps : List Pr} (h : csubR l ls = some ps) {k : Nat} (hk : k < ps.length) : Lv.levelOk (ps.getD k pr0).1 = true ∧ Lv.levelOk (ps.getD k pr0).2.2 = true := by
  unfold csubR at h
  split at h
  · refine subTo_ok h _ ?_
    rw [List.getD_eq_getElem?_getD, List.getElem?_eq_getElem hk]
    exact List.getElem_mem hk
  · cases h
theorem ev_one {env : List Int} {a c : List (Int × Int)} (h : succR a 1 = some c) : Dc.ev env c = Dc.ev env a + 1 := by
  have ha : Lv.levelOk a = true := by
    have h' := h
    unfold succR at h'
    split at h'
    · rename_i hk; exact hk.1
    · cases h'
  have h1 := eval_succ (n := 1) h (Dc.ev_some (env := env) ha)
  unfold Dc.ev at h1 ⊢
  rw [h1.2.2.1]
  rfl
/-- what is so without constraints is so in every env -/
theorem pairs_nil {env : List Int} {ps : List Pr} (h5 : env.length = 5) (hp : Pos env) (h : pairsR [] ps = true) : ps.all (prB env) = true := by
  unfold pairsR at h
  rw [Bool.and_eq_true, List.all_eq_true] at h
  rw [List.all_eq_true]
  intro t ht
  have h1 := h.2 t ht
  obtain ⟨a, s, b⟩ := t
  have hs : Cs.SatAll (Cs.valOf env) [] := ⟨Cs.valOf_val fun p => hp.get p, fun c hc => by cases hc⟩
  unfold prB
  simp only
  cases s with
  | false =>
    rw [pairR_f] at h1
    have := ((leUn_iff _ _ _).1 h1).2.2.2 env h5 hp hs
    rw [Bool.or_eq_true, decide_eq_true_iff, Bool.and_eq_true, beq_iff_eq]
    rcases Int.lt_or_eq_of_le this with q | q
    · exact .inl q
    · exact .inr ⟨rfl, q⟩
  | true =>
    cases hq : succR a 1 with
    | none => rw [pairR_n hq] at h1; cases h1
    | some c =>
      rw [pairR_s hq] at h1
      have h2 := ((leUn_iff _ _ _).1 h1).2.2.2 env h5 hp hs
      have h3 := ev_one (env := env) hq
      rw [Bool.or_eq_true, decide_eq_true_iff]
      left
      omega
end Go.Proofs.YtgebjnoicgmdoaaDoor

namespace Go.Proofs.YtgebjnoicgmdoaaDoor
open Go.RowKit
open Cs (Cn)

theorem consHold_bad {l : List Cn} {env : List Int} {k : Nat} {t : Cn} (hk : k < l.length) (ht : l.getD k (0, 0, 0) = t) (h : conHoldsR t env = false) : consHoldR l env = false := by
  cases e : consHoldR l env with
  | false => rfl
  | true =>
    unfold consHoldR at e
    simp only [Bool.and_eq_true, List.all_eq_true] at e
    have hm : t ∈ l := by rw [← ht, List.getD_eq_getElem?_getD, List.getElem?_eq_getElem hk]; exact List.getElem_mem _
    have : conHoldsR t env = true := by unfold conHoldsR; rw [(consOkR_ok e.1.1).1 t hm, e.1.2, e.2 t hm]; rfl
    rw [h] at this
    cases this
theorem consHold_all {l : List Cn} {env : List Int} (h : ∀ j, j < l.length → conHoldsR (l.getD j (0, 0, 0)) env = true) : consHoldR l env = (consOkR l && envOk env) := by
  unfold consHoldR
  have : l.all (holdR env) = true := by
    rw [List.all_eq_true]
    intro t ht
    obtain ⟨j, hj, rfl⟩ := List.getElem_of_mem ht
    have := h j hj
    unfold conHoldsR at this
    simp only [Bool.and_eq_true] at this
    rw [List.getD_eq_getElem?_getD, List.getElem?_eq_getElem hj] at this
    exact this.2
  rw [this, Bool.and_true]
theorem consHold_no {l : List Cn} {env : List Int} {k : Nat} {t : Cn} (hk : k < l.length) (ht : l.getD k (0, 0, 0) = t) (h : holdR env t = false) : consHoldR l env = false := by
  refine consHold_bad hk ht ?_
  unfold conHoldsR
  rw [h, Bool.and_false]
theorem consHold_yes {l : List Cn} {env : List Int} (h1 : consOkR l = true) (h2 : envOk env = true) (h : ∀ j, j < l.length → holdR env (l.getD j (0, 0, 0)) = true) : consHoldR l env = true := by
  rw [consHold_all fun j hj => ?_, h1, h2]
  · rfl
  · unfold conHoldsR
    rw [h j hj, h2, (consOkR_ok h1).1 (l.getD j (0, 0, 0)) (by rw [List.getD_eq_getElem?_getD, List.getElem?_eq_getElem hj]; exact List.getElem_mem _)]
    rfl

set_option maxRecDepth 100000 in
set_option maxHeartbeats 1600000 in
theorem implConsHold_any (w : World) (B : Nat) (A : Option Addr) (n c : Nat) (l : List Cn) (A1 : Option Addr) (n1 c1 : Nat) (env : List Int) (hB : B ≤ w.heap.size) (hl : ConR w B A n l) (hn : (n : Int) ≤ 140737488355328) (hR : IntR w B A1 n1 env) (hn1 : (n1 : Int) ≤ 140737488355328) :
    Calls Tryd.prog 10 #[.slice A n c, .slice A1 n1 c1] w fun e w' => e = .returned (.bool (consHoldR l env)) ∧ Below w.heap.size w w' := by
  have HR := Lib.hid hR
  have HLL := Lib.hid hl
  clear hR
  go_enter Tryd.func10, Tryd.ntmps10
  go_wp2_with fail
  refine (implConsOk_any w B A n c l hB hl hn).mono ?_
  rintro e w1 ⟨rfl, hb1⟩
  have HB1 := Lib.hid hb1
  have hs1 := hb1.size
  clear hb1
  cases h1 : consOkR l with
  | false =>
    have HF : Hid (consHoldR l env = false) := by show _ = _; unfold consHoldR; rw [h1]; rfl
    clear h1
    go_wp2
    go_ret
    exact ⟨by rw [HF.out]; rfl, HB1.out⟩
  | true =>
    have H1 := Lib.hid h1
    clear h1
    go_wp2_with fail
    refine (envOk_any w1 B A1 n1 c1 env (HR.out.below (HB1.out.mono hB)) hn1).mono ?_
    rintro e w2 ⟨rfl, rfl⟩
    cases h2 : envOk env with
    | false =>
      have HF : Hid (consHoldR l env = false) := by show _ = _; unfold consHoldR; rw [H1.out, h2]; rfl
      clear h2
      go_wp2
      go_ret
      exact ⟨by rw [HF.out]; rfl, HB1.out⟩
    | true =>
      have H2 := Lib.hid h2
      obtain rfl : n1 = 5 := by rw [← HR.out.1]; exact envOk_len h2
      clear h2
      go_wp2
      go_loopw [17] (fun i wr => ∃ k : Nat, k ≤ n ∧ i = .int .i64 k ∧ Hid (∀ j, j < k → holdR env (l.getD j (0, 0, 0)) = true) ∧ Hid (Below w.heap.size w wr)) (fun i _ => n - (intOf i).toNat)
      case atStart => exact ⟨0, Nat.zero_le _, rfl, (fun j hj => absurd hj (by omega)), HB1.out⟩
      case round =>
        obtain ⟨k, hk, rfl, HA, HBR⟩ := hrel
        have hszr := HBR.out.size
        by_cases hlt : k < n
        · have hki : (k : Int) < (n : Int) := by omega
          obtain ⟨b, off, hA, hb, hc⟩ := hl.2 (by omega)
          obtain ⟨x1, x2, x3⟩ := hc k hlt
          have HL := Lib.hid hl.1
          obtain ⟨t, ht⟩ : ∃ t, l.getD k (0, 0, 0) = t := ⟨_, rfl⟩
          have hkl : k < l.length := by rw [HL.out]; exact hlt
          have HOK := Lib.hid ((consOkR_ok H1.out).1 (l.getD k (0, 0, 0)) (by rw [List.getD_eq_getElem?_getD, List.getElem?_eq_getElem hkl]; exact List.getElem_mem _))
          rw [ht] at x1 x2 x3 HOK
          obtain ⟨U, R, V⟩ := t
          have HT := Lib.hid ht
          subst hA
          have k1 := (HBR.out.cell (p := ⟨b, off + k * 3, none⟩) (by show b < _; omega)).trans x1
          have k2 := (HBR.out.cell (p := ⟨b, off + k * 3 + 1, none⟩) (by show b < _; omega)).trans x2
          have k3 := (HBR.out.cell (p := ⟨b, off + k * 3 + 2, none⟩) (by show b < _; omega)).trans x3
          obtain ⟨W1, hW1⟩ : ∃ W1, wr.alloc (.cells #[.int .i64 U, .int .i64 R, .int .i64 V] 51) = W1 := ⟨_, rfl⟩
          have hb1 : Below wr.heap.size wr W1 := by rw [← hW1]; exact (Below.refl _ _).alloc (Nat.le_refl _) _
          have hbx : Blk W1 wr.heap.size 51 #[.int .i64 U, .int .i64 R, .int .i64 V] := by rw [← hW1]; exact Blk.made _ _ _
          have y0 : W1.cell? ⟨wr.heap.size, 0, none⟩ = some (.int .i64 U) := hbx.cell 0
          have y1 : W1.cell? ⟨wr.heap.size, 1, none⟩ = some (.int .i64 R) := hbx.cell 1
          have y2 : W1.cell? ⟨wr.heap.size, 2, none⟩ = some (.int .i64 V) := hbx.cell 2
          have HBW := Lib.hid (HBR.out.trans (hb1.mono hszr))
          have hsw := HBW.out.size
          clear hc ht x1 x2 x3 hl hbx hb1
          go_wp2_with fail
          refine (conHolds_any W1 B A1 c1 env U R V (by omega) (HR.out.below (HBW.out.mono hB)) HOK.out).mono ?_
          rintro e w2 ⟨rfl, hb2⟩
          have HB2 := Lib.hid (HBW.out.trans (hb2.mono hsw))
          clear hb2
          cases hok : holdR env (U, R, V) with
          | true =>
            have HA2 : Hid (∀ j, j < k + 1 → holdR env (l.getD j (0, 0, 0)) = true) := fun j hj => by
              by_cases e : j = k
              · subst e; rw [HT.out]; exact hok
              · exact HA.out j (by omega)
            clear hok
            go_wp2
            go_roundw
            case rel => exact ⟨k + 1, by omega, by go_num, HA2.out, HB2.out⟩
            case measure => simp [intOf]; omega
          | false =>
            have HF := Lib.hid (consHold_no (l := l) (by rw [HL.out]; exact hlt) HT.out hok)
            clear hok
            go_wp2
            go_ret
            exact ⟨by rw [HF.out]; rfl, HB2.out⟩
        · obtain rfl : k = n := by omega
          have hkk : ¬ (k : Int) < (k : Int) := by omega
          have HF := Lib.hid (consHold_yes (l := l) H1.out H2.out (fun j hj => HA.out j (by rw [← hl.1]; exact hj)))
          clear hl
          go_wp2
          go_ret
          exact ⟨by rw [HF.out]; rfl, HBR.out⟩
end Go.Proofs.YtgebjnoicgmdoaaDoor
