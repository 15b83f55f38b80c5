/- Plain facts: what comparison under constraints says of envs; the witness satisfies the list and exceeds. -/
/- What LeUnder says of envs; a list split at a parameter; LevelLe. -/
/- What a constraint says, said by levels. -/
/- slices.Clone, slices.IndexFunc and slices.DeleteFunc on rows of numbers, as leaveOut calls them. -/
/- slices.DeleteFunc on a row of numbers that holds the number just once, as leaveOut calls it. -/
import Derived.Test.YtgebjnoicgmdoaaGreatDoorUnMath
import Derived.Test.YtgebjnoicgmdoaaGreatDoorConApp
import Derived.Test.YtgebjnoicgmdoaaGreatDoorCsMath7
import Derived.Test.YtgebjnoicgmdoaaGreatDoorCsSign
import Derived.Lib.SliceRun

namespace Go.Proofs.YtgebjnoicgmdoaaGreatDoor.Un
open Go.Proofs.YtgebjnoicgmdoaaGreatDoor.Nm
open Go.Proofs.YtgebjnoicgmdoaaGreatDoor.Cs (Cn Tb)

theorem rok_mem {s : Int} {l : List At} (h : ROk s l) {x : At} (hx : x ∈ l) : -1 ≤ x.1 ∧ x.1 < 5 ∧ 0 ≤ x.2 ∧ x.2 ≤ 1000 ∧ (x.1 = -1 ∨ Sg.has s x.1 = true) := by
  obtain ⟨k, hk, rfl⟩ := List.mem_iff_getElem.1 hx
  have e : l.getD k (0, 0) = l[k] := by rw [List.getD_eq_getElem?_getD, List.getElem?_eq_getElem hk, Option.getD_some]
  have h1 := (atOk_iff _).1 (h.2.2.1 k hk)
  have h2 := h.2.2.2.2.1 k hk
  rw [e] at h1 h2
  exact ⟨h1.1, h1.2.1, h1.2.2.1, h1.2.2.2, h2⟩
theorem val_node (env : List Int) {x : At} (h : -1 ≤ x.1) : val env x = Cs.valOf env (Cs.node x.1) + x.2 := by
  unfold val Cs.node
  by_cases e : x.1 = -1
  · rw [if_pos e, e]
    simp [Cs.valOf]
  · rw [if_neg e, show (x.1 + 1).toNat = x.1.toNat + 1 by omega]
    rfl
theorem leB_iff (T : Tb) (x y : At) : leB T x y = true ↔ 0 ≤ T (Cs.node x.1) (Cs.node y.1) ∧ x.2 ≤ T (Cs.node x.1) (Cs.node y.1) + y.2 := by simp [leB]
theorem sat_sign {l : List Cn} {env : List Int} {S : Nat} (he : EnvOf (S : Int) env) (hs : Cs.SatAll (Cs.valOf env) l) : Cs.SatAll (Cs.valOf env) (sgL l (S : Int)) := by
  rw [sgL, Cs.signed_sat]
  refine ⟨hs, fun p hp => ?_⟩
  show Sg.has (S : Int) (p : Int) = true ↔ 0 < env.getD p 0
  constructor
  · intro h
    have := he.2.1 p h
    rw [show ((p : Int)).toNat = p by omega] at this
    omega
  · intro h
    cases e : Sg.has (S : Int) (p : Int) with
    | true => rfl
    | false =>
      have := he.2.2 p (by omega) (by omega) e
      rw [show ((p : Int)).toNat = p by omega] at this
      omega
theorem sign_sat {l : List Cn} {env : List Int} {S : Nat} (hp : Pos env) (h : Cs.SatAll (Cs.valOf env) (sgL l (S : Int))) : EnvOf (S : Int) env ∧ Cs.SatAll (Cs.valOf env) l := by
  rw [sgL, Cs.signed_sat] at h
  refine ⟨⟨hp, fun p hh => ?_, fun p h0 h5 hh => ?_⟩, h.1⟩
  · have hb := has_bd hh
    have := (h.2 p.toNat (by omega)).1 (by rw [show ((p.toNat : Nat) : Int) = p by omega]; exact hh)
    have h1 : 0 < env.getD p.toNat 0 := this
    omega
  · have := (h.2 p.toNat (by omega))
    rw [show ((p.toNat : Nat) : Int) = p by omega, hh] at this
    have h1 : ¬ 0 < env.getD p.toNat 0 := fun q => by have := this.2 q; cases this
    have := hp.get p.toNat
    omega
/-- where all fits, the first level is at most the second one in every env that satisfies the list -/
theorem un_le {l : List Cn} {a b : List (Int × Int)} (hok : Cs.ok l) (ha : Lv.levelOk a = true) (hb : Lv.levelOk b = true) (h : exR l a b = none) {env : List Int} (h5 : env.length = 5) (hp : Pos env) (hs : Cs.SatAll (Cs.valOf env) l) : Dc.ev env a ≤ Dc.ev env b := by
  obtain ⟨S, hS, he⟩ := Dc.sign_of h5 hp
  have hss := sat_sign he hs
  have hf : Cs.flat (sgL l (S : Int)) = true := (Cs.sat_iff (sgL_ok hok _)).2 ⟨_, hss⟩
  have h1 := exR_no h S hS
  rw [ex1_yes hf, exL_none] at h1
  have hk := Cs.tab_keeps (sgL_ok hok _) hss
  have hra := Dc.rs_rok ha (Dc.isSign_nat hS)
  have hrb := Dc.rs_rok hb (Dc.isSign_nat hS)
  rw [Dc.ev_resid he ha, Dc.ev_resid he hb]
  refine value_le (value_ge _ _) fun x hx => ?_
  have h2 := h1 x hx
  unfold atB at h2
  rw [List.any_eq_true] at h2
  obtain ⟨y, hy, hle⟩ := h2
  rw [leB_iff] at hle
  have h3 := hk _ _ hle.1
  refine Int.le_trans ?_ (value_mem hy)
  rw [val_node env (rok_mem hra hx).1, val_node env (rok_mem hrb hy).1]
  omega
theorem witL_len (T : Tb) (p : Int) : (witL T p).length = 5 := by simp [witL]
theorem witL_get (T : Tb) (p : Int) {j : Nat} (hj : j < 5) : (witL T p).getD j 0 = if 0 ≤ p ∧ 0 ≤ T (Cs.node p) (j + 1) then max (T 0 (j + 1)) (200 + T (Cs.node p) (j + 1)) else T 0 (j + 1) := by
  simp [witL, List.getD_eq_getElem?_getD, hj]
theorem witL_pos {L : List Cn} (p : Int) : Pos (witL (Cs.tab L) p) := fun x hx => by
  obtain ⟨j, _, rfl⟩ := List.mem_map.1 hx
  have := Cs.tab_zero L (j + 1)
  split <;> omega
theorem witL_least (L : List Cn) {p : Int} (hp : p < 0) : witL (Cs.tab L) p = Cs.leastEnv L := by
  unfold witL Cs.leastEnv
  apply List.map_congr_left
  intro j _
  rw [if_neg (fun h => by omega)]
theorem sat_of_nodes {v u : Nat → Int} {l : List Cn} (hok : Cs.ok l) (hu : Cs.Val u) (h : ∀ x, x < 6 → v x = u x) (hs : Cs.SatAll v l) : Cs.SatAll u l :=
  ⟨hu, fun c hc => (Cs.sat_congr (hok c hc) h).1 (hs.2 c hc)⟩
theorem wit_nodes {L : List Cn} (hf : Cs.flat L = true) {p : Int} (hp : 0 ≤ p) (h0 : Cs.tab L (Cs.node p) 0 < 0) : ∀ x, x < 6 → Cs.lifted L (Cs.node p) 200 x = Cs.valOf (witL (Cs.tab L) p) x := by
  intro x hx
  cases x with
  | zero =>
    unfold Cs.lifted
    rw [if_neg (by omega)]
    exact Cs.tab_diag hf (by omega)
  | succ j =>
    show _ = (witL (Cs.tab L) p).getD j 0
    rw [witL_get _ _ (by omega)]
    unfold Cs.lifted
    by_cases h : 0 ≤ Cs.tab L (Cs.node p) (j + 1)
    · rw [if_pos h, if_pos ⟨hp, h⟩]
    · rw [if_neg h, if_neg (fun q => h q.2)]
set_option maxHeartbeats 1600000 in
theorem un_witL {l L : List Cn} {a b : List (Int × Int)} {S : Nat} {x : At} (hLe : sgL l (S : Int) = L) (hL : Cs.ok L) (ha : Lv.levelOk a = true) (hb : Lv.levelOk b = true) (hS : S < 32) (hf : Cs.flat L = true) (hmem : x ∈ Dc.rs a (S : Int)) (hno : atB (Cs.tab L) x (Dc.rs b (S : Int)) = false) :
    Pos (witL (Cs.tab L) x.1) ∧ Cs.SatAll (Cs.valOf (witL (Cs.tab L) x.1)) L ∧ Dc.ev (witL (Cs.tab L) x.1) b < Dc.ev (witL (Cs.tab L) x.1) a := by
  have hra := Dc.rs_rok ha (Dc.isSign_nat hS)
  have hrb := Dc.rs_rok hb (Dc.isSign_nat hS)
  have hx := rok_mem hra hmem
  have hleast := Cs.leastEnv_sat hL hf
  have hsig : ∀ p : Nat, p < 5 → (Sg.has (S : Int) (p : Int) = true ↔ 0 < Cs.valOf (Cs.leastEnv L) (p + 1)) := by
    subst hLe
    exact (Cs.signed_sat.1 hleast).2
  have hpos : Pos (witL (Cs.tab L) x.1) := witL_pos x.1
  have hno' : ∀ y ∈ Dc.rs b (S : Int), ¬ (0 ≤ Cs.tab L (Cs.node x.1) (Cs.node y.1) ∧ x.2 ≤ Cs.tab L (Cs.node x.1) (Cs.node y.1) + y.2) := fun y hy q => by
    unfold atB at hno
    rw [List.any_eq_false] at hno
    exact hno y hy ((leB_iff _ _ _).2 q)
  have hsm := Dc.rs_small (s := (S : Int)) hb
  have hfin : Cs.SatAll (Cs.valOf (witL (Cs.tab L) x.1)) L → (0 ≤ val (witL (Cs.tab L) x.1) x - 1) → (∀ y ∈ Dc.rs b (S : Int), val (witL (Cs.tab L) x.1) y ≤ val (witL (Cs.tab L) x.1) x - 1) → Dc.ev (witL (Cs.tab L) x.1) b < Dc.ev (witL (Cs.tab L) x.1) a := fun hsat h0 hy => by
    have he := (sign_sat (l := l) (S := S) hpos (by rw [hLe]; exact hsat)).1
    rw [Dc.ev_resid he ha, Dc.ev_resid he hb]
    have q1 := value_le h0 hy
    have q2 := value_mem (env := witL (Cs.tab L) x.1) hmem
    omega
  by_cases hx0 : x.1 < 0
  · have hx1 : x.1 = -1 := by omega
    have hn : Cs.node x.1 = 0 := by rw [hx1]; rfl
    have hsat : Cs.SatAll (Cs.valOf (witL (Cs.tab L) x.1)) L := by rw [witL_least L hx0]; exact hleast
    have hvx : val (witL (Cs.tab L) x.1) x = x.2 := by unfold val; rw [if_pos hx1]
    have hy : ∀ y ∈ Dc.rs b (S : Int), val (witL (Cs.tab L) x.1) y ≤ x.2 - 1 := fun y hy => by
      have hyb := rok_mem hrb hy
      have hne := hno' y hy
      rw [hn] at hne
      have z := Cs.tab_zero L (Cs.node y.1)
      rw [val_node _ hyb.1, witL_least L hx0, Cs.valOf_least hf _ (Cs.node_lt hyb.1 hyb.2.1)]
      unfold Cs.least
      omega
    have h1x : 0 ≤ x.2 - 1 := by
      obtain ⟨y, hym⟩ : ∃ y, y ∈ Dc.rs b (S : Int) := by
        have := hrb.2.1
        exact ⟨(Dc.rs b (S : Int))[0], List.getElem_mem (by omega)⟩
      have hyb := rok_mem hrb hym
      have hne := hno' y hym
      rw [hn] at hne
      have z := Cs.tab_zero L (Cs.node y.1)
      omega
    refine ⟨hpos, hsat, hfin hsat (by rw [hvx]; exact h1x) (by rw [hvx]; exact hy)⟩
  · have hx0' : 0 ≤ x.1 := by omega
    have hnx : Cs.node x.1 = x.1.toNat + 1 := by unfold Cs.node; omega
    have hi : Cs.node x.1 < 6 := Cs.node_lt hx.1 hx.2.1
    have hhas : Sg.has (S : Int) x.1 = true := by
      rcases hx.2.2.2.2 with q | q
      · omega
      · exact q
    have hvi : 0 < Cs.tab L 0 (Cs.node x.1) := by
      have q := (hsig x.1.toNat (by omega)).1 (by rw [show ((x.1.toNat : Nat) : Int) = x.1 by omega]; exact hhas)
      rw [← hnx, Cs.valOf_least hf _ hi] at q
      exact q
    have ht0 : Cs.tab L (Cs.node x.1) 0 < 0 := by
      rcases Int.lt_or_le (Cs.tab L (Cs.node x.1) 0) 0 with q | q
      · exact q
      · have c := Cs.tab_closed hf (i := 0) (j := 0) (k := Cs.node x.1) (by omega) (by omega) hi (by omega) q
        have d := Cs.tab_diag hf (i := 0) (by omega)
        omega
    have hnod := wit_nodes hf hx0' ht0
    have hsat : Cs.SatAll (Cs.valOf (witL (Cs.tab L) x.1)) L := sat_of_nodes hL (Cs.valOf_val fun p => hpos.get p) hnod (Cs.lifted_sat hL hf hi ht0 200)
    have hdi := Cs.tab_diag hf hi
    have hb0 := (Cs.tab_bd hf 0 (Cs.node x.1)).2
    have hvx : val (witL (Cs.tab L) x.1) x = 200 + x.2 := by
      rw [val_node _ hx.1, ← hnod _ hi]
      unfold Cs.lifted
      rw [if_pos (by omega)]
      omega
    have hy : ∀ y ∈ Dc.rs b (S : Int), val (witL (Cs.tab L) x.1) y ≤ 200 + x.2 - 1 := fun y hy => by
      have hyb := rok_mem hrb hy
      have hy6 : Cs.node y.1 < 6 := Cs.node_lt hyb.1 hyb.2.1
      have hne := hno' y hy
      have hbd := (Cs.tab_bd hf 0 (Cs.node y.1)).2
      have h24 := hsm y hy
      rw [val_node _ hyb.1, ← hnod _ hy6]
      unfold Cs.lifted
      split <;> omega
    refine ⟨hpos, hsat, hfin hsat (by rw [hvx]; omega) (by rw [hvx]; exact hy)⟩
/-- where something does not fit, the witness satisfies the list with its sign, and the first level is greater in it -/
theorem un_wit {l : List Cn} {a b : List (Int × Int)} (hok : Cs.ok l) (ha : Lv.levelOk a = true) (hb : Lv.levelOk b = true) {S : Nat} {x : At} (h : exR l a b = some (S, x)) :
    Pos (witL (Cs.tab (sgL l (S : Int))) x.1) ∧ Cs.SatAll (Cs.valOf (witL (Cs.tab (sgL l (S : Int))) x.1)) (sgL l (S : Int)) ∧ Dc.ev (witL (Cs.tab (sgL l (S : Int))) x.1) b < Dc.ev (witL (Cs.tab (sgL l (S : Int))) x.1) a := by
  obtain ⟨hS, h1, _⟩ := exR_at h
  have hf : Cs.flat (sgL l (S : Int)) = true := by
    cases e : Cs.flat (sgL l (S : Int)) with
    | true => rfl
    | false => rw [ex1_no e] at h1; cases h1
  rw [ex1_yes hf] at h1
  exact un_witL rfl (sgL_ok hok (S : Int)) ha hb hS hf (exL_mem h1) (exL_no h1)
/-- comparison under constraints is what it says of envs -/
theorem un_sem {l : List Cn} {a b : List (Int × Int)} (hok : Cs.ok l) (ha : Lv.levelOk a = true) (hb : Lv.levelOk b = true) : exR l a b = none ↔ ∀ env : List Int, env.length = 5 → Pos env → Cs.SatAll (Cs.valOf env) l → Dc.ev env a ≤ Dc.ev env b := by
  constructor
  · intro h env h5 hp hs
    exact un_le hok ha hb h h5 hp hs
  · intro h
    cases e : exR l a b with
    | none => rfl
    | some r =>
      obtain ⟨S, x⟩ := r
      obtain ⟨h1, h2, h3⟩ := un_wit hok ha hb e
      have := h _ (witL_len _ _) h1 (sign_sat h1 h2).2
      omega
end Go.Proofs.YtgebjnoicgmdoaaGreatDoor.Un

namespace Go.Proofs.YtgebjnoicgmdoaaGreatDoor
open Nm (Pos)
open Cs (Cn)

theorem leUn_iff (l : List Cn) (a b : List (Int × Int)) : leUnR l a b = true ↔ consOkR l = true ∧ Lv.levelOk a = true ∧ Lv.levelOk b = true ∧ ∀ env : List Int, env.length = 5 → Pos env → Cs.SatAll (Cs.valOf env) l → Dc.ev env a ≤ Dc.ev env b := by
  constructor
  · intro h
    cases hc : consOkR l with
    | false => rw [leUnR_c hc] at h; cases h
    | true =>
      cases ha : Lv.levelOk a with
      | false => rw [leUnR_a ha] at h; cases h
      | true =>
        cases hb : Lv.levelOk b with
        | false => rw [leUnR_b hb] at h; cases h
        | true =>
          rw [leUnR_y hc ha hb, Option.isNone_iff_eq_none] at h
          exact ⟨rfl, rfl, rfl, (Un.un_sem (consOkR_ok hc).1 ha hb).1 h⟩
  · rintro ⟨hc, ha, hb, h⟩
    rw [leUnR_y hc ha hb, Option.isNone_iff_eq_none]
    exact (Un.un_sem (consOkR_ok hc).1 ha hb).2 h
theorem satAll_snoc {v : Nat → Int} {l : List Cn} {c : Cn} : Cs.SatAll v (l ++ [c]) ↔ Cs.SatAll v l ∧ Cs.Sat v c := by
  constructor
  · rintro ⟨h1, h2⟩
    exact ⟨⟨h1, fun x hx => h2 x (List.mem_append.2 (.inl hx))⟩, h2 c (List.mem_append.2 (.inr (List.mem_singleton.2 rfl)))⟩
  · rintro ⟨⟨h1, h2⟩, h3⟩
    refine ⟨h1, fun x hx => ?_⟩
    rcases List.mem_append.1 hx with h | h
    · exact h2 x h
    · rw [List.mem_singleton.1 h]
      exact h3
theorem node_nat (p : Nat) : Cs.node (p : Int) = p + 1 := by unfold Cs.node; omega
theorem sat_more {v : Nat → Int} (hv : Cs.Val v) (p : Nat) : Cs.Sat v (-1, 1, (p : Int)) ↔ 0 < v (p + 1) := by
  unfold Cs.Sat
  rw [if_neg (show ¬ (1 : Int) = 0 by decide), if_pos (show (1 : Int) = 1 by decide)]
  show v (Cs.node (-1)) < v (Cs.node (p : Int)) ↔ _
  rw [node_nat, show Cs.node (-1) = 0 from rfl, hv.1]
end Go.Proofs.YtgebjnoicgmdoaaGreatDoor

namespace Go.Proofs.YtgebjnoicgmdoaaGreatDoor
open Nm (Pos)
open Cs (Cn)

/-- what holds of all values holds of all envs -/
theorem sat_envs {l : List Cn} {c : Cn} (hok : Cs.ok l) (hc : Cs.cOk c = true) : (∀ v, Cs.SatAll v l → Cs.Sat v c) ↔ ∀ env : List Int, env.length = 5 → Pos env → Cs.SatAll (Cs.valOf env) l → Cs.Sat (Cs.valOf env) c := by
  constructor
  · exact fun h env _ _ hs => h _ hs
  · intro h v hv
    have hval : ∀ x, x < 6 → v x = Cs.valOf ((List.range 5).map fun p => v (p + 1)) x := by
      intro x hx
      cases x with
      | zero => exact hv.1.1
      | succ p =>
        show _ = ((List.range 5).map fun p => v (p + 1)).getD p 0
        simp [List.getD_eq_getElem?_getD, show p < 5 by omega]
    have hpos : Pos ((List.range 5).map fun p => v (p + 1)) := fun x hx => by
      obtain ⟨p, _, rfl⟩ := List.mem_map.1 hx
      exact hv.1.2 _
    have hs := Un.sat_of_nodes hok (Cs.valOf_val fun p => hpos.get p) hval hv
    exact (Cs.sat_congr hc hval).2 (h _ (by simp) hpos hs)
theorem sat_both {l : List Cn} (h : satR l = true) : consOkR l = true ∧ Cs.flat l = true := by
  unfold satR at h
  rwa [Bool.and_eq_true] at h
theorem impR_iff {l : List Cn} {c : Cn} (h : satR l = true) (hc : Cs.cOk c = true) : impR l c = true ↔ ∀ env : List Int, env.length = 5 → Pos env → Cs.SatAll (Cs.valOf env) l → Cs.Sat (Cs.valOf env) c := by
  obtain ⟨h1, h2⟩ := sat_both h
  rw [← sat_envs (consOkR_ok h1).1 hc, ← Cs.imp_iff (consOkR_ok h1).1 h2 hc]
  unfold impR
  rw [h, hc, Bool.true_and, Bool.true_and]
end Go.Proofs.YtgebjnoicgmdoaaGreatDoor

namespace Go.Proofs.YtgebjnoicgmdoaaGreatDoor
open Go.RowKit
open Cs (Cn Tb)

set_option maxRecDepth 100000 in
set_option maxHeartbeats 800000 in
theorem cloneI_any (w : World) (g n c base : Nat) (l : List Int) (hl : OwnI w base (some ⟨g, 0, none⟩) n c l) (hn : n ≤ 1000) :
    Calls Tryz.prog 112 #[.slice (some ⟨g, 0, none⟩) n c] w fun e w' => ∃ g2 c2, e = .returned (.slice (some ⟨g2, 0, none⟩) n c2) ∧ OwnI w' w.heap.size (some ⟨g2, 0, none⟩) n c2 l ∧ Below w.heap.size w w' := by
  obtain ⟨i0, hi, hz0, hz1, hz2⟩ := info_parts info_int
  have hlen : l.length = n := by have := hl.1; simpa using this
  have hb0 : Below w.heap.size w (w.alloc (.cells #[] 3)) := (Below.refl _ _).alloc (Nat.le_refl _) _
  have ho0 : OwnI (w.alloc (.cells #[] 3)) w.heap.size (some ⟨w.heap.size, 0, none⟩) 0 0 [] := World.ownsRow_made w #[] 0 (Nat.le_refl _) (by simp [maxLen]) (by simp)
  have hc0 := own_below' hl hb0
  have hnews : ∀ j u, (l.map (Value.int .i64))[j]? = some u → (w.alloc (.cells #[] 3)).cell? ((⟨g, 0, none⟩ : Addr).add j) = some u := fun j u hu => hc0.cells (g := g) rfl j u hu
  have hones : ∀ u ∈ l.map (Value.int .i64), u.oneCell' = true := fun u hu => by
    simp only [List.mem_map] at hu
    obtain ⟨x, _, rfl⟩ := hu
    rfl
  have hcl : (l.map (Value.int .i64)).length = n * 1 := by simp [hlen]
  have hnil := Lib.run_eql_slice_nil (P := Tryz.prog)
  clear hl hc0 hlen
  go_enter Tryz.func112, Tryz.ntmps112
  go_wp2_with (at_builtin; refine wpList_append_own _ rfl (.tmp 5) (.tmp 6) 29 rfl w.heap.size 3 i0 (.int .i64 0) 1 8 Tryz.underlying29 hi hz0 hz1 hz2 rfl (by decide) (.slice (some ⟨w.heap.size, 0, none⟩) 0 0) 0 [] rfl ho0 ⟨g, 0, none⟩ n c (l.map (Value.int .i64)) rfl hcl hnews hones (by unfold maxLen; omega) (by omega) (by simp) ?_; intro v' w3 hown' hgrow hnil)
  obtain ⟨g', cap', rfl⟩ : ∃ g' cap', v' = .slice (some ⟨g', 0, none⟩) n cap' := by
    rcases hown'.2 with ⟨h0, _⟩ | ⟨g', cap', _, h0, _⟩
    · have := (hnil.1 h0).1
      cases this
    · rw [Nat.zero_add] at h0; exact ⟨g', cap', h0⟩
  have HB3 : Hid (Below w.heap.size w w3) := hb0.grown hgrow (by simp) (fun k h => by have h' : w.heap.size = k := (by simpa [Value.ownBlock] using h); omega)
  have HW0 : Hid (OwnI w3 w.heap.size (some ⟨g', 0, none⟩) n cap' l) := by
    have h := hown'
    rw [List.nil_append, Nat.zero_add] at h
    exact h
  clear hown' hgrow hnil ho0 hb0 hnews
  go_wp2
  go_ret
  exact ⟨g', cap', rfl, HW0.out, HB3.out⟩

set_option maxHeartbeats 400000 in
theorem leave1_any (w : World) (k x : Int) (ib : Nat) (hi : w.cell? ⟨ib, 0, none⟩ = some (.int .i64 x)) :
    Calls Tryz.prog 113 #[.int .i64 k, .pointer (some ⟨ib, 0, none⟩)] w fun e w' => e = .returned (.bool (k == x)) ∧ w' = w := by
  go_enter Tryz.func113, Tryz.ntmps113
  go_wp2
  go_ret
  exact ⟨rfl, rfl⟩

set_option maxRecDepth 100000 in
set_option maxHeartbeats 800000 in
/-- the first place of x, which is there -/
theorem indexI_any (w : World) (g n c base ib : Nat) (l : List Int) (x : Int) (j : Nat) (hl : OwnI w base (some ⟨g, 0, none⟩) n c l) (hn : n ≤ 1000) (hi : w.cell? ⟨ib, 0, none⟩ = some (.int .i64 x)) (hj : j < n) (hx : l.getD j 0 = x) (hf : ∀ i, i < j → l.getD i 0 ≠ x) :
    Calls Tryz.prog 141 #[.slice (some ⟨g, 0, none⟩) n c, .func (.func 113) #[] #[.pointer (some ⟨ib, 0, none⟩)]] w fun e w' => e = .returned (.int .i64 (j : Int)) ∧ w' = w := by
  have hlen : l.length = n := by have := hl.1; simpa using this
  have HC : Hid (∀ i, i < n → w.cell? ⟨g, i, none⟩ = some (.int .i64 (l.getD i 0))) := fun i hi => by
    refine (own_spot hl ?_).1
    have hi' : i < l.length := by omega
    simp [List.getD_eq_getElem?_getD, List.getElem?_eq_getElem hi']
  have HF := Lib.hid hf
  clear hl hlen hf
  go_enter Tryz.func141, Tryz.ntmps141
  go_wp2
  go_loop [8] (fun i => ∃ k : Nat, k ≤ j ∧ i = .int .i64 k) (fun i => n - (intOf i).toNat)
  case atStart => exact ⟨0, Nat.zero_le _, rfl⟩
  case round =>
    obtain ⟨k, hk, rfl⟩ := hrel
    have hki : (k : Int) < (n : Int) := by omega
    have k1 := HC.out k (by omega)
    by_cases e : k = j
    · subst e
      rw [hx] at k1
      go_wp2_with fail
      refine (leave1_any w x x ib hi).mono ?_
      rintro e w1 ⟨rfl, rfl⟩
      rw [show (x == x) = true by simp]
      go_wp2
      go_ret
      exact ⟨rfl, rfl⟩
    · have hne := HF.out k (by omega)
      have d1 : (l.getD k 0 == x) = false := by simpa using hne
      generalize l.getD k 0 = y at k1 d1 hne
      clear hne
      go_wp2_with fail
      refine (leave1_any w y x ib hi).mono ?_
      rintro e w1 ⟨rfl, rfl⟩
      rw [d1]
      go_wp2
      go_round
      case rel => exact ⟨k + 1, by omega, by go_num⟩
      case measure => simp [intOf]; omega
end Go.Proofs.YtgebjnoicgmdoaaGreatDoor

namespace Go.Proofs.YtgebjnoicgmdoaaGreatDoor
open Go.RowKit
open Cs (Cn Tb)

/-- the row behind k places: what stands behind place j is one place lower -/
def shiftL (l : List Int) (j k : Nat) : List Int := (List.range l.length).map fun i => if j ≤ i ∧ i + 1 < k then l.getD (i + 1) 0 else l.getD i 0
theorem shiftL_len (l : List Int) (j k : Nat) : (shiftL l j k).length = l.length := by simp [shiftL]
theorem shiftL_get (l : List Int) (j k : Nat) {i : Nat} (hi : i < l.length) : (shiftL l j k)[i]? = some (if j ≤ i ∧ i + 1 < k then l.getD (i + 1) 0 else l.getD i 0) := by simp [shiftL, hi]
theorem shiftL_start (l : List Int) (j : Nat) : shiftL l j (j + 1) = l := by
  apply List.ext_getElem?
  intro i
  by_cases hi : i < l.length
  · rw [shiftL_get l j _ hi, if_neg (by omega), List.getD_eq_getElem?_getD, List.getElem?_eq_getElem hi]; rfl
  · rw [List.getElem?_eq_none (by rw [shiftL_len]; omega), List.getElem?_eq_none (by omega)]
theorem shiftL_step (l : List Int) {j p : Nat} (hj : j ≤ p) (_ : p + 1 < l.length) : (shiftL l j (p + 1)).set p (l.getD (p + 1) 0) = shiftL l j (p + 1 + 1) := by
  apply List.ext_getElem?
  intro i
  by_cases hi : i < l.length
  · rw [shiftL_get l j _ hi]
    by_cases e : p = i
    · subst e
      rw [List.getElem?_set_self (by rw [shiftL_len]; omega), if_pos (by omega)]
    · rw [List.getElem?_set_ne e, shiftL_get l j _ hi]
      by_cases c : j ≤ i ∧ i + 1 < p + 1
      · rw [if_pos c, if_pos (by omega)]
      · rw [if_neg c, if_neg (by omega)]
  · rw [List.getElem?_eq_none (by rw [List.length_set, shiftL_len]; omega), List.getElem?_eq_none (by rw [shiftL_len]; omega)]
theorem shiftL_erase (l : List Int) {j : Nat} (hj : j < l.length) (z : Int) : ((shiftL l j l.length).set (l.length - 1) z).take (l.length - 1) = l.eraseIdx j := by
  apply List.ext_getElem?
  intro i
  by_cases hi : i < l.length - 1
  · rw [List.getElem?_take_of_lt hi, List.getElem?_set_ne (by omega), shiftL_get l j _ (by omega), List.getElem?_eraseIdx]
    by_cases c : i < j
    · rw [if_pos c, if_neg (by omega), List.getD_eq_getElem?_getD, List.getElem?_eq_getElem (by omega)]; rfl
    · rw [if_neg c, if_pos (by omega), List.getD_eq_getElem?_getD, List.getElem?_eq_getElem (by omega)]; rfl
  · rw [List.getElem?_eq_none (by simp; omega), List.getElem?_eq_none (by rw [List.length_eraseIdx, if_pos hj]; omega)]
/-- the number stands at place j and nowhere else: what is left is what differs from it -/
theorem erase_filter : ∀ (l : List Int) (j : Nat) (x : Int), j < l.length → l.getD j 0 = x → (∀ i, i < l.length → i ≠ j → l.getD i 0 ≠ x) → l.eraseIdx j = l.filter fun y => !decide (y = x)
  | [], _, _, hj, _, _ => absurd hj (by simp)
  | y :: r, 0, x, _, hx, hu => by
    have hyx : y = x := by simpa using hx
    have hr : r.filter (fun y => !decide (y = x)) = r := by
      rw [List.filter_eq_self]
      intro z hz
      obtain ⟨i, hi, rfl⟩ := List.getElem_of_mem hz
      have := hu (i + 1) (by simpa using hi) (by omega)
      simp [List.getElem?_eq_getElem hi] at this
      simpa using this
    simp only [List.eraseIdx_cons_zero, List.filter_cons, hyx, decide_true, Bool.not_true, Bool.false_eq_true, if_false]
    exact hr.symm
  | y :: r, j + 1, x, hj, hx, hu => by
    have hyx : y ≠ x := by
      have := hu 0 (by simp) (by omega)
      simpa using this
    have ih := erase_filter r j x (by simpa using hj) (by simpa using hx) (fun i hi hne => by
      have := hu (i + 1) (by simpa using hi) (by omega)
      simpa using this)
    simp only [List.eraseIdx_cons_succ, List.filter_cons, hyx, decide_false, Bool.not_false, if_true]
    rw [ih]
theorem Wrote.refl (g : Nat) (w : World) : Wrote g w w := ⟨World.grownBy.refl _ _, rfl⟩
theorem Wrote.trans {g : Nat} {a b c : World} (h : Wrote g a b) (k : Wrote g b c) : Wrote g a c :=
  ⟨⟨k.1.os.trans h.1.os, k.1.tape.trans h.1.tape, k.1.output.trans h.1.output, Nat.le_trans h.1.size k.1.size, fun i hi hne => (k.1.block i (by rw [h.2]; exact hi) hne).trans (h.1.block i hi hne)⟩, k.2.trans h.2⟩
theorem Wrote.cell {g : Nat} {w w' : World} (h : Wrote g w w') {b o : Nat} (hb : b < w.heap.size) (hne : b ≠ g) : w'.cell? ⟨b, o, none⟩ = w.cell? ⟨b, o, none⟩ := by
  have := h.1.block b hb (fun e => hne (by injection e with e))
  simp only [World.cell?, this]
/-- a shorter row in the same block -/
theorem own_short {w : World} {base g n c m : Nat} {e : TypeId} {xs : List Value} (h : w.ownsRow base e 1 (.slice (some ⟨g, 0, none⟩) n c) n xs) (hm : m ≤ n) : w.ownsRow base e 1 (.slice (some ⟨g, 0, none⟩) m c) m (xs.take m) := by
  have hl := h.1
  refine ⟨by rw [List.length_take, hl]; omega, ?_⟩
  rcases h.2 with ⟨h0, _⟩ | ⟨g', cap, cur, hv, hb, hgg, h1, h2, h3, h4⟩
  · cases h0
  · injection hv with e1 e2 e3
    injection e1 with e1
    injection e1 with e1
    subst e1; subst e3
    refine .inr ⟨g, c, cur, rfl, hb, hgg, by omega, h2, h3, ?_⟩
    rw [← h4, List.take_take]
    congr 1
    omega

set_option maxRecDepth 100000 in
set_option maxHeartbeats 1600000 in
theorem deleteI_any (w : World) (g n c base ib : Nat) (l : List Int) (x : Int) (j : Nat) (hl : OwnI w base (some ⟨g, 0, none⟩) n c l) (hn : n ≤ 1000) (hi : w.cell? ⟨ib, 0, none⟩ = some (.int .i64 x)) (hig : ib ≠ g) (hj : j < n) (hx : l.getD j 0 = x) (hu : ∀ i, i < n → i ≠ j → l.getD i 0 ≠ x) :
    Calls Tryz.prog 111 #[.slice (some ⟨g, 0, none⟩) n c, .func (.func 113) #[] #[.pointer (some ⟨ib, 0, none⟩)]] w fun e w' => e = .returned (.slice (some ⟨g, 0, none⟩) (n - 1) c) ∧ OwnI w' base (some ⟨g, 0, none⟩) (n - 1) c (l.eraseIdx j) ∧ Wrote g w w' := by
  have hlen : l.length = n := by have := hl.1; simpa using this
  have hib := World.block_lt_of_cell? w _ hi
  have hcn : n ≤ c := by
    rcases hl.2 with ⟨h0, _⟩ | ⟨g', cap', cur, hv, _, _, hle, _⟩
    · cases h0
    · injection hv with _ _ e3
      rw [e3]; exact hle
  have HI := Lib.hid hi
  have HL := Lib.hid hl
  have HLEN := Lib.hid hlen
  have HU := Lib.hid hu
  have HX0 := Lib.hid hx
  have HIX := Lib.hid (indexI_any w g n c base ib l x j hl hn hi hj hx (fun i hi' => hu i (by omega) (by omega)))
  clear hl hlen hu hx hi
  have hjn : ((j : Int) == -1) = false := by simp
  go_enter Tryz.func111, Tryz.ntmps111
  go_wp2_with fail
  refine HIX.out.mono ?_
  rintro e w1 ⟨rfl, rfl⟩
  clear HIX
  go_wp2
  go_loopw [5, 6] (fun i k wr => ∃ p : Nat, j ≤ p ∧ p + 1 ≤ n ∧ i = .int .i64 (p : Int) ∧ k = .int .i64 ((p + 1 : Nat) : Int) ∧ Hid (OwnI wr base (some ⟨g, 0, none⟩) n c (shiftL l j (p + 1))) ∧ Hid (Wrote g w1 wr)) (fun _ k _ => n - (intOf k).toNat)
  case atStart => exact ⟨j, by omega, by omega, rfl, by go_num, by rw [shiftL_start]; exact HL.out, Wrote.refl _ _⟩
  case round =>
    obtain ⟨p, hjp, hpn, rfl, rfl, HO, HW⟩ := hrel
    by_cases hlt : p + 1 < n
    · have hki : (p : Int) + 1 < (n : Int) := by omega
      have hpi : (p : Int) < (n : Int) := by omega
      have k1 : wr.cell? ⟨g, p + 1, none⟩ = some (.int .i64 (l.getD (p + 1) 0)) := by
        refine (own_spot HO.out ?_).1
        rw [List.getElem?_map, shiftL_get l j _ (by rw [HLEN.out]; exact hlt), if_neg (by omega)]
        rfl
      obtain ⟨z0, k2⟩ : ∃ z0, wr.cell? ⟨g, p, none⟩ = some z0 ∧ wr.frozen? ⟨g, p, none⟩ = false := by
        refine ⟨_, own_spot HO.out (i := p) (u := .int .i64 (if j ≤ p ∧ p + 1 < p + 1 then l.getD (p + 1) 0 else l.getD p 0)) ?_⟩
        rw [List.getElem?_map, shiftL_get l j _ (by rw [HLEN.out]; omega)]
        rfl
      obtain ⟨k2, k3⟩ := k2
      have hne := HU.out (p + 1) hlt (by omega)
      have hi2 := (HW.out.cell (o := 0) hib hig).trans HI.out
      have HO2 : Hid (OwnI (wr.setCell ⟨g, p, none⟩ (.int .i64 (l.getD (p + 1) 0))) base (some ⟨g, 0, none⟩) n c (shiftL l j (p + 1 + 1))) := by
        have := own_set HO.out p (.int .i64 (l.getD (p + 1) 0))
        rw [← List.map_set, shiftL_step l hjp (by rw [HLEN.out]; exact hlt)] at this
        exact this
      have HW2 : Hid (Wrote g w1 (wr.setCell ⟨g, p, none⟩ (.int .i64 (l.getD (p + 1) 0)))) := HW.out.trans (Wrote.set _ _)
      obtain ⟨y, hy⟩ : ∃ y, l.getD (p + 1) 0 = y := ⟨_, rfl⟩
      rw [hy] at k1 hne HO2 HW2
      have d1 : (y == x) = false := by simpa using hne
      clear hy hne
      go_wp2_with fail
      refine (leave1_any wr y x ib hi2).mono ?_
      rintro e w2 ⟨rfl, rfl⟩
      rw [d1]
      go_wp2
      go_roundw
      case rel => exact ⟨p + 1, by omega, by omega, by go_num, by go_num, HO2.out, HW2.out⟩
      case measure => simp [intOf]; omega
    · obtain rfl : n = p + 1 := by omega
      have hkk : ¬ (p : Int) + 1 < ((p + 1 : Nat) : Int) := by omega
      obtain ⟨z0, k2, k3⟩ : ∃ z0, wr.cell? ⟨g, p, none⟩ = some z0 ∧ wr.frozen? ⟨g, p, none⟩ = false := by
        refine ⟨_, own_spot HO.out (i := p) (u := .int .i64 (if j ≤ p ∧ p + 1 < p + 1 then l.getD (p + 1) 0 else l.getD p 0)) ?_⟩
        rw [List.getElem?_map, shiftL_get l j _ (by rw [HLEN.out]; omega)]
        rfl
      have hcl : (Builtin.clear_ #[29] 0 #[.slice (some ⟨g, p, none⟩) 1 (c - p)]).run Tryz.prog wr = .ok (.tuple #[]) (wr.setCell ⟨g, p, none⟩ (.int .i64 0)) :=
        Lib.run_clear_slice wr 29 3 0 (.int .i64 0) Tryz.underlying29 (fun _ => by kernel_rfl) rfl rfl g p 1 (c - p) (by omega)
          (fun i hi => by obtain rfl : i = 0 := (by omega); rw [Nat.add_zero, k2]; rfl) (fun i hi => by obtain rfl : i = 0 := (by omega); rw [Nat.add_zero]; exact k3)
      have HO2 : Hid (OwnI (wr.setCell ⟨g, p, none⟩ (.int .i64 0)) base (some ⟨g, 0, none⟩) p c (l.eraseIdx j)) := by
        have h1 := own_short (own_set HO.out p (.int .i64 0)) (m := p) (by omega)
        rw [← List.map_set, ← List.map_take] at h1
        have h2 := shiftL_erase l (j := j) (by rw [HLEN.out]; omega) 0
        rw [HLEN.out] at h2
        rw [show p + 1 - 1 = p by omega] at h2
        rw [h2] at h1
        exact h1
      have HW2 : Hid (Wrote g w1 (wr.setCell ⟨g, p, none⟩ (.int .i64 0))) := HW.out.trans (Wrote.set _ _)
      clear k2 k3
      go_wp2
      go_ret
      exact ⟨rfl, HO2.out, HW2.out⟩
end Go.Proofs.YtgebjnoicgmdoaaGreatDoor
