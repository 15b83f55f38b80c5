/- Plain facts: what comparison under constraints says of envs; the witness satisfies the list and exceeds. -/
/- ConsLeast of the reference model. -/
/- A list with a sign: signedPaths of the program, SignEnv of both sides. -/
/- An atom and a list of atoms under a table of longest ways: atomLe of the program, AtomUnder of the program. -/
import Derived.Test.YtmbcjddahncocaaDoorUnMath
import Derived.Test.YtmbcjddahncocaaDoorSgHas
import Derived.Test.YtmbcjddahncocaaDoorGoodCons
import Derived.Test.YtmbcjddahncocaaDoorRsMath
import Derived.Test.YtmbcjddahncocaaDoorDcMath

namespace Go.Proofs.YtmbcjddahncocaaDoor.Un
open Go.Proofs.YtmbcjddahncocaaDoor.Nm
open Go.Proofs.YtmbcjddahncocaaDoor.Cs (Cn Tb)

theorem rok_mem {s : Int} {l : List At} (h : ROk s l) {x : At} (hx : x ∈ l) : -1 ≤ x.1 ∧ x.1 < 5 ∧ 0 ≤ x.2 ∧ x.2 ≤ 1000 ∧ (x.1 = -1 ∨ Sg.has s x.1 = true) := by
  obtain ⟨k, hk, rfl⟩ := List.mem_iff_getElem.1 hx
  have e : l.getD k (0, 0) = l[k] := by rw [List.getD_eq_getElem?_getD, List.getElem?_eq_getElem hk, Option.getD_some]
  have h1 := (atOk_iff _).1 (h.2.2.1 k hk)
  have h2 := h.2.2.2.2.1 k hk
  rw [e] at h1 h2
  exact ⟨h1.1, h1.2.1, h1.2.2.1, h1.2.2.2, h2⟩
theorem val_node (env : List Int) {x : At} (h : -1 ≤ x.1) : val env x = Cs.valOf env (Cs.node x.1) + x.2 := by
  unfold val Cs.node
  by_cases e : x.1 = -1
  · rw [if_pos e, e]
    simp [Cs.valOf]
  · rw [if_neg e, show (x.1 + 1).toNat = x.1.toNat + 1 by omega]
    rfl
theorem leB_iff (T : Tb) (x y : At) : leB T x y = true ↔ 0 ≤ T (Cs.node x.1) (Cs.node y.1) ∧ x.2 ≤ T (Cs.node x.1) (Cs.node y.1) + y.2 := by simp [leB]
theorem sat_sign {l : List Cn} {env : List Int} {S : Nat} (he : EnvOf (S : Int) env) (hs : Cs.SatAll (Cs.valOf env) l) : Cs.SatAll (Cs.valOf env) (sgL l (S : Int)) := by
  rw [sgL, Cs.signed_sat]
  refine ⟨hs, fun p hp => ?_⟩
  show Sg.has (S : Int) (p : Int) = true ↔ 0 < env.getD p 0
  constructor
  · intro h
    have := he.2.1 p h
    rw [show ((p : Int)).toNat = p by omega] at this
    omega
  · intro h
    cases e : Sg.has (S : Int) (p : Int) with
    | true => rfl
    | false =>
      have := he.2.2 p (by omega) (by omega) e
      rw [show ((p : Int)).toNat = p by omega] at this
      omega
theorem sign_sat {l : List Cn} {env : List Int} {S : Nat} (hp : Pos env) (h : Cs.SatAll (Cs.valOf env) (sgL l (S : Int))) : EnvOf (S : Int) env ∧ Cs.SatAll (Cs.valOf env) l := by
  rw [sgL, Cs.signed_sat] at h
  refine ⟨⟨hp, fun p hh => ?_, fun p h0 h5 hh => ?_⟩, h.1⟩
  · have hb := has_bd hh
    have := (h.2 p.toNat (by omega)).1 (by rw [show ((p.toNat : Nat) : Int) = p by omega]; exact hh)
    have h1 : 0 < env.getD p.toNat 0 := this
    omega
  · have := (h.2 p.toNat (by omega))
    rw [show ((p.toNat : Nat) : Int) = p by omega, hh] at this
    have h1 : ¬ 0 < env.getD p.toNat 0 := fun q => by have := this.2 q; cases this
    have := hp.get p.toNat
    omega
/-- where all fits, the first level is at most the second one in every env that satisfies the list -/
theorem un_le {l : List Cn} {a b : List (Int × Int)} (hok : Cs.ok l) (ha : Lv.levelOk a = true) (hb : Lv.levelOk b = true) (h : exR l a b = none) {env : List Int} (h5 : env.length = 5) (hp : Pos env) (hs : Cs.SatAll (Cs.valOf env) l) : Dc.ev env a ≤ Dc.ev env b := by
  obtain ⟨S, hS, he⟩ := Dc.sign_of h5 hp
  have hss := sat_sign he hs
  have hf : Cs.flat (sgL l (S : Int)) = true := (Cs.sat_iff (sgL_ok hok _)).2 ⟨_, hss⟩
  have h1 := exR_no h S hS
  rw [ex1_yes hf, exL_none] at h1
  have hk := Cs.tab_keeps (sgL_ok hok _) hss
  have hra := Dc.rs_rok ha (Dc.isSign_nat hS)
  have hrb := Dc.rs_rok hb (Dc.isSign_nat hS)
  rw [Dc.ev_resid he ha, Dc.ev_resid he hb]
  refine value_le (value_ge _ _) fun x hx => ?_
  have h2 := h1 x hx
  unfold atB at h2
  rw [List.any_eq_true] at h2
  obtain ⟨y, hy, hle⟩ := h2
  rw [leB_iff] at hle
  have h3 := hk _ _ hle.1
  refine Int.le_trans ?_ (value_mem hy)
  rw [val_node env (rok_mem hra hx).1, val_node env (rok_mem hrb hy).1]
  omega
theorem witL_len (T : Tb) (p : Int) : (witL T p).length = 5 := by simp [witL]
theorem witL_get (T : Tb) (p : Int) {j : Nat} (hj : j < 5) : (witL T p).getD j 0 = if 0 ≤ p ∧ 0 ≤ T (Cs.node p) (j + 1) then max (T 0 (j + 1)) (200 + T (Cs.node p) (j + 1)) else T 0 (j + 1) := by
  simp [witL, List.getD_eq_getElem?_getD, hj]
theorem witL_pos {L : List Cn} (p : Int) : Pos (witL (Cs.tab L) p) := fun x hx => by
  obtain ⟨j, _, rfl⟩ := List.mem_map.1 hx
  have := Cs.tab_zero L (j + 1)
  split <;> omega
theorem witL_least (L : List Cn) {p : Int} (hp : p < 0) : witL (Cs.tab L) p = Cs.leastEnv L := by
  unfold witL Cs.leastEnv
  apply List.map_congr_left
  intro j _
  rw [if_neg (fun h => by omega)]
theorem sat_of_nodes {v u : Nat → Int} {l : List Cn} (hok : Cs.ok l) (hu : Cs.Val u) (h : ∀ x, x < 6 → v x = u x) (hs : Cs.SatAll v l) : Cs.SatAll u l :=
  ⟨hu, fun c hc => (Cs.sat_congr (hok c hc) h).1 (hs.2 c hc)⟩
theorem wit_nodes {L : List Cn} (hf : Cs.flat L = true) {p : Int} (hp : 0 ≤ p) (h0 : Cs.tab L (Cs.node p) 0 < 0) : ∀ x, x < 6 → Cs.lifted L (Cs.node p) 200 x = Cs.valOf (witL (Cs.tab L) p) x := by
  intro x hx
  cases x with
  | zero =>
    unfold Cs.lifted
    rw [if_neg (by omega)]
    exact Cs.tab_diag hf (by omega)
  | succ j =>
    show _ = (witL (Cs.tab L) p).getD j 0
    rw [witL_get _ _ (by omega)]
    unfold Cs.lifted
    by_cases h : 0 ≤ Cs.tab L (Cs.node p) (j + 1)
    · rw [if_pos h, if_pos ⟨hp, h⟩]
    · rw [if_neg h, if_neg (fun q => h q.2)]
set_option maxHeartbeats 1600000 in
theorem un_witL {l L : List Cn} {a b : List (Int × Int)} {S : Nat} {x : At} (hLe : sgL l (S : Int) = L) (hL : Cs.ok L) (ha : Lv.levelOk a = true) (hb : Lv.levelOk b = true) (hS : S < 32) (hf : Cs.flat L = true) (hmem : x ∈ Dc.rs a (S : Int)) (hno : atB (Cs.tab L) x (Dc.rs b (S : Int)) = false) :
    Pos (witL (Cs.tab L) x.1) ∧ Cs.SatAll (Cs.valOf (witL (Cs.tab L) x.1)) L ∧ Dc.ev (witL (Cs.tab L) x.1) b < Dc.ev (witL (Cs.tab L) x.1) a := by
  have hra := Dc.rs_rok ha (Dc.isSign_nat hS)
  have hrb := Dc.rs_rok hb (Dc.isSign_nat hS)
  have hx := rok_mem hra hmem
  have hleast := Cs.leastEnv_sat hL hf
  have hsig : ∀ p : Nat, p < 5 → (Sg.has (S : Int) (p : Int) = true ↔ 0 < Cs.valOf (Cs.leastEnv L) (p + 1)) := by
    subst hLe
    exact (Cs.signed_sat.1 hleast).2
  have hpos : Pos (witL (Cs.tab L) x.1) := witL_pos x.1
  have hno' : ∀ y ∈ Dc.rs b (S : Int), ¬ (0 ≤ Cs.tab L (Cs.node x.1) (Cs.node y.1) ∧ x.2 ≤ Cs.tab L (Cs.node x.1) (Cs.node y.1) + y.2) := fun y hy q => by
    unfold atB at hno
    rw [List.any_eq_false] at hno
    exact hno y hy ((leB_iff _ _ _).2 q)
  have hsm := Dc.rs_small (s := (S : Int)) hb
  have hfin : Cs.SatAll (Cs.valOf (witL (Cs.tab L) x.1)) L → (0 ≤ val (witL (Cs.tab L) x.1) x - 1) → (∀ y ∈ Dc.rs b (S : Int), val (witL (Cs.tab L) x.1) y ≤ val (witL (Cs.tab L) x.1) x - 1) → Dc.ev (witL (Cs.tab L) x.1) b < Dc.ev (witL (Cs.tab L) x.1) a := fun hsat h0 hy => by
    have he := (sign_sat (l := l) (S := S) hpos (by rw [hLe]; exact hsat)).1
    rw [Dc.ev_resid he ha, Dc.ev_resid he hb]
    have q1 := value_le h0 hy
    have q2 := value_mem (env := witL (Cs.tab L) x.1) hmem
    omega
  by_cases hx0 : x.1 < 0
  · have hx1 : x.1 = -1 := by omega
    have hn : Cs.node x.1 = 0 := by rw [hx1]; rfl
    have hsat : Cs.SatAll (Cs.valOf (witL (Cs.tab L) x.1)) L := by rw [witL_least L hx0]; exact hleast
    have hvx : val (witL (Cs.tab L) x.1) x = x.2 := by unfold val; rw [if_pos hx1]
    have hy : ∀ y ∈ Dc.rs b (S : Int), val (witL (Cs.tab L) x.1) y ≤ x.2 - 1 := fun y hy => by
      have hyb := rok_mem hrb hy
      have hne := hno' y hy
      rw [hn] at hne
      have z := Cs.tab_zero L (Cs.node y.1)
      rw [val_node _ hyb.1, witL_least L hx0, Cs.valOf_least hf _ (Cs.node_lt hyb.1 hyb.2.1)]
      unfold Cs.least
      omega
    have h1x : 0 ≤ x.2 - 1 := by
      obtain ⟨y, hym⟩ : ∃ y, y ∈ Dc.rs b (S : Int) := by
        have := hrb.2.1
        exact ⟨(Dc.rs b (S : Int))[0], List.getElem_mem (by omega)⟩
      have hyb := rok_mem hrb hym
      have hne := hno' y hym
      rw [hn] at hne
      have z := Cs.tab_zero L (Cs.node y.1)
      omega
    refine ⟨hpos, hsat, hfin hsat (by rw [hvx]; exact h1x) (by rw [hvx]; exact hy)⟩
  · have hx0' : 0 ≤ x.1 := by omega
    have hnx : Cs.node x.1 = x.1.toNat + 1 := by unfold Cs.node; omega
    have hi : Cs.node x.1 < 6 := Cs.node_lt hx.1 hx.2.1
    have hhas : Sg.has (S : Int) x.1 = true := by
      rcases hx.2.2.2.2 with q | q
      · omega
      · exact q
    have hvi : 0 < Cs.tab L 0 (Cs.node x.1) := by
      have q := (hsig x.1.toNat (by omega)).1 (by rw [show ((x.1.toNat : Nat) : Int) = x.1 by omega]; exact hhas)
      rw [← hnx, Cs.valOf_least hf _ hi] at q
      exact q
    have ht0 : Cs.tab L (Cs.node x.1) 0 < 0 := by
      rcases Int.lt_or_le (Cs.tab L (Cs.node x.1) 0) 0 with q | q
      · exact q
      · have c := Cs.tab_closed hf (i := 0) (j := 0) (k := Cs.node x.1) (by omega) (by omega) hi (by omega) q
        have d := Cs.tab_diag hf (i := 0) (by omega)
        omega
    have hnod := wit_nodes hf hx0' ht0
    have hsat : Cs.SatAll (Cs.valOf (witL (Cs.tab L) x.1)) L := sat_of_nodes hL (Cs.valOf_val fun p => hpos.get p) hnod (Cs.lifted_sat hL hf hi ht0 200)
    have hdi := Cs.tab_diag hf hi
    have hb0 := (Cs.tab_bd hf 0 (Cs.node x.1)).2
    have hvx : val (witL (Cs.tab L) x.1) x = 200 + x.2 := by
      rw [val_node _ hx.1, ← hnod _ hi]
      unfold Cs.lifted
      rw [if_pos (by omega)]
      omega
    have hy : ∀ y ∈ Dc.rs b (S : Int), val (witL (Cs.tab L) x.1) y ≤ 200 + x.2 - 1 := fun y hy => by
      have hyb := rok_mem hrb hy
      have hy6 : Cs.node y.1 < 6 := Cs.node_lt hyb.1 hyb.2.1
      have hne := hno' y hy
      have hbd := (Cs.tab_bd hf 0 (Cs.node y.1)).2
      have h24 := hsm y hy
      rw [val_node _ hyb.1, ← hnod _ hy6]
      unfold Cs.lifted
      split <;> omega
    refine ⟨hpos, hsat, hfin hsat (by rw [hvx]; omega) (by rw [hvx]; exact hy)⟩
/-- where something does not fit, the witness satisfies the list with its sign, and the first level is greater in it -/
theorem un_wit {l : List Cn} {a b : List (Int × Int)} (hok : Cs.ok l) (ha : Lv.levelOk a = true) (hb : Lv.levelOk b = true) {S : Nat} {x : At} (h : exR l a b = some (S, x)) :
    Pos (witL (Cs.tab (sgL l (S : Int))) x.1) ∧ Cs.SatAll (Cs.valOf (witL (Cs.tab (sgL l (S : Int))) x.1)) (sgL l (S : Int)) ∧ Dc.ev (witL (Cs.tab (sgL l (S : Int))) x.1) b < Dc.ev (witL (Cs.tab (sgL l (S : Int))) x.1) a := by
  obtain ⟨hS, h1, _⟩ := exR_at h
  have hf : Cs.flat (sgL l (S : Int)) = true := by
    cases e : Cs.flat (sgL l (S : Int)) with
    | true => rfl
    | false => rw [ex1_no e] at h1; cases h1
  rw [ex1_yes hf] at h1
  exact un_witL rfl (sgL_ok hok (S : Int)) ha hb hS hf (exL_mem h1) (exL_no h1)
/-- comparison under constraints is what it says of envs -/
theorem un_sem {l : List Cn} {a b : List (Int × Int)} (hok : Cs.ok l) (ha : Lv.levelOk a = true) (hb : Lv.levelOk b = true) : exR l a b = none ↔ ∀ env : List Int, env.length = 5 → Pos env → Cs.SatAll (Cs.valOf env) l → Dc.ev env a ≤ Dc.ev env b := by
  constructor
  · intro h env h5 hp hs
    exact un_le hok ha hb h h5 hp hs
  · intro h
    cases e : exR l a b with
    | none => rfl
    | some r =>
      obtain ⟨S, x⟩ := r
      obtain ⟨h1, h2, h3⟩ := un_wit hok ha hb e
      have := h _ (witL_len _ _) h1 (sign_sat h1 h2).2
      omega
end Go.Proofs.YtmbcjddahncocaaDoor.Un

namespace Go.Proofs.YtmbcjddahncocaaDoor
open Go.RowKit
open Cs (Cn Tb)

theorem leastL_cell (T : Tb) {j : Nat} {u : Value} (h : ((leastL T).map (Value.int .i64))[j]? = some u) : j < 5 ∧ u = .int .i64 (T 0 (j + 1)) := by
  have hj : j < 5 := by
    have := (List.getElem?_eq_some_iff.1 h).1
    simpa [leastL] using this
  refine ⟨hj, ?_⟩
  simp [leastL, hj] at h
  exact h.symm
end Go.Proofs.YtmbcjddahncocaaDoor

namespace Go.Proofs.YtmbcjddahncocaaDoor
open Go.RowKit
open Cs (Cn Tb)

/-- the list can hold at the sign -/
def sgnB (l : List Cn) (s : Int) : Bool := consOkR l && Sg.isSign s && Cs.flat (Un.sgL l s)
/-- the table of the signed list -/
def sgnT (l : List Cn) (s : Int) : Tb := if sgnB l s = true then Cs.tab (Un.sgL l s) else zeroT
theorem sgnB_bad {l : List Cn} {s : Int} (h : consOkR l = false) : sgnB l s = false := by unfold sgnB; rw [h]; rfl
theorem sgnB_not {l : List Cn} {s : Int} (h : Sg.isSign s = false) : sgnB l s = false := by unfold sgnB; rw [h, Bool.and_false]; rfl
theorem sgnB_ok {l : List Cn} {s : Int} (h1 : consOkR l = true) (h2 : Sg.isSign s = true) : sgnB l s = Cs.flat (Un.sgL l s) := by unfold sgnB; rw [h1, h2, Bool.true_and, Bool.true_and]
theorem sgnT_no {l : List Cn} {s : Int} (h : sgnB l s = false) : sgnT l s = zeroT := if_neg (by rw [h]; decide)
theorem sgnT_yes {l : List Cn} {s : Int} (h : sgnB l s = true) : sgnT l s = Cs.tab (Un.sgL l s) := if_pos h
theorem sgnT_long {l : List Cn} {s : Int} (h1 : consOkR l = true) (h2 : Sg.isSign s = true) : sgnT l s = longT (Un.sgL l s) := by unfold sgnT longT; rw [sgnB_ok h1 h2]
/-- the answer of SignEnv -/
def signO (l : List Cn) (s : Int) : Option (List Int) := if sgnB l s = true then some (Cs.leastEnv (Un.sgL l s)) else none
theorem signO_no {l : List Cn} {s : Int} (h : sgnB l s = false) : signO l s = none := if_neg (by rw [h]; decide)
theorem signO_yes {l : List Cn} {s : Int} (h : sgnB l s = true) : signO l s = some (Cs.leastEnv (Un.sgL l s)) := if_pos h

set_option maxRecDepth 100000 in
set_option maxHeartbeats 1600000 in
theorem signedPaths_any (w : World) (B b off n c : Nat) (l : List Cn) (s : Int) (hB : B ≤ w.heap.size) (hl : ConR w B (some ⟨b, off, none⟩) n l) (hn : (n : Int) ≤ 140737488355328) :
    Calls Tryd.prog 94 #[.slice (some ⟨b, off, none⟩) n c, .int .i64 s] w fun e w' => e = .returned (.tuple #[tabV (sgnT l s), .bool (sgnB l s)]) ∧ Below w.heap.size w w' := by
  have hz := zeros_tab
  obtain ⟨W0, hW0⟩ : ∃ W, w.alloc (.cells (tabA zeroT) 111) = W := ⟨_, rfl⟩
  have hb0 : Below w.heap.size w W0 := by rw [← hW0]; exact (Below.refl _ _).alloc (Nat.le_refl _) _
  have hs0 : W0.heap.size = w.heap.size + 1 := by rw [← hW0]; simp
  have hk0 : Blk W0 w.heap.size 111 (tabA zeroT) := by rw [← hW0]; exact Blk.made _ _ _
  have HL := Lib.hid (hl.below (hb0.mono hB))
  have HB0 := Lib.hid hb0
  have HK0 := Lib.hid hk0
  clear hl hb0 hk0
  go_enter Tryd.func94, Tryd.ntmps94
  go_wp2_with fail
  refine (implConsOk_any W0 B (some ⟨b, off, none⟩) n c l (by omega) HL.out hn).mono ?_
  rintro e w1 ⟨rfl, hb1⟩
  have HB1 := Lib.hid (HB0.out.trans (hb1.mono (by omega)))
  have hs1 := hb1.size
  have HK1 := Lib.hid (Blk.below HK0.out hb1 (by omega))
  have HL1 := Lib.hid (HL.out.below (hb1.mono (by omega)))
  clear hb1 hW0
  have hbd := build_tab
  have c0 := HK1.out
  have HB6 : Hid (Below w.heap.size w (w1.setRow w.heap.size (tabA zeroT))) := (Wrote.row _ _ _).below HB1.out HB1.out.size (Nat.le_refl _)
  have HB7 : Hid (Blk (w1.setRow w.heap.size (tabA zeroT)) w.heap.size 111 (tabA zeroT)) := BlkT.lay c0 _
  cases hc : consOkR l with
  | false =>
    have HF := Lib.hid (sgnB_bad (s := s) hc)
    have HT := Lib.hid (sgnT_no (sgnB_bad (s := s) hc))
    clear hc
    go_wp2_with (refine wpList_store_row rfl 111 _ _ rfl w.heap.size (tabA zeroT) rfl rfl 111 (tabA zeroT) c0 (size_tab zeroT) rfl (tabA_one zeroT) ?_)
    refine bodyPost_ret (results_cell_tmp2 (p := 4) (q := 5) rfl _ _ w.heap.size 111 (tabA zeroT) (0, 0) _ rfl HB7.out Tryd.underlying111 rfl (size_tab _)) rfl ⟨?_, HB6.out⟩
    show Ending.returned (.tuple #[tabV zeroT, .bool false]) = _
    rw [HF.out, HT.out]
  | true =>
    have HC := Lib.hid hc
    have HP := Lib.hid (consOk_parts hc)
    have HN : Hid (n ≤ 24) := by
      show n ≤ 24
      have h := (consOkR_ok hc).2
      rw [HL1.out.1] at h
      exact h
    clear hc
    go_wp2_with fail
    refine (signOk_any w1 s).mono ?_
    rintro e w1' ⟨rfl, hw⟩
    obtain rfl : w1 = w1' := hw.symm
    cases hs : Sg.isSign s with
    | false =>
      have HF := Lib.hid (sgnB_not (l := l) hs)
      have HT := Lib.hid (sgnT_no (sgnB_not (l := l) hs))
      clear hs
      go_wp2_with (refine wpList_store_row rfl 111 _ _ rfl w.heap.size (tabA zeroT) rfl rfl 111 (tabA zeroT) c0 (size_tab zeroT) rfl (tabA_one zeroT) ?_)
      refine bodyPost_ret (results_cell_tmp2 (p := 4) (q := 5) rfl _ _ w.heap.size 111 (tabA zeroT) (0, 0) _ rfl HB7.out Tryd.underlying111 rfl (size_tab _)) rfl ⟨?_, HB6.out⟩
      show Ending.returned (.tuple #[tabV zeroT, .bool false]) = _
      rw [HF.out, HT.out]
    | true =>
      have HF := Lib.hid (sgnB_ok HC.out hs)
      have HT := Lib.hid (sgnT_long HC.out hs)
      clear hs c0 HB6 HB7 hbd
      have hn24 := HN.out
      go_wp2_with fail
      refine (signedList_any w1 B b off n c l s (by omega) HL1.out (by omega)).mono ?_
      rintro e w2 ⟨g2, c2, rfl, ho2, hb2⟩
      have HR2 := Lib.hid (OwnC.reads ho2)
      have HB2 := Lib.hid (HB1.out.trans (hb2.mono (by omega)))
      have HK2 := Lib.hid (Blk.below HK1.out hb2 HK1.out.lt)
      have hs2 := hb2.size
      clear ho2 hb2
      go_wp2_with fail
      refine (longestPaths_any w2 w2.heap.size (some ⟨g2, 0, none⟩) (n + 5) c2 (Un.sgL l s) (Nat.le_refl _) HR2.out (Cs.signed_ok HP.out.1 _) (by omega)).mono ?_
      rintro e w3 ⟨rfl, hb3⟩
      rw [← HT.out, ← HF.out]
      obtain ⟨T, hT⟩ : ∃ T, sgnT l s = T := ⟨_, rfl⟩
      have HT2 := Lib.hid hT
      rw [hT]
      have HB3 := Lib.hid (HB2.out.trans (hb3.mono (by omega)))
      have c3 := Blk.below HK2.out hb3 HK2.out.lt
      clear hb3 hT
      have HB8 : Hid (Below w.heap.size w (w3.setRow w.heap.size (tabA T))) := (Wrote.row _ _ _).below HB3.out HB3.out.size (Nat.le_refl _)
      have HB9 : Hid (Blk (w3.setRow w.heap.size (tabA T)) w.heap.size 111 (tabA T)) := BlkT.lay c3 _
      go_wp2_with (refine wpList_store_row rfl 111 _ _ rfl w.heap.size (tabA T) rfl rfl 111 (tabA zeroT) c3 (size_tab T) rfl (tabA_one T) ?_)
      refine bodyPost_ret (results_cell_tmp2 (p := 4) (q := 5) rfl _ _ w.heap.size 111 (tabA T) (0, 0) _ rfl HB9.out Tryd.underlying111 rfl (size_tab _)) rfl ⟨?_, HB8.out⟩
      show Ending.returned (.tuple #[tabV T, .bool (sgnB l s)]) = _
      rw [HT2.out]

set_option maxRecDepth 100000 in
set_option maxHeartbeats 1600000 in
theorem specSignEnv_any (w : World) (B b off n c : Nat) (l : List Cn) (s : Int) (hB : B ≤ w.heap.size) (hl : ConR w B (some ⟨b, off, none⟩) n l) (hn : (n : Int) ≤ 140737488355328) :
    Calls Tryd.prog 97 #[.slice (some ⟨b, off, none⟩) n c, .int .i64 s] w (ResJ w (signO l s)) := by
  obtain ⟨i0, hi, hz0, hz1, hz2⟩ := info_parts info_int
  have HL := Lib.hid hl
  clear hl
  go_enter Tryd.func97, Tryd.ntmps97
  go_wp2_with fail
  refine (specConsOk_any w B (some ⟨b, off, none⟩) n c l hB HL.out hn).mono ?_
  rintro e w0 ⟨rfl, hb0⟩
  have HB0 := Lib.hid hb0
  have hs0 := hb0.size
  clear hb0
  cases hc : consOkR l with
  | false =>
    have HF := Lib.hid (signO_no (sgnB_bad (s := s) hc))
    clear hc
    go_wp2
    go_ret2
    rw [HF.out]
    exact resJ_none HB0.out
  | true =>
    have HC := Lib.hid hc
    have HP := Lib.hid (consOk_parts hc)
    have hn24 : n ≤ 24 := by have h := (consOkR_ok hc).2; rw [HL.out.1] at h; exact h
    clear hc
    go_wp2_with fail
    refine (l03Sign_any w0 s).mono ?_
    rintro e w0' ⟨rfl, hw⟩
    obtain rfl : w0 = w0' := hw.symm
    cases hs : Sg.isSign s with
    | false =>
      have HF := Lib.hid (signO_no (sgnB_not (l := l) hs))
      clear hs
      go_wp2
      go_ret2
      rw [HF.out]
      exact resJ_none HB0.out
    | true =>
      have HFB := Lib.hid (sgnB_ok HC.out hs)
      clear hs
      go_wp2_with fail
      refine (l05Signed_any w0 B b off n c l s (by omega) (HL.out.below (HB0.out.mono hB)) (by omega)).mono ?_
      rintro e w1 ⟨g1, c1, rfl, ho1, hb1⟩
      have HB1 := Lib.hid (HB0.out.trans (hb1.mono hs0))
      have HR1 := Lib.hid (OwnC.reads ho1)
      have hs1 := HB1.out.size
      clear ho1 hb1
      go_wp2_with fail
      refine (l05Paths_any w1 w1.heap.size (some ⟨g1, 0, none⟩) (n + 5) c1 (Un.sgL l s) (Nat.le_refl _) HR1.out (Cs.signed_ok HP.out.1 _) (by omega)).mono ?_
      rintro e w2 ⟨hb2, ⟨hf, g, cap, rw', cp, rfl, ht⟩ | ⟨hf, rfl⟩⟩
      · have HF := Lib.hid (signO_yes (HFB.out.trans hf))
        have HB2 := Lib.hid (HB1.out.trans (hb2.mono hs1))
        have q0 := ht.head (i := 0) (by omega)
        have hrow := ht.row 0 (by omega)
        have hcp : 6 ≤ cp 0 := by
          rcases hrow.2 with ⟨h0, _⟩ | ⟨g', cap', cur, hv, _, _, hle, _⟩
          · cases h0
          · injection hv with _ _ e3
            rw [e3]; exact hle
        have HC2 : Hid (∀ j, j < 5 → w2.cell? ⟨rw' 0, 1 + j, none⟩ = some (.int .i64 (Cs.tab (Un.sgL l s) 0 (j + 1)))) := fun j hj => by
          have := (ht.spot (i := 0) (j := j + 1) (by omega) (by omega)).1
          rw [show 1 + j = j + 1 by omega]
          exact this
        have hlt0 := (ht.base (i := 0) (by omega)).2
        obtain ⟨r0, hr0⟩ : ∃ r0, rw' 0 = r0 := ⟨_, rfl⟩
        obtain ⟨p0, hp0⟩ : ∃ p0, cp 0 = p0 := ⟨_, rfl⟩
        rw [hr0] at q0 HC2 hlt0
        rw [hp0] at q0 hcp
        have hs2 := HB2.out.size
        clear hb2 ht hrow hr0 hp0 hf
        obtain ⟨W3, hW3⟩ : ∃ W, w2.alloc (.cells #[] 3) = W := ⟨_, rfl⟩
        have ho3 : OwnI W3 w2.heap.size (some ⟨w2.heap.size, 0, none⟩) 0 0 [] := by rw [← hW3]; exact World.ownsRow_made w2 #[] 0 (Nat.le_refl _) (by simp [maxLen]) (by simp)
        have hb3 : Below w2.heap.size w2 W3 := by rw [← hW3]; exact (Below.refl _ _).alloc (Nat.le_refl _) _
        have q1 : W3.cell? ⟨g, 0, none⟩ = some (.slice (some ⟨r0, 0, none⟩) 6 p0) := (hb3.cell (World.block_lt_of_cell? w2 _ q0)).trans q0
        have HC3 : Hid (∀ j u, ((leastL (Cs.tab (Un.sgL l s))).map (Value.int .i64))[j]? = some u → W3.cell? ((⟨r0, 1, none⟩ : Addr).add j) = some u) := fun j u hu => by
          obtain ⟨hj, rfl⟩ := leastL_cell (Cs.tab (Un.sgL l s)) hu
          have hadd : (⟨r0, 1, none⟩ : Addr).add j = ⟨r0, 1 + j, none⟩ := by
            unfold Addr.add
            by_cases h : j = 0
            · subst h; rfl
            · rw [if_neg h]
          rw [hadd, hb3.cell (by exact hlt0), HC2.out j hj]
        have hs3 : W3.heap.size = w2.heap.size + 1 := by rw [← hW3]; simp
        have HB3 := Lib.hid (HB2.out.trans (hb3.mono hs2))
        clear hb3 q0
        have hones : ∀ u ∈ (leastL (Cs.tab (Un.sgL l s))).map (Value.int .i64), u.oneCell' = true := fun u hu => by
          simp only [List.mem_map] at hu
          obtain ⟨x, _, rfl⟩ := hu
          rfl
        go_wp2_with (at_builtin; refine wpList_append_own _ rfl (.tmp 25) (.tmp 29) 28 rfl w2.heap.size 3 i0 (.int .i64 0) 1 8 Tryd.underlying28 hi hz0 hz1 hz2 rfl (by decide) (.slice (some ⟨w2.heap.size, 0, none⟩) 0 0) 0 [] rfl ho3 ⟨r0, 1, none⟩ 5 (p0 - 1) ((leastL (Cs.tab (Un.sgL l s))).map (Value.int .i64)) rfl rfl HC3.out hones (by unfold maxLen; omega) (by omega) (by omega) ?_; intro v' w4 hown' hgrow hnil)
        obtain ⟨g2, c2, rfl⟩ : ∃ g' c', v' = .slice (some ⟨g', 0, none⟩) (0 + 5) c' := by
          rcases hown'.2 with ⟨h0, _⟩ | ⟨g', c', _, h0, _⟩
          · have := (hnil.1 h0).1
            cases this
          · exact ⟨g', c', h0⟩
        have HB4 : Hid (Below w.heap.size w w4) := HB3.out.grown hgrow (by omega) (fun x h => by have := (ho3.lt x h).1; omega)
        have HO4 : Hid (OwnI w4 w.heap.size (some ⟨g2, 0, none⟩) 5 c2 (Cs.leastEnv (Un.sgL l s))) := by
          have := own_base hown' hs2
          simp only [Nat.zero_add, List.nil_append] at this
          exact this
        clear hown' hgrow hnil ho3
        go_wp2
        go_ret2
        rw [HF.out]
        exact resJ_some (Cs.leastEnv_len (Un.sgL l s)) HO4.out HB4.out
      · have HF := Lib.hid (signO_no (HFB.out.trans hf))
        have HB2 := Lib.hid (HB1.out.trans (hb2.mono hs1))
        clear hb2 hf
        go_wp2
        go_ret2
        rw [HF.out]
        exact resJ_none HB2.out
end Go.Proofs.YtmbcjddahncocaaDoor

namespace Go.Proofs.YtmbcjddahncocaaDoor
open Go.RowKit
open Cs (Cn Tb)

namespace Un
theorem leB_at {T : Tb} {p x q y : Int} {u v : Nat} (hu : p + 1 = u) (hv : q + 1 = v) : leB T (p, x) (q, y) = (decide (0 ≤ T u v) && decide (x ≤ T u v + y)) := by
  unfold leB
  show (decide (0 ≤ T (Cs.node p) (Cs.node q)) && decide (x ≤ T (Cs.node p) (Cs.node q) + y)) = _
  rw [node_of' hu, node_of' hv]
theorem atB_not {T : Tb} {x : Nm.At} {n : List Nm.At} (h : ∀ j, j < n.length → leB T x (n.getD j (0, 0)) = false) : atB T x n = false := atB_none h
end Un

set_option maxRecDepth 100000 in
set_option maxHeartbeats 1600000 in
theorem atomLe_any (w : World) (B : Nat) (T : Tb) (p x : Int) (A : Option Addr) (n c : Nat) (l : List (Int × Int)) (hB : B ≤ w.heap.size) (hl : TokR w B A n l) (hn : (n : Int) ≤ 140737488355328) (hok : Nm.AllOk l) (hp1 : -1 ≤ p) (hp2 : p < 5) (hT : ∀ i j, -1 ≤ T i j ∧ T i j ≤ 1000) :
    Calls Tryd.prog 96 #[tabV T, .agg #[.int .i64 p, .int .i64 x], .slice A n c] w fun e w' => e = .returned (.bool (Un.atB T (p, x) l)) ∧ Below w.heap.size w w' := by
  obtain ⟨W0, hW0⟩ : ∃ W, (w.alloc (.cells (tabA T) 111)).alloc (.cells #[.int .i64 p, .int .i64 x] 68) = W := ⟨_, rfl⟩
  have HB0 : Hid (Below w.heap.size w W0) := by show Below _ _ _; rw [← hW0]; exact ((Below.refl _ _).alloc (Nat.le_refl _) _).alloc (by simp) _
  have HC0 : Hid (Blk W0 w.heap.size 111 (tabA T)) := by
    show Blk _ _ _ _
    rw [← hW0]
    exact Blk.below (Blk.made w _ _) ((Below.refl _ _).alloc (Nat.le_refl _) _) (by simp)
  have HK0 : Hid (Blk W0 (w.heap.size + 1) 68 #[.int .i64 p, .int .i64 x]) := by
    show Blk _ _ _ _
    have h1 : Blk ((w.alloc (.cells (tabA T) 111)).alloc (.cells #[.int .i64 p, .int .i64 x] 68)) (w.alloc (.cells (tabA T) 111)).heap.size 68 #[.int .i64 p, .int .i64 x] := Blk.made _ _ _
    rw [show (w.alloc (.cells (tabA T) 111)).heap.size = w.heap.size + 1 by simp] at h1
    rw [← hW0]
    exact h1
  obtain ⟨u, hu⟩ : ∃ u : Nat, p + 1 = u := ⟨(p + 1).toNat, by omega⟩
  have hu6 : u < 6 := by omega
  have HU := Lib.hid hu
  have HOK := Lib.hid hok
  have HTB := Lib.hid hT
  clear hu hok hT
  go_enter Tryd.func96, Tryd.ntmps96
  go_wp2
  clear hW0
  go_loopw [12] (fun i wr => ∃ k : Nat, k ≤ n ∧ i = .int .i64 k ∧ Hid (∀ j, j < k → Un.leB T (p, x) (l.getD j (0, 0)) = false) ∧ Hid (Below w.heap.size w wr) ∧ Hid (Blk wr w.heap.size 111 (tabA T)) ∧ Hid (Blk wr (w.heap.size + 1) 68 #[.int .i64 p, .int .i64 x])) (fun i _ => n - (intOf i).toNat)
  case atStart => exact ⟨0, Nat.zero_le _, rfl, (fun j hj => absurd hj (by omega)), HB0.out, HC0.out, HK0.out⟩
  case round =>
    clear HB0 HC0 HK0
    obtain ⟨k, hk, rfl, HA, HB, HC, HK⟩ := hrel
    by_cases hlt : k < n
    · have hki : (k : Int) < (n : Int) := by omega
      obtain ⟨b, off, rfl, hb, hc⟩ := hl.2 (by omega)
      obtain ⟨c1, c2⟩ := hc k hlt
      have HL := Lib.hid hl.1
      have hat := (Nm.atOk_iff _).1 (HOK.out k (by rw [hl.1]; exact hlt))
      obtain ⟨t, ht⟩ : ∃ t, l.getD k (0, 0) = t := ⟨_, rfl⟩
      rw [ht] at c1 c2 hat
      obtain ⟨q, y⟩ := t
      simp only at hat
      obtain ⟨a1, a2, a3, a4⟩ := hat
      have HT := Lib.hid ht
      have k1 := (HB.out.cell (p := ⟨b, off + k * 2, none⟩) (by show b < _; omega)).trans c1
      have k2 := (HB.out.cell (p := ⟨b, off + k * 2 + 1, none⟩) (by show b < _; omega)).trans c2
      obtain ⟨v, hv⟩ : ∃ v : Nat, q + 1 = v := ⟨(q + 1).toNat, by omega⟩
      have hv6 : v < 6 := by omega
      obtain ⟨W1, hW1⟩ : ∃ W, wr.alloc (.cells #[.int .i64 q, .int .i64 y] 68) = W := ⟨_, rfl⟩
      have ha1 : Below wr.heap.size wr W1 := by rw [← hW1]; exact (Below.refl _ _).alloc (Nat.le_refl _) _
      have HC1 := Lib.hid (Blk.below HC.out ha1 HC.out.lt)
      have HK1 := Lib.hid (Blk.below HK.out ha1 HK.out.lt)
      have HB1 := Lib.hid (HB.out.trans (ha1.mono HB.out.size))
      have HY1 : Hid (Blk W1 wr.heap.size 68 #[.int .i64 q, .int .i64 y]) := by show Blk _ _ _ _; rw [← hW1]; exact Blk.made _ _ _
      have c0 : Blk W1 w.heap.size 111 (tabA T) := HC1.out
      have z0 : W1.cell? ⟨w.heap.size + 1, 0, none⟩ = some (.int .i64 p) := HK1.out.cell 0
      have y0 : W1.cell? ⟨wr.heap.size, 0, none⟩ = some (.int .i64 q) := HY1.out.cell 0
      obtain ⟨f, hf⟩ : ∃ f, T u v = f := ⟨_, rfl⟩
      have hfb := HTB.out u v
      rw [hf] at hfb
      have HLE : Hid (Un.leB T (p, x) (q, y) = (decide (0 ≤ f) && decide (x ≤ f + y))) := by show _ = _; rw [Un.leB_at HU.out hv, hf]
      have HF := Lib.hid hf
      have HV := Lib.hid hv
      clear c1 c2 hc ht hv hf ha1
      go_wp2_with (refine wpList_load_row rfl 111 _ rfl w.heap.size rfl 111 (tabA T) (0, 0) _ c0 Tryd.underlying111 rfl (size_tab T) ?_)
      refine (far_any W1 T p q u v HU.out hu6 HV.out hv6).mono ?_
      rintro e w2 ⟨rfl, hb2⟩
      rw [HF.out]
      have HB2 := Lib.hid (HB1.out.trans (hb2.mono HB1.out.size))
      have HC2 := Lib.hid (Blk.below HC1.out hb2 HC1.out.lt)
      have HK2 := Lib.hid (Blk.below HK1.out hb2 HK1.out.lt)
      have HY2 := Lib.hid (Blk.below HY1.out hb2 HY1.out.lt)
      have z1 : w2.cell? ⟨w.heap.size + 1, 1, none⟩ = some (.int .i64 x) := HK2.out.cell 1
      have y1 : w2.cell? ⟨wr.heap.size, 1, none⟩ = some (.int .i64 y) := HY2.out.cell 1
      have yes_of : 0 ≤ f → x ≤ f + y → Hid (Un.atB T (p, x) l = true) := fun h1 h2 => Un.atB_some (k := k) (by rw [HL.out]; exact hlt) (by rw [HT.out, HLE.out, decide_eq_true h1, decide_eq_true h2]; rfl)
      have no_of : ¬ (0 ≤ f ∧ x ≤ f + y) → Hid (∀ j, j < k + 1 → Un.leB T (p, x) (l.getD j (0, 0)) = false) := by
        intro h j hj
        by_cases e : j = k
        · subst e
          rw [HT.out, HLE.out, Bool.and_eq_false_iff]
          by_cases h1 : 0 ≤ f
          · exact .inr (decide_eq_false fun h2 => h ⟨h1, h2⟩)
          · exact .inl (decide_eq_false h1)
        · exact HA.out j (by omega)
      clear hb2 c0 z0 y0 k1 k2 hl hW1
      by_cases h1 : f = -1
      · have HA2 := no_of (fun h => by omega)
        subst h1
        clear yes_of no_of hfb
        go_wp2
        go_roundw
        case rel => exact ⟨k + 1, by omega, by go_num, HA2.out, HB2.out, HC2.out, HK2.out⟩
        case measure => simp [intOf]; omega
      · have df : (f != -1) = true := by simpa using h1
        have hf0 : 0 ≤ f := by omega
        by_cases h2 : x ≤ f + y
        · have HR := yes_of hf0 h2
          clear yes_of no_of h1
          go_wp2
          go_ret
          exact ⟨by rw [HR.out]; rfl, HB2.out⟩
        · have dx : decide (x ≤ f + y) = false := decide_eq_false h2
          have HA2 := no_of (fun h => h2 h.2)
          clear yes_of no_of h1 h2
          go_wp2
          go_roundw
          case rel => exact ⟨k + 1, by omega, by go_num, HA2.out, HB2.out, HC2.out, HK2.out⟩
          case measure => simp [intOf]; omega
    · have HR : Hid (Un.atB T (p, x) l = false) := Un.atB_not (fun j hj => HA.out j (by have := hl.1; omega))
      clear hl
      have hki : ¬ (k : Int) < (n : Int) := by omega
      go_wp2
      go_ret
      exact ⟨by rw [HR.out]; rfl, HB.out⟩
end Go.Proofs.YtmbcjddahncocaaDoor
