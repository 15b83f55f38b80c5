/- What a constraint says, said by levels. -/
/- Plain facts: no way is longer than 5; what the witness of two levels is. -/
/- Witness of the reference model. -/
import Derived.Test.YtgebjnoicgmdoaaGreatDoorUnSem
import Derived.Test.YtgebjnoicgmdoaaGreatDoorCsMath7
import Derived.Test.YtgebjnoicgmdoaaGreatDoorCore1
import Derived.Test.YtgebjnoicgmdoaaGreatDoorUnMath2

namespace Go.Proofs.YtgebjnoicgmdoaaGreatDoor
open Nm (Pos)
open Cs (Cn)

/-- what holds of all values holds of all envs -/
theorem sat_envs {l : List Cn} {c : Cn} (hok : Cs.ok l) (hc : Cs.cOk c = true) : (∀ v, Cs.SatAll v l → Cs.Sat v c) ↔ ∀ env : List Int, env.length = 5 → Pos env → Cs.SatAll (Cs.valOf env) l → Cs.Sat (Cs.valOf env) c := by
  constructor
  · exact fun h env _ _ hs => h _ hs
  · intro h v hv
    have hval : ∀ x, x < 6 → v x = Cs.valOf ((List.range 5).map fun p => v (p + 1)) x := by
      intro x hx
      cases x with
      | zero => exact hv.1.1
      | succ p =>
        show _ = ((List.range 5).map fun p => v (p + 1)).getD p 0
        simp [List.getD_eq_getElem?_getD, show p < 5 by omega]
    have hpos : Pos ((List.range 5).map fun p => v (p + 1)) := fun x hx => by
      obtain ⟨p, _, rfl⟩ := List.mem_map.1 hx
      exact hv.1.2 _
    have hs := Un.sat_of_nodes hok (Cs.valOf_val fun p => hpos.get p) hval hv
    exact (Cs.sat_congr hc hval).2 (h _ (by simp) hpos hs)
theorem sat_both {l : List Cn} (h : satR l = true) : consOkR l = true ∧ Cs.flat l = true := by
  unfold satR at h
  rwa [Bool.and_eq_true] at h
theorem impR_iff {l : List Cn} {c : Cn} (h : satR l = true) (hc : Cs.cOk c = true) : impR l c = true ↔ ∀ env : List Int, env.length = 5 → Pos env → Cs.SatAll (Cs.valOf env) l → Cs.Sat (Cs.valOf env) c := by
  obtain ⟨h1, h2⟩ := sat_both h
  rw [← sat_envs (consOkR_ok h1).1 hc, ← Cs.imp_iff (consOkR_ok h1).1 h2 hc]
  unfold impR
  rw [h, hc, Bool.true_and, Bool.true_and]
end Go.Proofs.YtgebjnoicgmdoaaGreatDoor

namespace Go.Proofs.YtgebjnoicgmdoaaGreatDoor.Cs

theorem cnt_lt {p q : Nat → Bool} {x : Nat} : ∀ {l : List Nat}, (∀ y ∈ l, p y = true → q y = true) → x ∈ l → p x = false → q x = true → l.countP p < l.countP q
  | [], _, hx, _, _ => by cases hx
  | y :: t, h, hx, hp, hq => by
    have hle : t.countP p ≤ t.countP q := List.countP_mono_left fun z hz => h z (List.mem_cons_of_mem _ hz)
    have hy := h y List.mem_cons_self
    rw [List.countP_cons, List.countP_cons]
    rcases List.mem_cons.1 hx with e | e
    · subst e
      rw [hp, hq]
      simp
      omega
    · have := cnt_lt (fun z hz => h z (List.mem_cons_of_mem _ hz)) e hp hq
      cases e1 : p y with
      | false => rw [if_neg (by decide)]; split <;> omega
      | true => rw [hy e1]; simp; omega
/-- a valuation pressed together: how many places lie below -/
def rank (v : Nat → Int) (x : Nat) : Int := if x < 6 then (((List.range 6).countP fun y => decide (v y < v x) : Nat) : Int) else 0
theorem rank_in (v : Nat → Int) {x : Nat} (h : x < 6) : rank v x = (((List.range 6).countP fun y => decide (v y < v x) : Nat) : Int) := if_pos h
theorem rank_pos (v : Nat → Int) (x : Nat) : 0 ≤ rank v x := by unfold rank; split <;> omega
theorem rank_max (v : Nat → Int) {x : Nat} (h : x < 6) : rank v x ≤ 5 := by
  rw [rank_in v h]
  have h1 := cnt_lt (p := fun y => decide (v y < v x)) (q := fun _ => true) (x := x) (l := List.range 6) (fun _ _ _ => rfl) (List.mem_range.2 h) (by simp) rfl
  have h2 : (List.range 6).countP (fun _ => true) ≤ 6 := by simp
  omega
theorem rank_le {v : Nat → Int} {x y : Nat} (hx : x < 6) (hy : y < 6) (h : v x ≤ v y) : rank v x ≤ rank v y := by
  rw [rank_in v hx, rank_in v hy]
  have : (List.range 6).countP (fun z => decide (v z < v x)) ≤ (List.range 6).countP (fun z => decide (v z < v y)) := List.countP_mono_left fun z _ hz => by
    simp only [decide_eq_true_iff] at hz ⊢
    omega
  omega
theorem rank_lt {v : Nat → Int} {x y : Nat} (hx : x < 6) (hy : y < 6) (h : v x < v y) : rank v x < rank v y := by
  rw [rank_in v hx, rank_in v hy]
  have := cnt_lt (p := fun z => decide (v z < v x)) (q := fun z => decide (v z < v y)) (x := x) (l := List.range 6) (fun z _ hz => by
    simp only [decide_eq_true_iff] at hz ⊢
    omega) (List.mem_range.2 hx) (by simp) (by simpa using h)
  omega
theorem rank_sat {v : Nat → Int} {l : List Cn} (hok : ok l) (h : SatAll v l) : SatAll (rank v) l := by
  refine ⟨⟨?_, rank_pos v⟩, fun c hc => ?_⟩
  · rw [rank_in v (by omega)]
    have : (List.range 6).countP (fun y => decide (v y < v 0)) = 0 := by
      rw [List.countP_eq_zero]
      intro y _ hy
      have h0 := h.1.1
      have hp := h.1.2 y
      simp only [decide_eq_true_iff] at hy
      omega
    rw [this]
    rfl
  · obtain ⟨⟨u0, u5⟩, ⟨v0, v5⟩, _, _⟩ := (cOk_iff c).1 (hok c hc)
    have hu := node_lt u0 u5
    have hv := node_lt v0 v5
    have hs := h.2 c hc
    unfold Sat at hs ⊢
    split
    · rename_i e
      rw [if_pos e] at hs
      exact rank_le hu hv hs
    · rename_i e
      rw [if_neg e] at hs
      split
      · rename_i e1
        rw [if_pos e1] at hs
        exact rank_lt hu hv hs
      · rename_i e1
        rw [if_neg e1] at hs
        exact Int.le_antisymm (rank_le hu hv (by omega)) (rank_le hv hu (by omega))
theorem tab_five {l : List Cn} (hok : ok l) (hf : flat l = true) {i j : Nat} (_ : i < 6) (hj : j < 6) : tab l i j ≤ 5 := by
  obtain ⟨v, hv⟩ := (sat_iff hok).1 hf
  rcases Int.lt_or_le (tab l i j) 0 with q | q
  · omega
  · have := tab_keeps hok (rank_sat hok hv) i j q
    have h1 := rank_max v hj
    have h2 := rank_pos v i
    omega
end Go.Proofs.YtgebjnoicgmdoaaGreatDoor.Cs
namespace Go.Proofs.YtgebjnoicgmdoaaGreatDoor
open Nm (Pos)
open Cs (Cn)

/-- what Witness answers -/
noncomputable def witR (l : List Cn) (a b : List (Int × Int)) : Option (List Int) := if consOkR l = true ∧ Lv.levelOk a = true ∧ Lv.levelOk b = true then Un.witO l (Un.exR l a b) else none
section
variable {l : List Cn} {a b : List (Int × Int)}
theorem witR_no (h : ¬ (consOkR l = true ∧ Lv.levelOk a = true ∧ Lv.levelOk b = true)) : witR l a b = none := if_neg h
theorem witR_none (h : Un.exR l a b = none) : witR l a b = none := by unfold witR; split <;> simp [h, Un.witO]
theorem witR_some (hc : consOkR l = true) (ha : Lv.levelOk a = true) (hb : Lv.levelOk b = true) {S : Nat} {x : Nm.At} (h : Un.exR l a b = some (S, x)) : witR l a b = some (Un.witL (Cs.tab (Un.sgL l (S : Int))) x.1) := by
  unfold witR
  rw [if_pos ⟨hc, ha, hb⟩, h]
  rfl
/-- what a witness is -/
structure Wit (l : List Cn) (a b : List (Int × Int)) (e : List Int) : Prop where
  len : e.length = 5
  ok : envOk e = true
  pos : Pos e
  sat : Cs.SatAll (Cs.valOf e) l
  gt : Dc.ev e b < Dc.ev e a
  max : ∀ p, p < 5 → e.getD p 0 ≤ 205
theorem wit_is (hc : consOkR l = true) (ha : Lv.levelOk a = true) (hb : Lv.levelOk b = true) {S : Nat} {x : Nm.At} (h : Un.exR l a b = some (S, x)) : Wit l a b (Un.witL (Cs.tab (Un.sgL l (S : Int))) x.1) := by
  have hok := (consOkR_ok hc).1
  obtain ⟨h1, h2, h3⟩ := Un.un_wit hok ha hb h
  have hso := Un.sgL_ok hok (S : Int)
  have hf : Cs.flat (Un.sgL l (S : Int)) = true := (Cs.sat_iff hso).2 ⟨_, h2⟩
  obtain ⟨hS, hx1, _⟩ := Un.exR_at h
  rw [Un.ex1_yes hf] at hx1
  have hx := Un.rok_mem (Dc.rs_rok ha (Dc.isSign_nat hS)) (Un.exL_mem hx1)
  have hm : ∀ p, p < 5 → (Un.witL (Cs.tab (Un.sgL l (S : Int))) x.1).getD p 0 ≤ 205 := fun p hp => by
    rw [Un.witL_get _ _ hp]
    have q1 := Cs.tab_five hso hf (i := 0) (j := p + 1) (by omega) (by omega)
    have q2 := Cs.tab_five hso hf (i := Cs.node x.1) (j := p + 1) (Cs.node_lt hx.1 hx.2.1) (by omega)
    split <;> omega
  have hl := Un.witL_len (Cs.tab (Un.sgL l (S : Int))) x.1
  refine ⟨hl, ?_, h1, (Un.sign_sat h1 h2).2, h3, hm⟩
  unfold envOk
  rw [Bool.and_eq_true, decide_eq_true_iff, List.all_eq_true]
  refine ⟨hl, fun y hy => ?_⟩
  obtain ⟨k, hk, rfl⟩ := List.mem_iff_getElem.1 hy
  have hk5 : k < 5 := by omega
  have e : (Un.witL (Cs.tab (Un.sgL l (S : Int))) x.1).getD k 0 = (Un.witL (Cs.tab (Un.sgL l (S : Int))) x.1)[k] := by rw [List.getD_eq_getElem?_getD, List.getElem?_eq_getElem hk]; rfl
  have := hm k hk5
  have h0 := h1 _ hy
  rw [e] at this
  simp
  omega
theorem wit_le (hc : consOkR l = true) (ha : Lv.levelOk a = true) (hb : Lv.levelOk b = true) : (leUnR l a b = true ∧ witR l a b = none) ∨ (leUnR l a b = false ∧ ∃ e, witR l a b = some e ∧ Wit l a b e) := by
  rw [leUnR_y hc ha hb]
  cases h : Un.exR l a b with
  | none => exact .inl ⟨rfl, witR_none h⟩
  | some r =>
    obtain ⟨S, x⟩ := r
    exact .inr ⟨rfl, _, witR_some hc ha hb h, wit_is hc ha hb h⟩
theorem wit_bad (h : ¬ (consOkR l = true ∧ Lv.levelOk a = true ∧ Lv.levelOk b = true)) : leUnR l a b = false ∧ witR l a b = none := by
  refine ⟨?_, witR_no h⟩
  cases hc : consOkR l with
  | false => exact leUnR_c hc
  | true =>
    cases ha : Lv.levelOk a with
    | false => exact leUnR_a ha
    | true =>
      cases hb : Lv.levelOk b with
      | false => exact leUnR_b hb
      | true => exact absurd ⟨hc, ha, hb⟩ h
variable {e : List Int}
theorem Wit.least (h : Wit l a b e) (hc : consOkR l = true) {p : Nat} (hp : p < 5) : (Cs.leastEnv l).getD p 0 ≤ e.getD p 0 := Cs.leastEnv_le (consOkR_ok hc).1 h.sat hp
theorem Wit.flat (h : Wit l a b e) (hc : consOkR l = true) : satR l = true := by
  unfold satR
  rw [hc, (Cs.sat_iff (consOkR_ok hc).1).2 ⟨_, h.sat⟩]
  rfl
theorem Wit.zero (h : Wit l a b e) (hc : consOkR l = true) {p : Nat} (hp : p < 5) (hi : impR l ((p : Int), 0, -1) = true) : e.getD p 0 = 0 := by
  have hk : Cs.cOk ((p : Int), 0, -1) = true := by
    rw [Cs.cOk_iff]
    show (-1 ≤ (p : Int) ∧ (p : Int) < 5) ∧ ((-1 : Int) ≤ -1 ∧ (-1 : Int) < 5) ∧ (0 : Int) ≤ 0 ∧ (0 : Int) ≤ 2
    omega
  have h1 := (impR_iff (h.flat hc) hk).1 hi e h.len h.pos h.sat
  unfold Cs.Sat at h1
  rw [if_pos rfl] at h1
  have h2 : e.getD p 0 ≤ 0 := by
    have : Cs.valOf e (Cs.node (p : Int)) ≤ Cs.valOf e (Cs.node (-1)) := h1
    rw [node_nat] at this
    exact this
  have := h.pos.get p
  omega
theorem Wit.hold (h : Wit l a b e) (hc : consOkR l = true) : consHoldR l e = true := (consHold_sat hc h.ok).2 h.sat
end
end Go.Proofs.YtgebjnoicgmdoaaGreatDoor

namespace Go.Proofs.YtgebjnoicgmdoaaGreatDoor
open Go.RowKit
open Cs (Cn Tb)

/-- the env that is being raised -/
def witK (T : Tb) (u k : Nat) : List Int := (List.range 5).map fun j => if j < k ∧ 0 ≤ T u (j + 1) then max (T 0 (j + 1)) (200 + T u (j + 1)) else T 0 (j + 1)
theorem witK_zero (T : Tb) (u : Nat) : witK T u 0 = leastL T := by
  unfold witK leastL
  apply List.map_congr_left
  intro j _
  rw [if_neg (fun h => by omega)]
theorem witK_all {T : Tb} {p : Int} (hp : 0 ≤ p) : witK T (Cs.node p) 5 = Un.witL T p := by
  unfold witK Un.witL
  apply List.map_congr_left
  intro j hj
  have := List.mem_range.1 hj
  by_cases h : 0 ≤ T (Cs.node p) (j + 1)
  · rw [if_pos ⟨this, h⟩, if_pos ⟨hp, h⟩]
  · rw [if_neg (fun q => h q.2), if_neg (fun q => h q.2)]
theorem witK_at (T : Tb) (u k : Nat) {j : Nat} (hj : j < 5) (hk : k ≤ j) : (witK T u k)[j]? = some (T 0 (j + 1)) := by
  simp only [witK, List.getElem?_map, List.getElem?_range hj, Option.map_some]
  rw [if_neg (fun h => by omega)]
theorem witK_step {T : Tb} {u k : Nat} (_ : k < 5) (h : 0 ≤ T u (k + 1)) : (witK T u k).set k (max (T 0 (k + 1)) (200 + T u (k + 1))) = witK T u (k + 1) := by
  apply List.ext_getElem (by simp [witK])
  intro i h1 h2
  rw [List.getElem_set]
  simp only [witK, List.getElem_map, List.getElem_range]
  by_cases e : k = i
  · subst e
    rw [if_pos rfl, if_pos ⟨by omega, h⟩]
  · rw [if_neg e]
    by_cases c : i < k
    · by_cases d : 0 ≤ T u (i + 1)
      · rw [if_pos ⟨c, d⟩, if_pos ⟨by omega, d⟩]
      · rw [if_neg (fun q => d q.2), if_neg (fun q => d q.2)]
    · rw [if_neg (fun q => c q.1), if_neg (fun q => by omega)]
theorem witK_skip {T : Tb} {u k : Nat} (h : ¬ 0 ≤ T u (k + 1)) : witK T u (k + 1) = witK T u k := by
  unfold witK
  apply List.map_congr_left
  intro j _
  by_cases e : j = k
  · subst e
    rw [if_neg (fun q => h q.2), if_neg (fun q => h q.2)]
  · by_cases c : j < k
    · by_cases d : 0 ≤ T u (j + 1)
      · rw [if_pos ⟨by omega, d⟩, if_pos ⟨c, d⟩]
      · rw [if_neg (fun q => d q.2), if_neg (fun q => d q.2)]
    · rw [if_neg (fun q => by omega), if_neg (fun q => c q.1)]
theorem exR_flat {l : List Cn} {a b : List (Int × Int)} {S : Nat} {x : Nm.At} (h : Un.exR l a b = some (S, x)) : Cs.flat (Un.sgL l (S : Int)) = true := by
  cases e : Cs.flat (Un.sgL l (S : Int)) with
  | true => rfl
  | false =>
    have h1 := (Un.exR_at h).2.1
    rw [Un.ex1_no e] at h1
    cases h1
theorem exR_par {l : List Cn} {a b : List (Int × Int)} {S : Nat} {x : Nm.At} (ha : Lv.levelOk a = true) (h : Un.exR l a b = some (S, x)) : -1 ≤ x.1 ∧ x.1 < 5 := by
  obtain ⟨hS, h1, _⟩ := Un.exR_at h
  rw [Un.ex1_yes (exR_flat h)] at h1
  have := Un.rok_mem (Dc.rs_rok ha (Dc.isSign_nat hS)) (Un.exL_mem h1)
  exact ⟨this.1, this.2.1⟩

set_option maxRecDepth 100000 in
set_option maxHeartbeats 4000000 in
theorem specWitness_any (w : World) (B b off n c : Nat) (l : List Cn) (A1 : Option Addr) (n1 c1 : Nat) (a : List (Int × Int)) (A2 : Option Addr) (n2 c2 : Nat) (m : List (Int × Int)) (hB : B ≤ w.heap.size) (hl : ConR w B (some ⟨b, off, none⟩) n l) (hn : (n : Int) ≤ 140737488355328)
    (ha : TokR w B A1 n1 a) (hn1 : (n1 : Int) ≤ 140737488355328) (hm : TokR w B A2 n2 m) (hn2 : (n2 : Int) ≤ 140737488355328) :
    Calls Tryz.prog 13 #[.slice (some ⟨b, off, none⟩) n c, .slice A1 n1 c1, .slice A2 n2 c2] w (ResJ w (witR l a m)) := by
  obtain ⟨i0, hi, hz0, hz1, hz2⟩ := info_parts info_int
  have HL := Lib.hid hl
  have HA := Lib.hid ha
  have HM := Lib.hid hm
  clear hl ha hm
  go_enter Tryz.func13, Tryz.ntmps13
  go_wp2_with fail
  refine (l06Right_any w B b off n c l A1 n1 c1 a A2 n2 c2 m hB HL.out hn HA.out hn1 HM.out hn2).mono ?_
  rintro e w1 ⟨rfl, hb1⟩
  have HB1 := Lib.hid hb1
  have hs1 := hb1.size
  clear hb1
  cases h1 : rightR l a m with
  | false =>
    have HF : Hid (witR l a m = none) := witR_no (fun h => by unfold rightR at h1; rw [h.1, h.2.1, h.2.2] at h1; cases h1)
    clear h1
    go_wp2
    go_ret2
    rw [HF.out]
    exact resJ_none HB1.out
  | true =>
    have HP := Lib.hid (rightR_yes h1)
    clear h1
    go_wp2_with fail
    refine (l06First_any w1 B b off n c l A1 n1 c1 a A2 n2 c2 m (by omega) (HL.out.below (HB1.out.mono hB)) hn (HA.out.below (HB1.out.mono hB)) hn1 (HM.out.below (HB1.out.mono hB)) hn2 HP.out.1 HP.out.2.1 HP.out.2.2).mono ?_
    rintro e w2 ⟨rfl, hb2⟩
    have HB2 := Lib.hid (HB1.out.trans (hb2.mono hs1))
    have hs2 := HB2.out.size
    clear hb2
    cases hr : Un.exR l a m with
    | none =>
      have HF : Hid (witR l a m = none) := witR_none hr
      rw [fstV_none]
      clear hr
      go_wp2
      go_ret2
      rw [HF.out]
      exact resJ_none (HB2.out.alloc HB2.out.size _)
    | some r =>
      obtain ⟨S, p, x⟩ := r
      have HF := Lib.hid (witR_some HP.out.1 HP.out.2.1 HP.out.2.2 hr)
      have HFL := Lib.hid (exR_flat hr)
      obtain ⟨hp1, hp2⟩ := exR_par HP.out.2.1 hr
      have hp1 : -1 ≤ p := hp1
      have hp2 : p < 5 := hp2
      have hn24 : n ≤ 24 := by have h := (consOkR_ok HP.out.1).2; rw [HL.out.1] at h; exact h
      rw [fstV_some]
      have hd : decide ((S : Int) < 0) = false := by simp
      clear hr
      obtain ⟨W3, hW3⟩ : ∃ W, w2.alloc (.cells #[.int .i64 p, .int .i64 x] 92) = W := ⟨_, rfl⟩
      have hb3 : Below w2.heap.size w2 W3 := by rw [← hW3]; exact (Below.refl _ _).alloc (Nat.le_refl _) _
      have hs3 : W3.heap.size = w2.heap.size + 1 := by rw [← hW3]; simp
      have HK3 : Hid (Blk W3 w2.heap.size 92 #[.int .i64 p, .int .i64 x]) := by show Blk _ _ _ _; rw [← hW3]; exact Blk.made _ _ _
      have HB3 := Lib.hid (HB2.out.trans (hb3.mono hs2))
      clear hb3
      go_wp2_with fail
      clear hW3
      refine (l05Signed_any W3 B b off n c l S (by omega) (HL.out.below (HB3.out.mono hB)) (by omega)).mono ?_
      rintro e w4 ⟨g5, c5, rfl, ho4, hb4⟩
      have HR4 := Lib.hid (OwnC.reads ho4)
      have HB4 := Lib.hid (HB3.out.trans (hb4.mono (by omega)))
      have HK4 := Lib.hid (HK3.out.below hb4 (by omega))
      have hs4 := hb4.size
      clear ho4 hb4
      go_wp2_with fail
      refine (l05Paths_any w4 w4.heap.size (some ⟨g5, 0, none⟩) (n + 5) c5 (Un.sgL l (S : Int)) (Nat.le_refl _) HR4.out (Cs.signed_ok (consOkR_ok HP.out.1).1 _) (by omega)).mono ?_
      rintro e w5 ⟨hb5, ⟨hf, g, cap, rw', cp, rfl, ht⟩ | ⟨hf, rfl⟩⟩
      · have HT5 := Lib.hid ht
        have HB5 := Lib.hid (HB4.out.trans (hb5.mono (by omega)))
        have HK5 := Lib.hid (HK4.out.below hb5 (by omega))
        have hs5 := hb5.size
        obtain ⟨T, hT⟩ : ∃ T, Cs.tab (Un.sgL l (S : Int)) = T := ⟨_, rfl⟩
        have HTB : Hid (∀ i j, -1 ≤ T i j ∧ T i j ≤ 1000) := by
          show ∀ i j, _
          rw [← hT]
          exact fun i j => ⟨(Cs.tab_bd HFL.out i j).1, Int.le_trans (Cs.tab_bd HFL.out i j).2 (by decide)⟩
        have HWL : Hid (p < 0 → Un.witL T p = leastL T) := by show _ → _; rw [← hT]; exact fun h => Un.witL_least _ h
        rw [hT] at HT5 HF
        have q0 := HT5.out.head (i := 0) (by omega)
        have hrow := HT5.out.row 0 (by omega)
        have hcp : 6 ≤ cp 0 := by
          rcases hrow.2 with ⟨h0, _⟩ | ⟨g', cap', cur, hv, _, _, hle, _⟩
          · cases h0
          · injection hv with _ _ e3
            rw [e3]; exact hle
        have HC5 : Hid (∀ j, j < 5 → w5.cell? ⟨rw' 0, 1 + j, none⟩ = some (.int .i64 (T 0 (j + 1)))) := fun j hj => by
          have := (HT5.out.spot (i := 0) (j := j + 1) (by omega) (by omega)).1
          rw [show 1 + j = j + 1 by omega]
          exact this
        have hlt0 := (HT5.out.base (i := 0) (by omega)).2
        obtain ⟨r0, hr0⟩ : ∃ r0, rw' 0 = r0 := ⟨_, rfl⟩
        obtain ⟨p0, hp0⟩ : ∃ p0, cp 0 = p0 := ⟨_, rfl⟩
        rw [hr0] at q0 HC5 hlt0
        rw [hp0] at q0 hcp
        clear hb5 ht hrow hr0 hp0 hf hT
        obtain ⟨W6, hW6⟩ : ∃ W, w5.alloc (.cells #[] 3) = W := ⟨_, rfl⟩
        have ho6 : OwnI W6 w5.heap.size (some ⟨w5.heap.size, 0, none⟩) 0 0 [] := by rw [← hW6]; exact World.ownsRow_made w5 #[] 0 (Nat.le_refl _) (by simp [maxLen]) (by simp)
        have hb6 : Below w5.heap.size w5 W6 := by rw [← hW6]; exact (Below.refl _ _).alloc (Nat.le_refl _) _
        have q1 : W6.cell? ⟨g, 0, none⟩ = some (.slice (some ⟨r0, 0, none⟩) 6 p0) := (hb6.cell (World.block_lt_of_cell? w5 _ q0)).trans q0
        have HC6 : Hid (∀ j u, ((leastL T).map (Value.int .i64))[j]? = some u → W6.cell? ((⟨r0, 1, none⟩ : Addr).add j) = some u) := fun j u hu => by
          obtain ⟨hj, rfl⟩ := leastL_cell T hu
          have hadd : (⟨r0, 1, none⟩ : Addr).add j = ⟨r0, 1 + j, none⟩ := by
            unfold Addr.add
            by_cases h : j = 0
            · subst h; rfl
            · rw [if_neg h]
          rw [hadd, hb6.cell (by exact hlt0), HC5.out j hj]
        have hs6 : W6.heap.size = w5.heap.size + 1 := by rw [← hW6]; simp
        have HB6 : Hid (Below w5.heap.size w5 W6) := hb6
        clear hb6 q0
        have hones : ∀ u ∈ (leastL T).map (Value.int .i64), u.oneCell' = true := fun u hu => by
          simp only [List.mem_map] at hu
          obtain ⟨x, _, rfl⟩ := hu
          rfl
        go_wp2_with (at_builtin; refine wpList_append_own _ rfl (.tmp 36) (.tmp 40) 29 rfl w5.heap.size 3 i0 (.int .i64 0) 1 8 Tryz.underlying29 hi hz0 hz1 hz2 rfl (by decide) (.slice (some ⟨w5.heap.size, 0, none⟩) 0 0) 0 [] rfl ho6 ⟨r0, 1, none⟩ 5 (p0 - 1) ((leastL T).map (Value.int .i64)) rfl rfl HC6.out hones (by unfold maxLen; omega) (by omega) (by omega) ?_; intro v' w7 hown' hgrow hnil)
        obtain ⟨g2, c2, rfl⟩ : ∃ g' c', v' = .slice (some ⟨g', 0, none⟩) (0 + 5) c' := by
          rcases hown'.2 with ⟨h0, _⟩ | ⟨g', c', _, h0, _⟩
          · have := (hnil.1 h0).1
            cases this
          · exact ⟨g', c', h0⟩
        have HB7 : Hid (Below w5.heap.size w5 w7) := HB6.out.grown hgrow (by omega) (fun x h => by have := (ho6.lt x h).1; omega)
        have HO7 : Hid (OwnI w7 w5.heap.size (some ⟨g2, 0, none⟩) 5 c2 (leastL T)) := by
          have := hown'
          simp only [Nat.zero_add, List.nil_append] at this
          exact this
        have hg2 : w5.heap.size ≤ g2 := (HO7.out.lt g2 rfl).1
        have hs7 := HB7.out.size
        clear hown' hgrow hnil ho6 hones HC6 q1 hW6
        by_cases hp : p < 0
        · have hwl := HWL.out hp
          have z0 : w7.cell? ⟨w2.heap.size, 0, none⟩ = some (.int .i64 p) := (HK5.out.below HB7.out (by omega)).cell 0
          have dp : decide (0 ≤ p) = false := decide_eq_false (by omega)
          have HO8 := HO7.out
          rw [← hwl] at HO8
          have HW8 := Lib.hid (own_base (base' := w.heap.size) HO8 HB5.out.size)
          have HB8 := Lib.hid (HB5.out.trans (HB7.out.mono HB5.out.size))
          clear hwl HO8 hp
          go_wp2
          refine wp_loop_rounds 1 ?_
          rw [rounds_succ]
          go_wp2
          go_ret2
          rw [HF.out]
          exact resJ_some (Un.witL_len T p) HW8.out HB8.out
        · obtain ⟨u, hu⟩ : ∃ u : Nat, p + 1 = u := ⟨(p + 1).toNat, by omega⟩
          have hu6 : u < 6 := by omega
          have hui : (u : Int) < 6 := by omega
          have hnu : Cs.node p = u := by unfold Cs.node; omega
          have HWK : Hid (witK T u 5 = Un.witL T p) := by show _ = _; rw [← hnu]; exact witK_all (by omega)
          have wu : IntKind.i64.wrap (p + 1) = u := by rw [hu]; exact IntWalk.i64_in _ ⟨by omega, by omega⟩
          have HO7' : Hid (OwnI w7 w5.heap.size (some ⟨g2, 0, none⟩) 5 c2 (witK T u 0)) := by show OwnI _ _ _ _ _ _; rw [witK_zero]; exact HO7.out
          have dp : decide (0 ≤ p) = true := decide_eq_true (by omega)
          go_wp2
          clear HO7 HWL
          go_loopw [13] (fun i wr => ∃ k : Nat, k ≤ 5 ∧ i = .int .i64 k ∧ Hid (OwnI wr w5.heap.size (some ⟨g2, 0, none⟩) 5 c2 (witK T u k)) ∧ Hid (Below w5.heap.size w5 wr)) (fun i _ => 5 - (intOf i).toNat)
          case atStart => exact ⟨0, by omega, rfl, HO7'.out, HB7.out⟩
          case round =>
            clear HO7' HB7
            obtain ⟨k, hk, rfl, HO, HB⟩ := hrel
            have z0 : wr.cell? ⟨w2.heap.size, 0, none⟩ = some (.int .i64 p) := (HK5.out.below HB.out (by omega)).cell 0
            by_cases hlt : k < 5
            · have hki : (k : Int) < 5 := by omega
              have q1 := (HT5.out.below HB.out).head hu6
              obtain ⟨v, hkv⟩ : ∃ v, k + 1 = v := ⟨_, rfl⟩
              have hv : (k : Int) + 1 = v := by omega
              have hv6 : v < 6 := by omega
              have hvi : (v : Int) < 6 := by omega
              obtain ⟨q2, _⟩ := (HT5.out.below HB.out).spot hu6 hv6
              have wu1 : IntKind.i64.wrap (u : Int) = u := IntWalk.i64_in _ ⟨by omega, by omega⟩
              have wv1 : IntKind.i64.wrap (v : Int) = v := IntWalk.i64_in _ ⟨by omega, by omega⟩
              have hu0 : 0 ≤ (u : Int) := by omega
              have hv0 : 0 ≤ (v : Int) := by omega
              obtain ⟨f, hf⟩ : ∃ f, T u v = f := ⟨_, rfl⟩
              have hfb := HTB.out u v
              rw [hf] at hfb q2
              have HF1 := Lib.hid hf
              clear hf
              by_cases hf0 : 0 ≤ f
              · have df : decide (0 ≤ f) = true := decide_eq_true hf0
                obtain ⟨q3, q4⟩ := own_spot HO.out (i := k) (u := .int .i64 (T 0 (k + 1))) (by rw [List.getElem?_map, witK_at T u k hlt (Nat.le_refl k)]; rfl)
                have ht0 := HTB.out 0 (k + 1)
                have HST := Lib.hid (witK_step (T := T) (u := u) hlt (by rw [hkv, HF1.out]; exact hf0))
                rw [hkv, HF1.out] at HST
                rw [hkv] at q3 ht0
                obtain ⟨t0, hT0⟩ : ∃ t0, T 0 v = t0 := ⟨_, rfl⟩
                rw [hT0] at q3 ht0 HST
                have wf : IntKind.i64.wrap (200 + f) = 200 + f := IntWalk.i64_in _ ⟨by omega, by omega⟩
                have HO3 : Hid (OwnI (wr.setCell ⟨g2, k, none⟩ (.int .i64 (max t0 (200 + f)))) w5.heap.size (some ⟨g2, 0, none⟩) 5 c2 (witK T u v)) := by
                  have := own_set HO.out k (.int .i64 (max t0 (200 + f)))
                  rw [← List.map_set, HST.out] at this
                  exact this
                have HB3 : Hid (Below w5.heap.size w5 (wr.setCell ⟨g2, k, none⟩ (.int .i64 (max t0 (200 + f))))) := HB.out.setCell (p := ⟨g2, k, none⟩) hg2 _
                clear hT0
                go_wp2
                go_roundw
                case rel =>
                  have hmx : (if t0 < 200 + f then 200 + f else t0) = max t0 (200 + f) := by split <;> omega
                  exact ⟨v, by omega, rfl, by rw [hmx]; exact HO3.out, by rw [hmx]; exact HB3.out⟩
                case measure => simp [intOf]; omega
              · obtain rfl : f = -1 := by omega
                have HO3 : Hid (OwnI wr w5.heap.size (some ⟨g2, 0, none⟩) 5 c2 (witK T u v)) := by
                  show OwnI _ _ _ _ _ _
                  rw [← hkv, witK_skip (by rw [hkv, HF1.out]; exact hf0)]
                  exact HO.out
                clear hf0 hfb
                go_wp2
                go_roundw
                case rel => exact ⟨v, by omega, rfl, HO3.out, HB.out⟩
                case measure => simp [intOf]; omega
            · obtain rfl : k = 5 := by omega
              rw [HWK.out] at HO
              have HO9 := Lib.hid (own_base (base' := w.heap.size) HO.out HB5.out.size)
              have HB9 := Lib.hid (HB5.out.trans (HB.out.mono HB5.out.size))
              go_wp2
              go_ret2
              rw [HF.out]
              exact resJ_some (Un.witL_len T p) HO9.out HB9.out
      · exact absurd (hf.symm.trans HFL.out) (by decide)
end Go.Proofs.YtgebjnoicgmdoaaGreatDoor
