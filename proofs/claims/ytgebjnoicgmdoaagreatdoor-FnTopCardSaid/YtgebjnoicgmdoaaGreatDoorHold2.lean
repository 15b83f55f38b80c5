/- LeUnder and EqUnder of the program. -/
/- Witness of the program. -/
/- Plain facts: Counter's env is one in which the first level is greater; an env of small numbers. -/
/- Plain facts of FnTop: an env raised to another one; what LeUnder says of an env that satisfies the list. -/
/- ConsHold, of the program and of the reference model. -/
import Derived.Test.YtgebjnoicgmdoaaGreatDoorUnCu
import Derived.Test.YtgebjnoicgmdoaaGreatDoorUnSem
import Derived.Test.YtgebjnoicgmdoaaGreatDoorRsMath
import Derived.Test.YtgebjnoicgmdoaaGreatDoorWitS
import Derived.Test.YtgebjnoicgmdoaaGreatDoorUnMath2
import Derived.Test.YtgebjnoicgmdoaaGreatDoorSpec
import Derived.Test.YtgebjnoicgmdoaaGreatDoorCore1

namespace Go.Proofs.YtgebjnoicgmdoaaGreatDoor
open Go.RowKit
open Cs (Cn Tb)

/-- compareUnder gives back nil just where the first level is at most the second one -/
theorem cmpV_le (l : List Cn) (a b : List (Int × Int)) (Tc : TypeId) (pc : Value) (T : TypeId) (pv : Value) :
    (cmpV l a b Tc pc T pv = .nilIface ∧ leUnR l a b = true) ∨ ((∃ t v, cmpV l a b Tc pc T pv = .iface t v) ∧ leUnR l a b = false) := by
  cases h : consOkR l with
  | false => exact .inr ⟨⟨_, _, cmpV_c h⟩, leUnR_c h⟩
  | true =>
    cases h1 : Lv.levelOk a with
    | false => exact .inr ⟨⟨_, _, cmpV_a h (fun q => by rw [h1] at q; cases q.1)⟩, leUnR_a h1⟩
    | true =>
      cases h2 : Lv.levelOk b with
      | false => exact .inr ⟨⟨_, _, cmpV_a h (fun q => by rw [h2] at q; cases q.2)⟩, leUnR_b h2⟩
      | true =>
        rw [cmpV_y h ⟨h1, h2⟩, leUnR_y h h1 h2]
        cases Un.exR l a b with
        | none => exact .inl ⟨rfl, rfl⟩
        | some r => exact .inr ⟨⟨_, _, rfl⟩, rfl⟩

set_option maxRecDepth 100000 in
set_option maxHeartbeats 1600000 in
theorem implLeUnder_any (w : World) (B : Nat) (A : Option Addr) (n c : Nat) (l : List Cn) (A1 : Option Addr) (n1 c1 : Nat) (a : List (Int × Int)) (A2 : Option Addr) (n2 c2 : Nat) (m : List (Int × Int)) (T : TypeId) (pv : Value) (Tc : TypeId) (pc : Value) (h0 : 1 < B) (h0c : 0 < B) (hB : B ≤ w.heap.size)
    (hA : SlOk A n c) (hl : ConR w B A n l) (hn : (n : Int) ≤ 140737488355328) (ha : TokR w B A1 n1 a) (hn1 : (n1 : Int) ≤ 140737488355328) (hm : TokR w B A2 n2 m) (hn2 : (n2 : Int) ≤ 140737488355328) (hE : ErrAt w T pv) (hEc : ErrCAt w Tc pc) :
    Calls Tryz.prog 11 #[.slice A n c, .slice A1 n1 c1, .slice A2 n2 c2] w fun e w' => e = .returned (.bool (leUnR l a m)) ∧ Below w.heap.size w w' := by
  have HE := Lib.hid hE
  have HEc := Lib.hid hEc
  have HL := Lib.hid hl
  have HA := Lib.hid ha
  have HM := Lib.hid hm
  clear hE hEc hl ha hm
  go_enter Tryz.func11, Tryz.ntmps11
  go_wp2_with fail
  refine (compareUnder_any w B A n c l A1 n1 c1 a A2 n2 c2 m T pv Tc pc h0 h0c hB hA HL.out hn HA.out hn1 HM.out hn2 HE.out HEc.out).mono ?_
  rintro e w1 ⟨rfl, hb1⟩
  have HB1 := Lib.hid hb1
  clear hb1
  rcases cmpV_le l a m Tc pc T pv with ⟨hv, hr⟩ | ⟨⟨t, v, hv⟩, hr⟩
  · have HR := Lib.hid hr
    rw [hv]
    clear hv hr
    go_wp2
    go_ret
    exact ⟨by rw [HR.out]; rfl, HB1.out⟩
  · have HR := Lib.hid hr
    rw [hv]
    clear hv hr
    go_wp2
    go_ret
    exact ⟨by rw [HR.out]; rfl, HB1.out⟩
end Go.Proofs.YtgebjnoicgmdoaaGreatDoor

namespace Go.Proofs.YtgebjnoicgmdoaaGreatDoor
open Go.RowKit
open Cs (Cn Tb)

theorem excA_size (T : Tb) (p : Int) : (excA T p).size = 37 := by unfold excA; rw [Array.size_append, tabA_size]; rfl
theorem size_exc (T : Tb) (p : Int) : (Tryz.prog.info? 87).map (·.size) = some (excA T p).size := by rw [excA_size]; kernel_rfl
theorem excA_one (T : Tb) (p : Int) : (excA T p).all (·.oneCell') = true := by
  rw [Array.all_eq_true_iff_forall_mem]
  intro x hx
  unfold excA at hx
  rw [Array.mem_append] at hx
  rcases hx with h | h
  · simp at h
    subst h
    rfl
  · exact (Array.all_eq_true_iff_forall_mem.1 (tabA_one T)) x h
theorem excA_zero (T : Tb) (p : Int) : (excA T p)[0]? = some (.int .i64 p) := by
  unfold excA
  rw [Array.getElem?_append_left (by simp)]
  rfl
theorem excA_tab (T : Tb) (p : Int) (j : Nat) : (excA T p)[1 + j]? = (tabA T)[j]? := by
  unfold excA
  rw [Array.getElem?_append_right (by simp), show 1 + j - (#[Value.int .i64 p] : Array Value).size = j by simp]
theorem witL_neg {T : Tb} {p : Int} (hp : p < 0) : Un.witL T p = leastL T := by
  unfold Un.witL leastL
  apply List.map_congr_left
  intro j _
  rw [if_neg (fun h => by omega)]

set_option maxRecDepth 100000 in
set_option maxHeartbeats 4000000 in
theorem excEnv_any (w : World) (T : Tb) (p : Int) (hp1 : -1 ≤ p) (hp2 : p < 5) (hT : ∀ i j, -1 ≤ T i j ∧ T i j ≤ 1000) :
    Calls Tryz.prog 53 #[.agg (excA T p)] w fun e w' => ∃ g, e = .returned (.slice (some ⟨g, 0, none⟩) 5 5) ∧ OwnI w' w.heap.size (some ⟨g, 0, none⟩) 5 5 (Un.witL T p) ∧ Below w.heap.size w w' := by
  obtain ⟨W0, hW0⟩ : ∃ W, w.alloc (.cells (excA T p) 87) = W := ⟨_, rfl⟩
  have hb0 : Below w.heap.size w W0 := by rw [← hW0]; exact (Below.refl _ _).alloc (Nat.le_refl _) _
  have hs0 : W0.heap.size = w.heap.size + 1 := by rw [← hW0]; simp
  have hx0 : Blk W0 w.heap.size 87 (excA T p) := by rw [← hW0]; exact Blk.made _ _ _
  have HC : Hid (∀ X, Below W0.heap.size W0 X → ∀ j, j < (tabA T).size → X.cell? ⟨w.heap.size, 1 + j, none⟩ = (tabA T)[j]?) := fun X hX j _ => by
    rw [(Blk.below hx0 hX hx0.lt).cell (1 + j), excA_tab]
  have HZ : Hid (∀ X, Below W0.heap.size W0 X → X.cell? ⟨w.heap.size, 0, none⟩ = some (.int .i64 p)) := fun X hX => by
    rw [(Blk.below hx0 hX hx0.lt).cell 0, excA_zero]
  have HB0 := Lib.hid hb0
  have HT := Lib.hid hT
  have c0 := HC.out W0 (Below.refl _ _)
  clear hx0 hb0 hT
  go_enter Tryz.func53, Tryz.ntmps53
  go_wp2_with (refine wpList_load_sub rfl 85 _ rfl w.heap.size 1 rfl (tabA T) _ c0 Tryz.underlying85 rfl (size_tab T) ?_)
  refine (least_any W0 T).mono ?_
  rintro e w1 ⟨g, rfl, ho1, hb1⟩
  have HO1 := Lib.hid ho1
  have HB1 := Lib.hid hb1
  have hs1 := hb1.size
  have hg1 : W0.heap.size ≤ g := (ho1.lt g rfl).1
  have z1 := HZ.out w1 hb1
  clear ho1 hb1 c0 hW0
  by_cases hp : p < 0
  · obtain rfl : p = -1 := by omega
    have HE := Lib.hid (witL_neg (T := T) hp)
    clear hp
    go_wp2
    go_ret
    exact ⟨g, rfl, by rw [HE.out]; exact own_base HO1.out (by omega), HB0.out.trans (HB1.out.mono (by omega))⟩
  · obtain ⟨u, hu⟩ : ∃ u : Nat, p + 1 = u := ⟨(p + 1).toNat, by omega⟩
    have hu6 : u < 6 := by omega
    have hnu : Cs.node p = u := by unfold Cs.node; omega
    have HWK : Hid (witK T u 5 = Un.witL T p) := by show _ = _; rw [← hnu]; exact witK_all (by omega)
    have HO1' : Hid (OwnI w1 W0.heap.size (some ⟨g, 0, none⟩) 5 5 (witK T u 0)) := by show OwnI _ _ _ _ _ _; rw [witK_zero]; exact HO1.out
    have dp : (p == -1) = false := by simp; omega
    have HU := Lib.hid hu
    clear hnu hu HO1
    go_wp2
    clear z1
    go_loopw [15] (fun i wr => ∃ k : Nat, k ≤ 5 ∧ i = .int .i64 k ∧ Hid (OwnI wr W0.heap.size (some ⟨g, 0, none⟩) 5 5 (witK T u k)) ∧ Hid (Below W0.heap.size W0 wr)) (fun i _ => 5 - (intOf i).toNat)
    case atStart => exact ⟨0, by omega, rfl, HO1'.out, HB1.out⟩
    case round =>
      clear HO1' HB1
      obtain ⟨k, hk, rfl, HO, HB⟩ := hrel
      by_cases hlt : k < 5
      · have hki : (k : Int) < 5 := by omega
        have c1 := HC.out wr HB.out
        have z1 := HZ.out wr HB.out
        go_wp2_with (refine wpList_load_sub rfl 85 _ rfl w.heap.size 1 rfl (tabA T) _ c1 Tryz.underlying85 rfl (size_tab T) ?_)
        refine (far_any wr T p k u (k + 1) HU.out hu6 (by omega) (by omega)).mono ?_
        rintro e w2 ⟨rfl, hb2⟩
        have hsr := HB.out.size
        have HB2 := Lib.hid (HB.out.trans (hb2.mono hsr))
        have HO2 := Lib.hid (own_below' HO.out hb2)
        obtain ⟨f, hf⟩ : ∃ f, T u (k + 1) = f := ⟨_, rfl⟩
        have hfb := HT.out u (k + 1)
        rw [hf] at hfb ⊢
        clear hb2 c1 z1
        by_cases hf0 : 0 ≤ f
        · have d1 : (f != -1) = true := by simp; omega
          obtain ⟨q1, q2⟩ := own_spot HO2.out (i := k) (u := .int .i64 (T 0 (k + 1))) (by rw [List.getElem?_map, witK_at T u k hlt (Nat.le_refl k)]; rfl)
          have ht0 := HT.out 0 (k + 1)
          have HST := Lib.hid (witK_step (T := T) (u := u) hlt (by rw [hf]; exact hf0))
          rw [hf] at HST
          obtain ⟨t0, hT0⟩ : ∃ t0, T 0 (k + 1) = t0 := ⟨_, rfl⟩
          rw [hT0] at q1 ht0 HST
          have wf : IntKind.i64.wrap (200 + f) = 200 + f := IntWalk.i64_in _ ⟨by omega, by omega⟩
          have HO3 : Hid (OwnI (w2.setCell ⟨g, k, none⟩ (.int .i64 (max t0 (200 + f)))) W0.heap.size (some ⟨g, 0, none⟩) 5 5 (witK T u (k + 1))) := by
            have := own_set HO2.out k (.int .i64 (max t0 (200 + f)))
            rw [← List.map_set, HST.out] at this
            exact this
          have HB3 : Hid (Below W0.heap.size W0 (w2.setCell ⟨g, k, none⟩ (.int .i64 (max t0 (200 + f))))) := HB2.out.setCell (p := ⟨g, k, none⟩) hg1 _
          clear hf hT0
          go_wp2
          go_roundw
          case rel =>
            have hmx : (if t0 < 200 + f then 200 + f else t0) = max t0 (200 + f) := by split <;> omega
            exact ⟨k + 1, by omega, by go_num, by rw [hmx]; exact HO3.out, by rw [hmx]; exact HB3.out⟩
          case measure => simp [intOf]; omega
        · obtain rfl : f = -1 := by omega
          have HO3 : Hid (OwnI w2 W0.heap.size (some ⟨g, 0, none⟩) 5 5 (witK T u (k + 1))) := by
            show OwnI _ _ _ _ _ _
            rw [witK_skip (by rw [hf]; exact hf0)]
            exact HO2.out
          clear hf hf0 hfb
          go_wp2
          go_roundw
          case rel => exact ⟨k + 1, by omega, by go_num, HO3.out, HB2.out⟩
          case measure => simp [intOf]; omega
      · obtain rfl : k = 5 := by omega
        rw [HWK.out] at HO
        go_wp2
        go_ret
        exact ⟨g, rfl, own_base HO.out (by omega), HB0.out.trans (HB.out.mono (by omega))⟩

/-- what compareUnder gives back is nil, an error of the package errors, or an excess -/
theorem cmpV_wit (l : List Cn) (a b : List (Int × Int)) (pc pv : Value) :
    (cmpV l a b 228 pc 228 pv = .nilIface ∧ witR l a b = none) ∨
    ((∃ v, cmpV l a b 228 pc 228 pv = .iface 228 v) ∧ witR l a b = none) ∨
    ∃ T p, cmpV l a b 228 pc 228 pv = .iface 87 (.agg (excA T p)) ∧ witR l a b = some (Un.witL T p) ∧ -1 ≤ p ∧ p < 5 ∧ ∀ i j, -1 ≤ T i j ∧ T i j ≤ 1000 := by
  cases h : consOkR l with
  | false => exact .inr (.inl ⟨⟨_, cmpV_c h⟩, witR_no (fun q => by rw [h] at q; cases q.1)⟩)
  | true =>
    by_cases h1 : Lv.levelOk a = true ∧ Lv.levelOk b = true
    · rw [cmpV_y h h1]
      cases hr : Un.exR l a b with
      | none => exact .inl ⟨rfl, witR_none hr⟩
      | some r =>
        obtain ⟨S, x⟩ := r
        have hf := exR_flat hr
        have hp := exR_par h1.1 hr
        exact .inr (.inr ⟨_, _, rfl, witR_some h h1.1 h1.2 hr, hp.1, hp.2, fun i j => ⟨(Cs.tab_bd hf i j).1, Int.le_trans (Cs.tab_bd hf i j).2 (by decide)⟩⟩)
    · exact .inr (.inl ⟨⟨_, cmpV_a h h1⟩, witR_no (fun q => h1 q.2)⟩)
theorem zeros_exc : (#[Value.int .i64 0, Value.int .i64 0, Value.int .i64 0, Value.int .i64 0, Value.int .i64 0, Value.int .i64 0, Value.int .i64 0, Value.int .i64 0, Value.int .i64 0, Value.int .i64 0, Value.int .i64 0, Value.int .i64 0, Value.int .i64 0, Value.int .i64 0, Value.int .i64 0, Value.int .i64 0, Value.int .i64 0, Value.int .i64 0, Value.int .i64 0, Value.int .i64 0, Value.int .i64 0, Value.int .i64 0, Value.int .i64 0, Value.int .i64 0, Value.int .i64 0, Value.int .i64 0, Value.int .i64 0, Value.int .i64 0, Value.int .i64 0, Value.int .i64 0, Value.int .i64 0, Value.int .i64 0, Value.int .i64 0, Value.int .i64 0, Value.int .i64 0, Value.int .i64 0, Value.int .i64 0] : Array Value) = excA zeroT 0 := by kernel_rfl

set_option maxRecDepth 100000 in
set_option maxHeartbeats 4000000 in
theorem implWitness_any (w : World) (B : Nat) (A : Option Addr) (n c : Nat) (l : List Cn) (A1 : Option Addr) (n1 c1 : Nat) (a : List (Int × Int)) (A2 : Option Addr) (n2 c2 : Nat) (m : List (Int × Int)) (pv pc : Value) (h0 : 1 < B) (h0c : 0 < B) (h0t : 2 < B) (hB : B ≤ w.heap.size)
    (hA : SlOk A n c) (hl : ConR w B A n l) (hn : (n : Int) ≤ 140737488355328) (ha : TokR w B A1 n1 a) (hn1 : (n1 : Int) ≤ 140737488355328) (hm : TokR w B A2 n2 m) (hn2 : (n2 : Int) ≤ 140737488355328) (hE : ErrAt w 228 pv) (hEc : ErrCAt w 228 pc) (hEt : ErrTAt w) :
    Calls Tryz.prog 12 #[.slice A n c, .slice A1 n1 c1, .slice A2 n2 c2] w (ResJ w (witR l a m)) := by
  have hz := zeros_exc
  obtain ⟨W0, hW0⟩ : ∃ W, w.alloc (.cells (excA zeroT 0) 87) = W := ⟨_, rfl⟩
  have hb0 : Below w.heap.size w W0 := by rw [← hW0]; exact (Below.refl _ _).alloc (Nat.le_refl _) _
  have hs0 : W0.heap.size = w.heap.size + 1 := by rw [← hW0]; simp
  have HK0 : Hid (Blk W0 w.heap.size 87 (excA zeroT 0)) := by show Blk _ _ _ _; rw [← hW0]; exact Blk.made _ _ _
  have HL := Lib.hid (hl.below (hb0.mono hB))
  have HA := Lib.hid (ha.below (hb0.mono hB))
  have HM := Lib.hid (hm.below (hb0.mono hB))
  have HE := Lib.hid (hE.below (hb0.mono hB) h0)
  have HEc := Lib.hid (hEc.below (hb0.mono hB) h0c)
  have HEt := Lib.hid (hEt.below (hb0.mono hB) h0t)
  have HB0 := Lib.hid hb0
  clear hE hEc hEt hl ha hm hb0
  go_enter Tryz.func12, Tryz.ntmps12
  go_wp2_with fail
  clear hW0 hz
  refine (compareUnder_any W0 B A n c l A1 n1 c1 a A2 n2 c2 m 228 pv 228 pc h0 h0c (by omega) hA HL.out hn HA.out hn1 HM.out hn2 HE.out HEc.out).mono ?_
  rintro e w1 ⟨rfl, hb1⟩
  have HB1 := Lib.hid (HB0.out.trans (hb1.mono (by omega)))
  have HK1 := Lib.hid (HK0.out.below hb1 (by omega))
  have het := HEt.out.below (hb1.mono (by omega)) h0t
  have HT1 := Lib.hid het
  have hs1 := hb1.size
  clear hb1 het
  rcases cmpV_wit l a m pc pv with ⟨hv, hr⟩ | ⟨⟨v, hv⟩, hr⟩ | ⟨T, p, hv, hr, hp1, hp2, hT⟩
  · have HR := Lib.hid hr
    rw [hv]
    clear hv hr
    go_wp2_with fail
    refine (as_nil _ w1).mono ?_
    rintro e w' ⟨rfl, hw⟩
    obtain rfl : w1 = w' := hw.symm
    go_wp2
    go_ret2
    rw [HR.out]
    exact resJ_none HB1.out
  · have HR := Lib.hid hr
    rw [hv]
    clear hv hr
    go_wp2_with fail
    refine (as_miss w1 w.heap.size v HT1.out).mono ?_
    rintro e w2 ⟨rfl, hb2⟩
    have HB2 := Lib.hid (HB1.out.trans (hb2.mono (by omega)))
    clear hb2
    go_wp2
    go_ret2
    rw [HR.out]
    exact resJ_none HB2.out
  · have HR := Lib.hid hr
    have HT := Lib.hid hT
    rw [hv]
    obtain ⟨ex, hex⟩ : ∃ ex, excA T p = ex := ⟨_, rfl⟩
    have HS := Lib.hid (size_exc T p)
    have HO := Lib.hid (excA_one T p)
    have HZ : Hid ((excA zeroT 0).size = ex.size) := by show _ = _; rw [← hex, excA_size, excA_size]
    rw [hex] at HS HO ⊢
    have HX := Lib.hid hex
    clear hv hr hT hex
    go_wp2_with fail
    refine (as_hit w1 w.heap.size ex (excA zeroT 0) HS.out HO.out HZ.out HT1.out HK1.out).mono ?_
    rintro e w3 ⟨rfl, w2, hb2, hw⟩
    have hk2 := HK1.out.below hb2 (by omega)
    have k3 : Blk w3 w.heap.size 87 ex := by
      rw [hw]
      have h' : w2.heap[w.heap.size]? = some (.cells (excA zeroT 0) 87 (0, 0)) := hk2
      show (w2.setRow w.heap.size ex).heap[w.heap.size]? = _
      simp only [World.setRow]
      rw [Array.getElem?_modify, if_pos rfl, h']
      rfl
    have HB3 : Hid (Below w.heap.size w w3) := by
      show Below _ _ _
      rw [hw]
      have q := HB1.out.trans (hb2.mono (by omega))
      exact (Wrote.row _ _ _).below q q.size (Nat.le_refl _)
    clear hw hb2 hk2
    have hsz := HS.out
    go_wp2_with (refine wpList_load_row rfl 87 _ rfl w.heap.size rfl 87 ex (0, 0) _ k3 Tryz.underlying87 rfl hsz ?_)
    rw [← HX.out]
    refine (excEnv_any w3 T p hp1 hp2 HT.out).mono ?_
    rintro e w4 ⟨g, rfl, ho4, hb4⟩
    have HB4 := Lib.hid (HB3.out.trans (hb4.mono HB3.out.size))
    have HO4 := Lib.hid (own_base (base' := w.heap.size) ho4 HB3.out.size)
    clear ho4 hb4
    go_wp2
    go_ret2
    rw [HR.out]
    exact resJ_some (Un.witL_len T p) HO4.out HB4.out
end Go.Proofs.YtgebjnoicgmdoaaGreatDoor

namespace Go.Proofs.YtgebjnoicgmdoaaGreatDoor
open Nm

namespace Dc
end Dc
theorem evalU_ok {env : List Int} {l : List (Int × Int)} (he : envOk env = true) (h : Lv.levelOk l = true) : evalV (evalR env l) = .tuple #[.int .i64 (Dc.ev env l), .bool true] := by
  unfold evalR
  rw [if_pos he, Dc.ev_some h]
  rfl
theorem env_small {env : List Int} {m : Int} (h5 : env.length = 5) (hm : m ≤ 1000) (h : ∀ x ∈ env, 0 ≤ x ∧ x ≤ m) : envOk env = true ∧ Pos env := by
  refine ⟨?_, fun x hx => (h x hx).1⟩
  unfold envOk
  rw [Bool.and_eq_true, decide_eq_true_iff, List.all_eq_true]
  refine ⟨h5, fun x hx => ?_⟩
  have := h x hx
  simp
  omega
end Go.Proofs.YtgebjnoicgmdoaaGreatDoor

namespace Go.Proofs.YtgebjnoicgmdoaaGreatDoor
open Go.RowKit
open Cs (Cn)

theorem leastO_is (l : List Cn) : (leastO l).isSome = satR l := by
  unfold leastO
  cases satR l <;> rfl
theorem get_five {e : List Int} (h : e.length = 5) {p : Nat} (hp : p < 5) : e[p]? = some (e.getD p 0) := by
  rw [List.getD_eq_getElem?_getD, List.getElem?_eq_getElem (by omega)]
  rfl
/-- an env raised to another one at the first k parameters -/
def maxE (env least : List Int) (k : Nat) : List Int := (List.range 5).map fun j => if j < k then max (env.getD j 0) (least.getD j 0) else env.getD j 0
theorem maxE_len (env least : List Int) (k : Nat) : (maxE env least k).length = 5 := by simp [maxE]
theorem maxE_zero {env least : List Int} (h : env.length = 5) : maxE env least 0 = env := by
  apply List.ext_getElem (by simp [maxE, h])
  intro i h1 h2
  simp only [maxE, List.getElem_map, List.getElem_range]
  rw [if_neg (by omega), List.getD_eq_getElem?_getD, List.getElem?_eq_getElem h2]
  rfl
theorem maxE_at (env least : List Int) {j k : Nat} (hj : j < 5) (hk : k ≤ j) : (maxE env least k)[j]? = some (env.getD j 0) := by
  simp only [maxE, List.getElem?_map, List.getElem?_range hj, Option.map_some]
  rw [if_neg (by omega)]
theorem maxE_set (env least : List Int) {k : Nat} (_ : k < 5) : (maxE env least k).set k (max (env.getD k 0) (least.getD k 0)) = maxE env least (k + 1) := by
  apply List.ext_getElem (by simp [maxE])
  intro i h1 h2
  rw [List.getElem_set]
  simp only [maxE, List.getElem_map, List.getElem_range]
  by_cases e : k = i
  · subst e
    rw [if_pos rfl, if_pos (by omega)]
  · rw [if_neg e]
    by_cases c : i < k
    · rw [if_pos c, if_pos (by omega)]
    · rw [if_neg c, if_neg (by omega)]
theorem maxE_ok {env : List Int} {l : List Cn} (he : ∀ x ∈ env, 0 ≤ x ∧ x ≤ 4) (h : satR l = true) : envOk (maxE env (Cs.leastEnv l) 5) = true ∧ (maxE env (Cs.leastEnv l) 5).length = 5 ∧ Nm.Pos (maxE env (Cs.leastEnv l) 5) := by
  have hl := maxE_len env (Cs.leastEnv l) 5
  have hb : ∀ x ∈ maxE env (Cs.leastEnv l) 5, 0 ≤ x ∧ x ≤ (1000 : Int) := fun x hx => by
    obtain ⟨j, hj, rfl⟩ := List.mem_map.1 hx
    have hj5 := List.mem_range.1 hj
    have e1 : 0 ≤ env.getD j 0 ∧ env.getD j 0 ≤ 4 := by
      rw [List.getD_eq_getElem?_getD]
      cases q : env[j]? with
      | none => simp
      | some y => exact he y (List.mem_of_getElem? q)
    have hm : (Cs.leastEnv l)[j]'(by rw [Cs.leastEnv_len]; exact hj5) ∈ Cs.leastEnv l := List.getElem_mem _
    have e2 := Cs.leastEnv_bd (sat_both h).2 _ hm
    have e3 : (Cs.leastEnv l).getD j 0 = (Cs.leastEnv l)[j]'(by rw [Cs.leastEnv_len]; exact hj5) := by
      rw [List.getD_eq_getElem?_getD, List.getElem?_eq_getElem (by rw [Cs.leastEnv_len]; exact hj5)]
      rfl
    rw [e3]
    split <;> omega
  have := env_small hl (by omega) hb
  exact ⟨this.1, hl, this.2⟩
theorem top_le {l : List Cn} {a b : List (Int × Int)} {E : List Int} (hY : leUnR l a b = true) (he : envOk E = true) (h5 : E.length = 5) (hp : Nm.Pos E) : consHoldR l E = true → Dc.ev E a ≤ Dc.ev E b := fun h => by
  obtain ⟨hc, _, _, hs⟩ := (leUn_iff l a b).1 hY
  exact hs E h5 hp ((consHold_sat hc he).1 h)
theorem rowA_own {A : Option Addr} {co : Nat} {w : World} {base k : Nat} {l : List Int} (h : OwnI w base A k co l) (hk : 0 < k) : ∃ g, A = some ⟨g, 0, none⟩ ∧ base ≤ g ∧ g < w.heap.size := by
  rcases h.2 with ⟨h0, hn⟩ | ⟨g, cap, cur, hv, _⟩
  · injection h0 with e1 e2 e3; omega
  · injection hv with e1 e2 e3
    have := h.lt g (by rw [e1]; rfl)
    exact ⟨g, e1, this.1, this.2⟩
/-- a row of the call's own that begins above a block is not touched by a store into that block -/
theorem own_low {w : World} {base g n c size : Nat} {e : TypeId} {A : Option Addr} {xs : List Value} (h : w.ownsRow base e size (.slice A n c) n xs) (hg : g < base) (i : Nat) (u : Value) : (w.setCell ⟨g, i, none⟩ u).ownsRow base e size (.slice A n c) n xs :=
  own_store (p := ⟨g, i, none⟩) h (fun he => by have := (h.lt g he).1; omega) u
end Go.Proofs.YtgebjnoicgmdoaaGreatDoor

namespace Go.Proofs.YtgebjnoicgmdoaaGreatDoor
open Go.RowKit
open Cs (Cn)

theorem consHold_bad {l : List Cn} {env : List Int} {k : Nat} {t : Cn} (hk : k < l.length) (ht : l.getD k (0, 0, 0) = t) (h : conHoldsR t env = false) : consHoldR l env = false := by
  cases e : consHoldR l env with
  | false => rfl
  | true =>
    unfold consHoldR at e
    simp only [Bool.and_eq_true, List.all_eq_true] at e
    have hm : t ∈ l := by rw [← ht, List.getD_eq_getElem?_getD, List.getElem?_eq_getElem hk]; exact List.getElem_mem _
    have : conHoldsR t env = true := by unfold conHoldsR; rw [(consOkR_ok e.1.1).1 t hm, e.1.2, e.2 t hm]; rfl
    rw [h] at this
    cases this
theorem consHold_all {l : List Cn} {env : List Int} (h : ∀ j, j < l.length → conHoldsR (l.getD j (0, 0, 0)) env = true) : consHoldR l env = (consOkR l && envOk env) := by
  unfold consHoldR
  have : l.all (holdR env) = true := by
    rw [List.all_eq_true]
    intro t ht
    obtain ⟨j, hj, rfl⟩ := List.getElem_of_mem ht
    have := h j hj
    unfold conHoldsR at this
    simp only [Bool.and_eq_true] at this
    rw [List.getD_eq_getElem?_getD, List.getElem?_eq_getElem hj] at this
    exact this.2
  rw [this, Bool.and_true]
theorem consHold_no {l : List Cn} {env : List Int} {k : Nat} {t : Cn} (hk : k < l.length) (ht : l.getD k (0, 0, 0) = t) (h : holdR env t = false) : consHoldR l env = false := by
  refine consHold_bad hk ht ?_
  unfold conHoldsR
  rw [h, Bool.and_false]
theorem consHold_yes {l : List Cn} {env : List Int} (h1 : consOkR l = true) (h2 : envOk env = true) (h : ∀ j, j < l.length → holdR env (l.getD j (0, 0, 0)) = true) : consHoldR l env = true := by
  rw [consHold_all fun j hj => ?_, h1, h2]
  · rfl
  · unfold conHoldsR
    rw [h j hj, h2, (consOkR_ok h1).1 (l.getD j (0, 0, 0)) (by rw [List.getD_eq_getElem?_getD, List.getElem?_eq_getElem hj]; exact List.getElem_mem _)]
    rfl

set_option maxRecDepth 100000 in
set_option maxHeartbeats 1600000 in
theorem implConsHold_any (w : World) (B : Nat) (A : Option Addr) (n c : Nat) (l : List Cn) (A1 : Option Addr) (n1 c1 : Nat) (env : List Int) (hB : B ≤ w.heap.size) (hl : ConR w B A n l) (hn : (n : Int) ≤ 140737488355328) (hR : IntR w B A1 n1 env) (hn1 : (n1 : Int) ≤ 140737488355328) :
    Calls Tryz.prog 19 #[.slice A n c, .slice A1 n1 c1] w fun e w' => e = .returned (.bool (consHoldR l env)) ∧ Below w.heap.size w w' := by
  have HR := Lib.hid hR
  have HLL := Lib.hid hl
  clear hR
  go_enter Tryz.func19, Tryz.ntmps19
  go_wp2_with fail
  refine (implConsOk_any w B A n c l hB hl hn).mono ?_
  rintro e w1 ⟨rfl, hb1⟩
  have HB1 := Lib.hid hb1
  have hs1 := hb1.size
  clear hb1
  cases h1 : consOkR l with
  | false =>
    have HF : Hid (consHoldR l env = false) := by show _ = _; unfold consHoldR; rw [h1]; rfl
    clear h1
    go_wp2
    go_ret
    exact ⟨by rw [HF.out]; rfl, HB1.out⟩
  | true =>
    have H1 := Lib.hid h1
    clear h1
    go_wp2_with fail
    refine (envOk_any w1 B A1 n1 c1 env (HR.out.below (HB1.out.mono hB)) hn1).mono ?_
    rintro e w2 ⟨rfl, rfl⟩
    cases h2 : envOk env with
    | false =>
      have HF : Hid (consHoldR l env = false) := by show _ = _; unfold consHoldR; rw [H1.out, h2]; rfl
      clear h2
      go_wp2
      go_ret
      exact ⟨by rw [HF.out]; rfl, HB1.out⟩
    | true =>
      have H2 := Lib.hid h2
      obtain rfl : n1 = 5 := by rw [← HR.out.1]; exact envOk_len h2
      clear h2
      go_wp2
      go_loopw [17] (fun i wr => ∃ k : Nat, k ≤ n ∧ i = .int .i64 k ∧ Hid (∀ j, j < k → holdR env (l.getD j (0, 0, 0)) = true) ∧ Hid (Below w.heap.size w wr)) (fun i _ => n - (intOf i).toNat)
      case atStart => exact ⟨0, Nat.zero_le _, rfl, (fun j hj => absurd hj (by omega)), HB1.out⟩
      case round =>
        obtain ⟨k, hk, rfl, HA, HBR⟩ := hrel
        have hszr := HBR.out.size
        by_cases hlt : k < n
        · have hki : (k : Int) < (n : Int) := by omega
          obtain ⟨b, off, hA, hb, hc⟩ := hl.2 (by omega)
          obtain ⟨x1, x2, x3⟩ := hc k hlt
          have HL := Lib.hid hl.1
          obtain ⟨t, ht⟩ : ∃ t, l.getD k (0, 0, 0) = t := ⟨_, rfl⟩
          have hkl : k < l.length := by rw [HL.out]; exact hlt
          have HOK := Lib.hid ((consOkR_ok H1.out).1 (l.getD k (0, 0, 0)) (by rw [List.getD_eq_getElem?_getD, List.getElem?_eq_getElem hkl]; exact List.getElem_mem _))
          rw [ht] at x1 x2 x3 HOK
          obtain ⟨U, R, V⟩ := t
          have HT := Lib.hid ht
          subst hA
          have k1 := (HBR.out.cell (p := ⟨b, off + k * 3, none⟩) (by show b < _; omega)).trans x1
          have k2 := (HBR.out.cell (p := ⟨b, off + k * 3 + 1, none⟩) (by show b < _; omega)).trans x2
          have k3 := (HBR.out.cell (p := ⟨b, off + k * 3 + 2, none⟩) (by show b < _; omega)).trans x3
          obtain ⟨W1, hW1⟩ : ∃ W1, wr.alloc (.cells #[.int .i64 U, .int .i64 R, .int .i64 V] 41) = W1 := ⟨_, rfl⟩
          have hb1 : Below wr.heap.size wr W1 := by rw [← hW1]; exact (Below.refl _ _).alloc (Nat.le_refl _) _
          have hbx : Blk W1 wr.heap.size 41 #[.int .i64 U, .int .i64 R, .int .i64 V] := by rw [← hW1]; exact Blk.made _ _ _
          have y0 : W1.cell? ⟨wr.heap.size, 0, none⟩ = some (.int .i64 U) := hbx.cell 0
          have y1 : W1.cell? ⟨wr.heap.size, 1, none⟩ = some (.int .i64 R) := hbx.cell 1
          have y2 : W1.cell? ⟨wr.heap.size, 2, none⟩ = some (.int .i64 V) := hbx.cell 2
          have HBW := Lib.hid (HBR.out.trans (hb1.mono hszr))
          have hsw := HBW.out.size
          clear hc ht x1 x2 x3 hl hbx hb1
          go_wp2_with fail
          refine (conHolds_any W1 B A1 c1 env U R V (by omega) (HR.out.below (HBW.out.mono hB)) HOK.out).mono ?_
          rintro e w2 ⟨rfl, hb2⟩
          have HB2 := Lib.hid (HBW.out.trans (hb2.mono hsw))
          clear hb2
          cases hok : holdR env (U, R, V) with
          | true =>
            have HA2 : Hid (∀ j, j < k + 1 → holdR env (l.getD j (0, 0, 0)) = true) := fun j hj => by
              by_cases e : j = k
              · subst e; rw [HT.out]; exact hok
              · exact HA.out j (by omega)
            clear hok
            go_wp2
            go_roundw
            case rel => exact ⟨k + 1, by omega, by go_num, HA2.out, HB2.out⟩
            case measure => simp [intOf]; omega
          | false =>
            have HF := Lib.hid (consHold_no (l := l) (by rw [HL.out]; exact hlt) HT.out hok)
            clear hok
            go_wp2
            go_ret
            exact ⟨by rw [HF.out]; rfl, HB2.out⟩
        · obtain rfl : k = n := by omega
          have hkk : ¬ (k : Int) < (k : Int) := by omega
          have HF := Lib.hid (consHold_yes (l := l) H1.out H2.out (fun j hj => HA.out j (by rw [← hl.1]; exact hj)))
          clear hl
          go_wp2
          go_ret
          exact ⟨by rw [HF.out]; rfl, HBR.out⟩
end Go.Proofs.YtgebjnoicgmdoaaGreatDoor
