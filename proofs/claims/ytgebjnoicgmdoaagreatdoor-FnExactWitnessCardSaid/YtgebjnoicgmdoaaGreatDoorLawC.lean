/- Witness of the program. -/
/- The laws' own helpers on constraints and slices of them: sizes, copies, comparison, marks. -/
import Derived.Test.YtgebjnoicgmdoaaGreatDoorNMath
import Derived.Test.YtgebjnoicgmdoaaGreatDoorRegInv2
import Derived.Test.YtgebjnoicgmdoaaGreatDoorUnCu
import Derived.Test.YtgebjnoicgmdoaaGreatDoorWitMath
import Derived.Test.YtgebjnoicgmdoaaGreatDoorCsMath7

namespace Go.Proofs.YtgebjnoicgmdoaaGreatDoor
open Go.RowKit
open Cs (Cn Tb)

theorem excA_size (T : Tb) (p : Int) : (excA T p).size = 37 := by unfold excA; rw [Array.size_append, tabA_size]; rfl
theorem size_exc (T : Tb) (p : Int) : (Tryz.prog.info? 87).map (·.size) = some (excA T p).size := by rw [excA_size]; kernel_rfl
theorem excA_one (T : Tb) (p : Int) : (excA T p).all (·.oneCell') = true := by
  rw [Array.all_eq_true_iff_forall_mem]
  intro x hx
  unfold excA at hx
  rw [Array.mem_append] at hx
  rcases hx with h | h
  · simp at h
    subst h
    rfl
  · exact (Array.all_eq_true_iff_forall_mem.1 (tabA_one T)) x h
theorem excA_zero (T : Tb) (p : Int) : (excA T p)[0]? = some (.int .i64 p) := by
  unfold excA
  rw [Array.getElem?_append_left (by simp)]
  rfl
theorem excA_tab (T : Tb) (p : Int) (j : Nat) : (excA T p)[1 + j]? = (tabA T)[j]? := by
  unfold excA
  rw [Array.getElem?_append_right (by simp), show 1 + j - (#[Value.int .i64 p] : Array Value).size = j by simp]
theorem witL_neg {T : Tb} {p : Int} (hp : p < 0) : Un.witL T p = leastL T := by
  unfold Un.witL leastL
  apply List.map_congr_left
  intro j _
  rw [if_neg (fun h => by omega)]

set_option maxRecDepth 100000 in
set_option maxHeartbeats 4000000 in
theorem excEnv_any (w : World) (T : Tb) (p : Int) (hp1 : -1 ≤ p) (hp2 : p < 5) (hT : ∀ i j, -1 ≤ T i j ∧ T i j ≤ 1000) :
    Calls Tryz.prog 53 #[.agg (excA T p)] w fun e w' => ∃ g, e = .returned (.slice (some ⟨g, 0, none⟩) 5 5) ∧ OwnI w' w.heap.size (some ⟨g, 0, none⟩) 5 5 (Un.witL T p) ∧ Below w.heap.size w w' := by
  obtain ⟨W0, hW0⟩ : ∃ W, w.alloc (.cells (excA T p) 87) = W := ⟨_, rfl⟩
  have hb0 : Below w.heap.size w W0 := by rw [← hW0]; exact (Below.refl _ _).alloc (Nat.le_refl _) _
  have hs0 : W0.heap.size = w.heap.size + 1 := by rw [← hW0]; simp
  have hx0 : Blk W0 w.heap.size 87 (excA T p) := by rw [← hW0]; exact Blk.made _ _ _
  have HC : Hid (∀ X, Below W0.heap.size W0 X → ∀ j, j < (tabA T).size → X.cell? ⟨w.heap.size, 1 + j, none⟩ = (tabA T)[j]?) := fun X hX j _ => by
    rw [(Blk.below hx0 hX hx0.lt).cell (1 + j), excA_tab]
  have HZ : Hid (∀ X, Below W0.heap.size W0 X → X.cell? ⟨w.heap.size, 0, none⟩ = some (.int .i64 p)) := fun X hX => by
    rw [(Blk.below hx0 hX hx0.lt).cell 0, excA_zero]
  have HB0 := Lib.hid hb0
  have HT := Lib.hid hT
  have c0 := HC.out W0 (Below.refl _ _)
  clear hx0 hb0 hT
  go_enter Tryz.func53, Tryz.ntmps53
  go_wp2_with (refine wpList_load_sub rfl 85 _ rfl w.heap.size 1 rfl (tabA T) _ c0 Tryz.underlying85 rfl (size_tab T) ?_)
  refine (least_any W0 T).mono ?_
  rintro e w1 ⟨g, rfl, ho1, hb1⟩
  have HO1 := Lib.hid ho1
  have HB1 := Lib.hid hb1
  have hs1 := hb1.size
  have hg1 : W0.heap.size ≤ g := (ho1.lt g rfl).1
  have z1 := HZ.out w1 hb1
  clear ho1 hb1 c0 hW0
  by_cases hp : p < 0
  · obtain rfl : p = -1 := by omega
    have HE := Lib.hid (witL_neg (T := T) hp)
    clear hp
    go_wp2
    go_ret
    exact ⟨g, rfl, by rw [HE.out]; exact own_base HO1.out (by omega), HB0.out.trans (HB1.out.mono (by omega))⟩
  · obtain ⟨u, hu⟩ : ∃ u : Nat, p + 1 = u := ⟨(p + 1).toNat, by omega⟩
    have hu6 : u < 6 := by omega
    have hnu : Cs.node p = u := by unfold Cs.node; omega
    have HWK : Hid (witK T u 5 = Un.witL T p) := by show _ = _; rw [← hnu]; exact witK_all (by omega)
    have HO1' : Hid (OwnI w1 W0.heap.size (some ⟨g, 0, none⟩) 5 5 (witK T u 0)) := by show OwnI _ _ _ _ _ _; rw [witK_zero]; exact HO1.out
    have dp : (p == -1) = false := by simp; omega
    have HU := Lib.hid hu
    clear hnu hu HO1
    go_wp2
    clear z1
    go_loopw [15] (fun i wr => ∃ k : Nat, k ≤ 5 ∧ i = .int .i64 k ∧ Hid (OwnI wr W0.heap.size (some ⟨g, 0, none⟩) 5 5 (witK T u k)) ∧ Hid (Below W0.heap.size W0 wr)) (fun i _ => 5 - (intOf i).toNat)
    case atStart => exact ⟨0, by omega, rfl, HO1'.out, HB1.out⟩
    case round =>
      clear HO1' HB1
      obtain ⟨k, hk, rfl, HO, HB⟩ := hrel
      by_cases hlt : k < 5
      · have hki : (k : Int) < 5 := by omega
        have c1 := HC.out wr HB.out
        have z1 := HZ.out wr HB.out
        go_wp2_with (refine wpList_load_sub rfl 85 _ rfl w.heap.size 1 rfl (tabA T) _ c1 Tryz.underlying85 rfl (size_tab T) ?_)
        refine (far_any wr T p k u (k + 1) HU.out hu6 (by omega) (by omega)).mono ?_
        rintro e w2 ⟨rfl, hb2⟩
        have hsr := HB.out.size
        have HB2 := Lib.hid (HB.out.trans (hb2.mono hsr))
        have HO2 := Lib.hid (own_below' HO.out hb2)
        obtain ⟨f, hf⟩ : ∃ f, T u (k + 1) = f := ⟨_, rfl⟩
        have hfb := HT.out u (k + 1)
        rw [hf] at hfb ⊢
        clear hb2 c1 z1
        by_cases hf0 : 0 ≤ f
        · have d1 : (f != -1) = true := by simp; omega
          obtain ⟨q1, q2⟩ := own_spot HO2.out (i := k) (u := .int .i64 (T 0 (k + 1))) (by rw [List.getElem?_map, witK_at T u k hlt (Nat.le_refl k)]; rfl)
          have ht0 := HT.out 0 (k + 1)
          have HST := Lib.hid (witK_step (T := T) (u := u) hlt (by rw [hf]; exact hf0))
          rw [hf] at HST
          obtain ⟨t0, hT0⟩ : ∃ t0, T 0 (k + 1) = t0 := ⟨_, rfl⟩
          rw [hT0] at q1 ht0 HST
          have wf : IntKind.i64.wrap (200 + f) = 200 + f := IntWalk.i64_in _ ⟨by omega, by omega⟩
          have HO3 : Hid (OwnI (w2.setCell ⟨g, k, none⟩ (.int .i64 (max t0 (200 + f)))) W0.heap.size (some ⟨g, 0, none⟩) 5 5 (witK T u (k + 1))) := by
            have := own_set HO2.out k (.int .i64 (max t0 (200 + f)))
            rw [← List.map_set, HST.out] at this
            exact this
          have HB3 : Hid (Below W0.heap.size W0 (w2.setCell ⟨g, k, none⟩ (.int .i64 (max t0 (200 + f))))) := HB2.out.setCell (p := ⟨g, k, none⟩) hg1 _
          clear hf hT0
          go_wp2
          go_roundw
          case rel =>
            have hmx : (if t0 < 200 + f then 200 + f else t0) = max t0 (200 + f) := by split <;> omega
            exact ⟨k + 1, by omega, by go_num, by rw [hmx]; exact HO3.out, by rw [hmx]; exact HB3.out⟩
          case measure => simp [intOf]; omega
        · obtain rfl : f = -1 := by omega
          have HO3 : Hid (OwnI w2 W0.heap.size (some ⟨g, 0, none⟩) 5 5 (witK T u (k + 1))) := by
            show OwnI _ _ _ _ _ _
            rw [witK_skip (by rw [hf]; exact hf0)]
            exact HO2.out
          clear hf hf0 hfb
          go_wp2
          go_roundw
          case rel => exact ⟨k + 1, by omega, by go_num, HO3.out, HB2.out⟩
          case measure => simp [intOf]; omega
      · obtain rfl : k = 5 := by omega
        rw [HWK.out] at HO
        go_wp2
        go_ret
        exact ⟨g, rfl, own_base HO.out (by omega), HB0.out.trans (HB.out.mono (by omega))⟩

/-- what compareUnder gives back is nil, an error of the package errors, or an excess -/
theorem cmpV_wit (l : List Cn) (a b : List (Int × Int)) (pc pv : Value) :
    (cmpV l a b 228 pc 228 pv = .nilIface ∧ witR l a b = none) ∨
    ((∃ v, cmpV l a b 228 pc 228 pv = .iface 228 v) ∧ witR l a b = none) ∨
    ∃ T p, cmpV l a b 228 pc 228 pv = .iface 87 (.agg (excA T p)) ∧ witR l a b = some (Un.witL T p) ∧ -1 ≤ p ∧ p < 5 ∧ ∀ i j, -1 ≤ T i j ∧ T i j ≤ 1000 := by
  cases h : consOkR l with
  | false => exact .inr (.inl ⟨⟨_, cmpV_c h⟩, witR_no (fun q => by rw [h] at q; cases q.1)⟩)
  | true =>
    by_cases h1 : Lv.levelOk a = true ∧ Lv.levelOk b = true
    · rw [cmpV_y h h1]
      cases hr : Un.exR l a b with
      | none => exact .inl ⟨rfl, witR_none hr⟩
      | some r =>
        obtain ⟨S, x⟩ := r
        have hf := exR_flat hr
        have hp := exR_par h1.1 hr
        exact .inr (.inr ⟨_, _, rfl, witR_some h h1.1 h1.2 hr, hp.1, hp.2, fun i j => ⟨(Cs.tab_bd hf i j).1, Int.le_trans (Cs.tab_bd hf i j).2 (by decide)⟩⟩)
    · exact .inr (.inl ⟨⟨_, cmpV_a h h1⟩, witR_no (fun q => h1 q.2)⟩)
theorem zeros_exc : (#[Value.int .i64 0, Value.int .i64 0, Value.int .i64 0, Value.int .i64 0, Value.int .i64 0, Value.int .i64 0, Value.int .i64 0, Value.int .i64 0, Value.int .i64 0, Value.int .i64 0, Value.int .i64 0, Value.int .i64 0, Value.int .i64 0, Value.int .i64 0, Value.int .i64 0, Value.int .i64 0, Value.int .i64 0, Value.int .i64 0, Value.int .i64 0, Value.int .i64 0, Value.int .i64 0, Value.int .i64 0, Value.int .i64 0, Value.int .i64 0, Value.int .i64 0, Value.int .i64 0, Value.int .i64 0, Value.int .i64 0, Value.int .i64 0, Value.int .i64 0, Value.int .i64 0, Value.int .i64 0, Value.int .i64 0, Value.int .i64 0, Value.int .i64 0, Value.int .i64 0, Value.int .i64 0] : Array Value) = excA zeroT 0 := by kernel_rfl

set_option maxRecDepth 100000 in
set_option maxHeartbeats 4000000 in
theorem implWitness_any (w : World) (B : Nat) (A : Option Addr) (n c : Nat) (l : List Cn) (A1 : Option Addr) (n1 c1 : Nat) (a : List (Int × Int)) (A2 : Option Addr) (n2 c2 : Nat) (m : List (Int × Int)) (pv pc : Value) (h0 : 1 < B) (h0c : 0 < B) (h0t : 2 < B) (hB : B ≤ w.heap.size)
    (hA : SlOk A n c) (hl : ConR w B A n l) (hn : (n : Int) ≤ 140737488355328) (ha : TokR w B A1 n1 a) (hn1 : (n1 : Int) ≤ 140737488355328) (hm : TokR w B A2 n2 m) (hn2 : (n2 : Int) ≤ 140737488355328) (hE : ErrAt w 228 pv) (hEc : ErrCAt w 228 pc) (hEt : ErrTAt w) :
    Calls Tryz.prog 12 #[.slice A n c, .slice A1 n1 c1, .slice A2 n2 c2] w (ResJ w (witR l a m)) := by
  have hz := zeros_exc
  obtain ⟨W0, hW0⟩ : ∃ W, w.alloc (.cells (excA zeroT 0) 87) = W := ⟨_, rfl⟩
  have hb0 : Below w.heap.size w W0 := by rw [← hW0]; exact (Below.refl _ _).alloc (Nat.le_refl _) _
  have hs0 : W0.heap.size = w.heap.size + 1 := by rw [← hW0]; simp
  have HK0 : Hid (Blk W0 w.heap.size 87 (excA zeroT 0)) := by show Blk _ _ _ _; rw [← hW0]; exact Blk.made _ _ _
  have HL := Lib.hid (hl.below (hb0.mono hB))
  have HA := Lib.hid (ha.below (hb0.mono hB))
  have HM := Lib.hid (hm.below (hb0.mono hB))
  have HE := Lib.hid (hE.below (hb0.mono hB) h0)
  have HEc := Lib.hid (hEc.below (hb0.mono hB) h0c)
  have HEt := Lib.hid (hEt.below (hb0.mono hB) h0t)
  have HB0 := Lib.hid hb0
  clear hE hEc hEt hl ha hm hb0
  go_enter Tryz.func12, Tryz.ntmps12
  go_wp2_with fail
  clear hW0 hz
  refine (compareUnder_any W0 B A n c l A1 n1 c1 a A2 n2 c2 m 228 pv 228 pc h0 h0c (by omega) hA HL.out hn HA.out hn1 HM.out hn2 HE.out HEc.out).mono ?_
  rintro e w1 ⟨rfl, hb1⟩
  have HB1 := Lib.hid (HB0.out.trans (hb1.mono (by omega)))
  have HK1 := Lib.hid (HK0.out.below hb1 (by omega))
  have het := HEt.out.below (hb1.mono (by omega)) h0t
  have HT1 := Lib.hid het
  have hs1 := hb1.size
  clear hb1 het
  rcases cmpV_wit l a m pc pv with ⟨hv, hr⟩ | ⟨⟨v, hv⟩, hr⟩ | ⟨T, p, hv, hr, hp1, hp2, hT⟩
  · have HR := Lib.hid hr
    rw [hv]
    clear hv hr
    go_wp2_with fail
    refine (as_nil _ w1).mono ?_
    rintro e w' ⟨rfl, hw⟩
    obtain rfl : w1 = w' := hw.symm
    go_wp2
    go_ret2
    rw [HR.out]
    exact resJ_none HB1.out
  · have HR := Lib.hid hr
    rw [hv]
    clear hv hr
    go_wp2_with fail
    refine (as_miss w1 w.heap.size v HT1.out).mono ?_
    rintro e w2 ⟨rfl, hb2⟩
    have HB2 := Lib.hid (HB1.out.trans (hb2.mono (by omega)))
    clear hb2
    go_wp2
    go_ret2
    rw [HR.out]
    exact resJ_none HB2.out
  · have HR := Lib.hid hr
    have HT := Lib.hid hT
    rw [hv]
    obtain ⟨ex, hex⟩ : ∃ ex, excA T p = ex := ⟨_, rfl⟩
    have HS := Lib.hid (size_exc T p)
    have HO := Lib.hid (excA_one T p)
    have HZ : Hid ((excA zeroT 0).size = ex.size) := by show _ = _; rw [← hex, excA_size, excA_size]
    rw [hex] at HS HO ⊢
    have HX := Lib.hid hex
    clear hv hr hT hex
    go_wp2_with fail
    refine (as_hit w1 w.heap.size ex (excA zeroT 0) HS.out HO.out HZ.out HT1.out HK1.out).mono ?_
    rintro e w3 ⟨rfl, w2, hb2, hw⟩
    have hk2 := HK1.out.below hb2 (by omega)
    have k3 : Blk w3 w.heap.size 87 ex := by
      rw [hw]
      have h' : w2.heap[w.heap.size]? = some (.cells (excA zeroT 0) 87 (0, 0)) := hk2
      show (w2.setRow w.heap.size ex).heap[w.heap.size]? = _
      simp only [World.setRow]
      rw [Array.getElem?_modify, if_pos rfl, h']
      rfl
    have HB3 : Hid (Below w.heap.size w w3) := by
      show Below _ _ _
      rw [hw]
      have q := HB1.out.trans (hb2.mono (by omega))
      exact (Wrote.row _ _ _).below q q.size (Nat.le_refl _)
    clear hw hb2 hk2
    have hsz := HS.out
    go_wp2_with (refine wpList_load_row rfl 87 _ rfl w.heap.size rfl 87 ex (0, 0) _ k3 Tryz.underlying87 rfl hsz ?_)
    rw [← HX.out]
    refine (excEnv_any w3 T p hp1 hp2 HT.out).mono ?_
    rintro e w4 ⟨g, rfl, ho4, hb4⟩
    have HB4 := Lib.hid (HB3.out.trans (hb4.mono HB3.out.size))
    have HO4 := Lib.hid (own_base (base' := w.heap.size) ho4 HB3.out.size)
    clear ho4 hb4
    go_wp2
    go_ret2
    rw [HR.out]
    exact resJ_some (Un.witL_len T p) HO4.out HB4.out
end Go.Proofs.YtgebjnoicgmdoaaGreatDoor

namespace Go.Proofs.YtgebjnoicgmdoaaGreatDoor
open Go.RowKit
open Cs (Cn)

set_option maxHeartbeats 400000 in
theorem szConS_any (A : Option Addr) (n c : Nat) (left : Int) (w : World) (h0 : 0 ≤ left) (h1 : left ≤ 1048576) (hn : (n : Int) ≤ 9223372036854775807) :
    Calls Tryz.prog 32 #[.slice A n c, .int .i64 left] w fun e w' => e = .returned (.int .i64 (if left < n then -1 else left - n)) ∧ w = w' := by
  go_enter Tryz.func32, Tryz.ntmps32
  go_wp2
  all_goals go_ret
  · exact ⟨rfl, rfl⟩
  · exact ⟨rfl, rfl⟩

set_option maxHeartbeats 400000 in
theorem toCon_any (U R V : Int) (w : World) :
    Calls Tryz.prog 76 #[.agg #[.int .i64 U, .int .i64 R, .int .i64 V]] w fun e w' => e = .returned (.agg #[.int .i64 U, .int .i64 R, .int .i64 V]) ∧ Below w.heap.size w w' := by
  go_enter Tryz.func76, Tryz.ntmps76
  go_wp2
  exact bodyPost_ret (v := .agg #[.int .i64 U, .int .i64 R, .int .i64 V]) (by simp [results, Tryz.results76, go_sem]) rfl ⟨rfl, (((Below.refl _ _).alloc (Nat.le_refl _) _).alloc (by simp) _).alloc (by simp; omega) _⟩

/-- block g is a row of just n constraints, those of l -/
def ConOwn (w : World) (g n : Nat) (l : List Cn) : Prop :=
  l.length = n ∧ ∃ cs, Blk w g 41 cs ∧ cs.size = n * 3 ∧ ∀ k, k < n → cs[k * 3]? = some (.int .i64 (l.getD k (0, 0, 0)).1) ∧ cs[k * 3 + 1]? = some (.int .i64 (l.getD k (0, 0, 0)).2.1) ∧ cs[k * 3 + 2]? = some (.int .i64 (l.getD k (0, 0, 0)).2.2)
theorem ConOwn.lt {w : World} {g n : Nat} {l : List Cn} (h : ConOwn w g n l) : g + 1 ≤ w.heap.size := by obtain ⟨_, cs, hblk, _⟩ := h; exact hblk.lt
theorem ConOwn.reads {w : World} {g n : Nat} {l : List Cn} (h : ConOwn w g n l) : ConR w (g + 1) (some ⟨g, 0, none⟩) n l := by
  obtain ⟨hl, cs, hb, hs, hc⟩ := h
  refine ⟨hl, fun _ => ⟨g, 0, rfl, by omega, fun k hk => ?_⟩⟩
  rw [hb.cell, hb.cell, hb.cell, Nat.zero_add]
  exact hc k hk
theorem ConOwn.below {w w' : World} {g n B : Nat} {l : List Cn} (h : ConOwn w g n l) (hb : Below B w w') (hg : g < B) : ConOwn w' g n l := by
  obtain ⟨hl, cs, hblk, rest⟩ := h
  exact ⟨hl, cs, hblk.below hb hg, rest⟩
theorem ConOwn.owns {w : World} {g n : Nat} {l : List Cn} (h : ConOwn w g n l) (hn : n ≤ 1048576) : OwnC w g (some ⟨g, 0, none⟩) n n l := by
  obtain ⟨hl, cs, hblk, hs, hc⟩ := h
  refine ⟨by rw [conCells_len, hl], .inr ⟨g, n, cs, rfl, Nat.le_refl _, hblk, Nat.le_refl _, by unfold maxLen; omega, hs, ?_⟩⟩
  rw [← hs, List.take_of_length_le (by simp)]
  apply List.ext_getElem?
  intro i
  by_cases hi : i < n * 3
  · obtain ⟨k, hk⟩ : ∃ k, i = k * 3 ∨ i = k * 3 + 1 ∨ i = k * 3 + 2 := ⟨i / 3, by omega⟩
    have h1 := conCells_at l k (by omega)
    have h2 := hc k (by omega)
    rcases hk with rfl | rfl | rfl
    · rw [h1.1, Array.getElem?_toList]; exact h2.1
    · rw [h1.2.1, Array.getElem?_toList]; exact h2.2.1
    · rw [h1.2.2, Array.getElem?_toList]; exact h2.2.2
  · rw [List.getElem?_eq_none (by simp; omega), List.getElem?_eq_none (by rw [conCells_len]; omega)]

/-- the row of constraints that is being filled: the first k of them are there -/
def FillC (w : World) (g n k : Nat) (l : List Cn) (wr : World) : Prop :=
  Below w.heap.size w wr ∧ ∃ cs, Blk wr g 41 cs ∧ cs.size = n * 3 ∧ ∀ j, j < k → cs[j * 3]? = some (.int .i64 (l.getD j (0, 0, 0)).1) ∧ cs[j * 3 + 1]? = some (.int .i64 (l.getD j (0, 0, 0)).2.1) ∧ cs[j * 3 + 2]? = some (.int .i64 (l.getD j (0, 0, 0)).2.2)
theorem fillC_step {w wr w1 : World} {n k : Nat} {l : List Cn} {a b d : Int} (h : FillC w w.heap.size n k l wr) (hb : Below wr.heap.size wr w1) (hk : k < n) (ht : l.getD k (0, 0, 0) = (a, b, d)) :
    FillC w w.heap.size n (k + 1) l (((w1.setCell ⟨w.heap.size, k * 3, none⟩ (.int .i64 a)).setCell ⟨w.heap.size, k * 3 + 1, none⟩ (.int .i64 b)).setCell ⟨w.heap.size, k * 3 + 2, none⟩ (.int .i64 d)) := by
  obtain ⟨hbel, cs, hblk, hs, hc⟩ := h
  have hblk1 := hblk.below hb hblk.lt
  refine ⟨(((hbel.trans (hb.mono hbel.size)).setCell (p := ⟨w.heap.size, k * 3, none⟩) (Nat.le_refl _) _).setCell (p := ⟨w.heap.size, k * 3 + 1, none⟩) (Nat.le_refl _) _).setCell (p := ⟨w.heap.size, k * 3 + 2, none⟩) (Nat.le_refl _) _, _, ((hblk1.put _ _).put _ _).put _ _, by simp [hs], ?_⟩
  intro j hj
  by_cases e : j = k
  · subst e
    rw [ht]
    refine ⟨?_, ?_, ?_⟩
    · rw [Array.getElem?_setIfInBounds_ne (by omega), Array.getElem?_setIfInBounds_ne (by omega), Array.getElem?_setIfInBounds_self_of_lt (by omega)]
    · rw [Array.getElem?_setIfInBounds_ne (by omega), Array.getElem?_setIfInBounds_self_of_lt (by simp; omega)]
    · rw [Array.getElem?_setIfInBounds_self_of_lt (by simp; omega)]
  · obtain ⟨x, y, z⟩ := hc j (by omega)
    refine ⟨?_, ?_, ?_⟩
    · rw [Array.getElem?_setIfInBounds_ne (by omega), Array.getElem?_setIfInBounds_ne (by omega), Array.getElem?_setIfInBounds_ne (by omega)]; exact x
    · rw [Array.getElem?_setIfInBounds_ne (by omega), Array.getElem?_setIfInBounds_ne (by omega), Array.getElem?_setIfInBounds_ne (by omega)]; exact y
    · rw [Array.getElem?_setIfInBounds_ne (by omega), Array.getElem?_setIfInBounds_ne (by omega), Array.getElem?_setIfInBounds_ne (by omega)]; exact z

set_option maxHeartbeats 800000 in
theorem toConS_any (w : World) (B : Nat) (A : Option Addr) (n c : Nat) (l : List Cn) (hB : B ≤ w.heap.size) (hl : ConR w B A n l) (hn : n ≤ 1048576) :
    Calls Tryz.prog 34 #[.slice A n c] w fun e w' => e = .returned (.slice (some ⟨w.heap.size, 0, none⟩) n n) ∧ Below w.heap.size w w' ∧ ConOwn w' w.heap.size n l := by
  obtain ⟨i0, hi, hz0, hz1, hz2⟩ := info_parts info_con
  have hmk : ∀ wx, (Instr.makeSlice 24 (.int .i64 (n : Int)) (.int .i64 (n : Int))).run Tryz.prog wx = .ok (.slice (some ⟨wx.heap.size, 0, none⟩) n n) (wx.alloc (.cells (madeCells (Value.agg #[.int .i64 0, .int .i64 0, .int .i64 0]).cells (n * 3)) 41)) := by
    intro wx
    have hr := run_make (P := Tryz.prog) wx 24 41 i0 _ Tryz.underlying24 hi hz0 .i64 .i64 n n (by omega) (by omega) (by rw [hz2]; omega) (by omega)
    simp only [Int.toNat_natCast, hz1] at hr
    exact hr
  have hstart : FillC w w.heap.size n 0 l (w.alloc (.cells (madeCells (Value.agg #[.int .i64 0, .int .i64 0, .int .i64 0]).cells (n * 3)) 41)) :=
    ⟨(Below.refl _ _).alloc (Nat.le_refl _) _, _, Blk.made _ _ _, by simp [madeCells], by intro j hj; omega⟩
  have HS := Lib.hid hstart
  clear hstart hi hz0 hz1 hz2
  go_enter Tryz.func34, Tryz.ntmps34
  go_wp2
  go_loopw [4] (fun i wr => ∃ k : Nat, k ≤ n ∧ i = .int .i64 k ∧ FillC w w.heap.size n k l wr) (fun i _ => n - (intOf i).toNat)
  case atStart => exact ⟨0, Nat.zero_le _, rfl, HS.out⟩
  case round =>
    obtain ⟨k, hk, rfl, hF⟩ := hrel
    by_cases hlt : k < n
    · obtain ⟨b, off, rfl, hb, hc⟩ := hl.2 (by omega)
      obtain ⟨c1, c2, c3⟩ := hc k hlt
      obtain ⟨t, ht⟩ : ∃ t, l.getD k (0, 0, 0) = t := ⟨_, rfl⟩
      rw [ht] at c1 c2 c3
      obtain ⟨U, R, V⟩ := t
      have hbel := hF.1
      have k1 := (hbel.cell (p := ⟨b, off + k * 3, none⟩) (by show b < _; omega)).trans c1
      have k2 := (hbel.cell (p := ⟨b, off + k * 3 + 1, none⟩) (by show b < _; omega)).trans c2
      have k3 := (hbel.cell (p := ⟨b, off + k * 3 + 2, none⟩) (by show b < _; omega)).trans c3
      have HT := Lib.hid ht
      have HF := Lib.hid hF
      have hszr := hbel.size
      clear c1 c2 c3 hc ht
      go_wp2_with fail
      refine (toCon_any _ _ _ _).mono ?_
      rintro e w1 ⟨rfl, hb1⟩
      obtain ⟨_, cs, hblk, hs, _⟩ := HF.out
      have hblk1 := hblk.below hb1 hblk.lt
      have hlt1 := hblk1.lt
      have f1 := hblk1.thawed (k * 3)
      have f2 := hblk1.thawed (k * 3 + 1)
      have f3 := hblk1.thawed (k * 3 + 2)
      obtain ⟨v1, e1⟩ : ∃ v1, w1.cell? ⟨w.heap.size, k * 3, none⟩ = some v1 := ⟨_, (hblk1.cell _).trans (Array.getElem?_eq_getElem (by omega))⟩
      obtain ⟨v2, e2⟩ : ∃ v2, w1.cell? ⟨w.heap.size, k * 3 + 1, none⟩ = some v2 := ⟨_, (hblk1.cell _).trans (Array.getElem?_eq_getElem (by omega))⟩
      obtain ⟨v3, e3⟩ : ∃ v3, w1.cell? ⟨w.heap.size, k * 3 + 2, none⟩ = some v3 := ⟨_, (hblk1.cell _).trans (Array.getElem?_eq_getElem (by omega))⟩
      have HN := Lib.hid (fillC_step HF.out hb1 hlt HT.out)
      clear hblk hblk1 hs hF
      go_wp2
      go_roundw
      case rel => exact ⟨k + 1, by omega, by go_num, HN.out⟩
      case measure => simp [intOf]; omega
    · obtain rfl : k = n := by omega
      obtain ⟨hbel, hcs⟩ := hF
      have HC := Lib.hid hcs
      clear hcs
      go_wp2
      go_ret
      exact ⟨rfl, hbel, hl.1, HC.out⟩

set_option maxHeartbeats 800000 in
theorem eqCon_any (a b c p q r : Int) (w : World) :
    Calls Tryz.prog 78 #[.agg #[.int .i64 a, .int .i64 b, .int .i64 c], .agg #[.int .i64 p, .int .i64 q, .int .i64 r]] w fun e w' => e = .returned (.bool (decide ((a, b, c) = (p, q, r)))) ∧ Below w.heap.size w w' := by
  have hb : Below w.heap.size w ((w.alloc (.cells #[.int .i64 a, .int .i64 b, .int .i64 c] 41)).alloc (.cells #[.int .i64 p, .int .i64 q, .int .i64 r] 41)) := ((Below.refl _ _).alloc (Nat.le_refl _) _).alloc (by simp) _
  have HB := Lib.hid hb
  clear hb
  by_cases h1 : a = p
  · subst h1
    by_cases h2 : b = q
    · subst h2
      by_cases h3 : c = r
      · subst h3
        go_enter Tryz.func78, Tryz.ntmps78
        go_wp2
        go_ret
        exact ⟨ret_bool (by simp), HB.out⟩
      · have e3 : (c != r) = true := by simpa using h3
        have HD : Hid (decide ((a, b, c) = (a, b, r)) = false) := by show _ = _; simp [h3]
        clear h3
        go_enter Tryz.func78, Tryz.ntmps78
        go_wp2
        go_ret
        exact ⟨by rw [HD.out]; rfl, HB.out⟩
    · have e2 : (b != q) = true := by simpa using h2
      have HD : Hid (decide ((a, b, c) = (a, q, r)) = false) := by show _ = _; simp [h2]
      clear h2
      go_enter Tryz.func78, Tryz.ntmps78
      go_wp2
      go_ret
      exact ⟨by rw [HD.out]; rfl, HB.out⟩
  · have e1 : (a != p) = true := by simpa using h1
    have HD : Hid (decide ((a, b, c) = (p, q, r)) = false) := by show _ = _; simp [h1]
    clear h1
    go_enter Tryz.func78, Tryz.ntmps78
    go_wp2
    go_ret
    exact ⟨by rw [HD.out]; rfl, HB.out⟩

set_option maxRecDepth 100000 in
set_option maxHeartbeats 1000000 in
theorem eqConS_any (w : World) (B : Nat) (A1 A2 : Option Addr) (n1 n2 c1 c2 : Nat) (l m : List Cn) (hB : B ≤ w.heap.size) (hl : ConR w B A1 n1 l) (hm : ConR w B A2 n2 m)
    (hn1 : (n1 : Int) ≤ 140737488355328) (hn2 : (n2 : Int) ≤ 140737488355328) :
    Calls Tryz.prog 37 #[.slice A1 n1 c1, .slice A2 n2 c2] w fun e w' => e = .returned (.bool (decide (l = m))) ∧ Below w.heap.size w w' := by
  by_cases hne : n1 = n2
  · subst hne
    have en : ((n1 : Int) != (n1 : Int)) = false := by simp
    go_enter Tryz.func37, Tryz.ntmps37
    go_wp2
    go_loopw [5] (fun i wr => ∃ k : Nat, k ≤ n1 ∧ i = .int .i64 k ∧ Agree (0, 0, 0) k l m ∧ Below w.heap.size w wr) (fun i _ => n1 - (intOf i).toNat)
    case atStart => exact ⟨0, Nat.zero_le _, rfl, (fun j hj => absurd hj (by omega)), Below.refl _ _⟩
    case round =>
      obtain ⟨k, hk, rfl, hag, hbel⟩ := hrel
      have HG := Lib.hid hag
      clear hag
      by_cases hlt : k < n1
      · obtain ⟨b, off, rfl, hb, hc⟩ := hl.2 (by omega)
        obtain ⟨x1, x2, x3⟩ := hc k hlt
        obtain ⟨b', off', rfl, hb', hc'⟩ := hm.2 (by omega)
        obtain ⟨y1, y2, y3⟩ := hc' k hlt
        have HL := Lib.hid hl
        have HM := Lib.hid hm
        obtain ⟨t, ht⟩ : ∃ t, l.getD k (0, 0, 0) = t := ⟨_, rfl⟩
        obtain ⟨u, hu⟩ : ∃ u, m.getD k (0, 0, 0) = u := ⟨_, rfl⟩
        rw [ht] at x1 x2 x3
        rw [hu] at y1 y2 y3
        obtain ⟨p, q, r⟩ := t
        obtain ⟨p', q', r'⟩ := u
        have HT := Lib.hid ht
        have HU := Lib.hid hu
        have k1 := (hbel.cell (p := ⟨b, off + k * 3, none⟩) (by show b < _; omega)).trans x1
        have k2 := (hbel.cell (p := ⟨b, off + k * 3 + 1, none⟩) (by show b < _; omega)).trans x2
        have k3 := (hbel.cell (p := ⟨b, off + k * 3 + 2, none⟩) (by show b < _; omega)).trans x3
        have k4 := (hbel.cell (p := ⟨b', off' + k * 3, none⟩) (by show b' < _; omega)).trans y1
        have k5 := (hbel.cell (p := ⟨b', off' + k * 3 + 1, none⟩) (by show b' < _; omega)).trans y2
        have k6 := (hbel.cell (p := ⟨b', off' + k * 3 + 2, none⟩) (by show b' < _; omega)).trans y3
        clear x1 x2 x3 y1 y2 y3 hc hc' ht hu hl hm
        go_wp2_with fail
        refine region_tail 8 (by kernel_rfl) (by kernel_rfl) ?_
        simp only [List.take_succ_cons, List.take_zero, List.drop_succ_cons, List.drop_zero]
        repeat still_step
        refine wpStill_nil ?_
        go_wp2_with fail
        refine (eqCon_any p q r p' q' r' _).mono ?_
        rintro e w1 ⟨rfl, hb1⟩
        have HB := Lib.hid (hbel.drew.trans (hb1.mono hbel.size))
        clear hb1
        by_cases heq : (p, q, r) = (p', q', r')
        · have HA : Hid (Agree (0, 0, 0) (k + 1) l m) := agree_step HG.out (by rw [HT.out, HU.out, heq])
          rw [decide_eq_true heq]
          clear heq
          go_wp2
          go_roundw
          case rel => exact ⟨k + 1, by omega, by go_num, HA.out, HB.out⟩
          case measure => simp [intOf]; omega
        · have HF : Hid (decide (l = m) = false) := by
            show _ = _
            rw [decide_eq_false_iff_not]
            intro h
            apply heq
            rw [← HT.out, ← HU.out, h]
          rw [decide_eq_false heq]
          clear heq
          go_wp2
          go_ret
          exact ⟨by rw [HF.out]; rfl, HB.out⟩
      · obtain rfl : k = n1 := by omega
        have HF : Hid (decide (l = m) = true) := by
          show _ = _
          rw [decide_eq_true_eq]
          exact agree_all hl.1 hm.1 HG.out
        clear hl hm
        go_wp2
        go_ret
        exact ⟨by rw [HF.out]; rfl, hbel⟩
  · have HF : Hid (decide (l = m) = false) := by
      show _ = _
      rw [decide_eq_false_iff_not]
      intro h
      apply hne
      rw [← hl.1, ← hm.1, h]
    have en : ((n1 : Int) != (n2 : Int)) = true := by simp; omega
    clear hl hm hne
    go_enter Tryz.func37, Tryz.ntmps37
    go_wp2
    go_ret
    exact ⟨by rw [HF.out]; rfl, Below.refl _ _⟩
end Go.Proofs.YtgebjnoicgmdoaaGreatDoor
