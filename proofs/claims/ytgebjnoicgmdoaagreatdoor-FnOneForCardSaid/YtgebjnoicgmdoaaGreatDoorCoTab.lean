/- The program's norm, read out of its map. -/
/- NormOf and NormMax of the program and of the reference model. -/
/- The cursor's size; the draw of NormMax. -/
/- Words for memory: a table of six rows of six numbers, each row a block of the call's own. -/
import Derived.Test.YtgebjnoicgmdoaaGreatDoorNMap
import Derived.Test.YtgebjnoicgmdoaaGreatDoorActs
import Derived.Test.YtgebjnoicgmdoaaGreatDoorNMath2
import Derived.Test.YtgebjnoicgmdoaaGreatDoorNUp
import Derived.Test.YtgebjnoicgmdoaaGreatDoorCoMem

namespace Go.Proofs.YtgebjnoicgmdoaaGreatDoor
open Go.RowKit Go.Maps

def arrI (V : Nat → Int) : Array Value := #[.int .i64 (V 0), .int .i64 (V 1), .int .i64 (V 2), .int .i64 (V 3), .int .i64 (V 4), .int .i64 (V 5)]
def arrB (U : Nat → Bool) : Array Value := #[.bool (U 0), .bool (U 1), .bool (U 2), .bool (U 3), .bool (U 4), .bool (U 5)]
theorem six {k : Nat} (h : k < 6) : k = 0 ∨ k = 1 ∨ k = 2 ∨ k = 3 ∨ k = 4 ∨ k = 5 := by omega
theorem arrI_put (V : Nat → Int) (k : Nat) (h : k < 6) (v : Int) : (arrI V).setIfInBounds k (.int .i64 v) = arrI (fun i => if i = k then v else V i) := by
  rcases six h with rfl | rfl | rfl | rfl | rfl | rfl <;> rfl
theorem arrB_put (U : Nat → Bool) (k : Nat) (h : k < 6) (v : Bool) : (arrB U).setIfInBounds k (.bool v) = arrB (fun i => if i = k then v else U i) := by
  rcases six h with rfl | rfl | rfl | rfl | rfl | rfl <;> rfl
theorem arrI_at (V : Nat → Int) (k : Nat) (h : k < 6) : (arrI V)[k]? = some (.int .i64 (V k)) := by
  rcases six h with rfl | rfl | rfl | rfl | rfl | rfl <;> rfl
theorem arrB_at (U : Nat → Bool) (k : Nat) (h : k < 6) : (arrB U)[k]? = some (.bool (U k)) := by
  rcases six h with rfl | rfl | rfl | rfl | rfl | rfl <;> rfl
set_option maxRecDepth 100000 in
theorem run_index6 (V : Nat → Int) (k : Nat) (h : k < 6) (wx : World) : (Instr.index 83 (.agg (arrI V)) (.int .i64 (k : Int))).run Tryz.prog wx = .ok (.int .i64 (V k)) wx := by
  rcases six h with rfl | rfl | rfl | rfl | rfl | rfl <;> kernel_rfl

/-- what the two arrays hold while some entries are still to come -/
def Filled (u : Int → Bool) (o : Int → Int) (left : Lit → Bool) (V : Nat → Int) (U : Nat → Bool) : Prop :=
  ∀ i : Nat, i < 6 → U i = (u ((i : Int) - 1) && !left (ik ((i : Int) - 1))) ∧ (U i = true → V i = o ((i : Int) - 1))
theorem filled_step {u : Int → Bool} {o : Int → Int} {left : Lit → Bool} {V : Nat → Int} {U : Nat → Bool} {k : Nat} (h : Filled u o left V U) (hu : u ((k : Int) - 1) = true) :
    Filled u o (fun z => left z && !z.sameKey (ik ((k : Int) - 1))) (fun i => if i = k then o ((k : Int) - 1) else V i) (fun i => if i = k then true else U i) := by
  intro i hi
  by_cases e : i = k
  · subst e
    simp [same_ik, hu]
  · have := h i hi
    have hne : ¬ ((i : Int) - 1 = (k : Int) - 1) := by omega
    simp only [e, if_false, same_ik, hne, decide_false, Bool.not_false, Bool.and_true]
    exact this

theorem readOut_take (u : Int → Bool) (o : Int → Int) (k : Nat) : Nm.readOut u o (k + 1) = Nm.readOut u o k ++ if u ((k : Int) - 1) = true then [((k : Int) - 1, o ((k : Int) - 1))] else [] := rfl

set_option maxRecDepth 100000 in
set_option maxHeartbeats 3200000 in
theorem sortedAtoms_any (w : World) (b n : Nat) (D : DataW Unit) (u : Int → Bool) (o : Int → Int) (hown : w.ownsMap Tryz.prog 3 (plainElem Tryz.prog 3) b n D) (hr : Reads D u o) (hu : ∀ p, u p = true → -1 ≤ p ∧ p < 5) :
    Calls Tryz.prog 164 #[.map (some b)] w fun e w' => ∃ A c, e = .returned (.slice A (Nm.readOut u o 6).length c) ∧ OwnA w' w.heap.size A (Nm.readOut u o 6).length c (Nm.readOut u o 6) ∧ Below w.heap.size w w' := by
  obtain ⟨i0, hi, hz0, hz1, hz2⟩ := info_parts info_atom
  have HR := Lib.hid hr
  have HU := Lib.hid hu
  have hbl := hown.lt
  have HK1 : Hid (Blk ((w.alloc (.cells (arrI fun _ => 0) 83)).alloc (.cells (arrB fun _ => false) 226)) w.heap.size 83 (arrI fun _ => 0)) := (Blk.made _ _ _).alloc _
  have HK2 : Hid (Blk ((w.alloc (.cells (arrI fun _ => 0) 83)).alloc (.cells (arrB fun _ => false) 226)) (w.heap.size + 1) 226 (arrB fun _ => false)) := by
    have h := Blk.made (w.alloc (.cells (arrI fun _ => 0) 83)) 226 (arrB fun _ => false)
    exact Lib.hid (by simpa using h)
  have HB0 : Hid (Below w.heap.size w ((w.alloc (.cells (arrI fun _ => 0) 83)).alloc (.cells (arrB fun _ => false) 226))) := ((Below.refl _ _).alloc (Nat.le_refl _) _).alloc (by simp) _
  have hown2 : ((w.alloc (.cells (arrI fun _ => 0) 83)).alloc (.cells (arrB fun _ => false) 226)).ownsMap Tryz.prog 3 (plainElem Tryz.prog 3) b n D := (hown.alloc _).alloc _
  have e1 : ((w.alloc (.cells (arrI fun _ => 0) 83)).alloc (.cells (arrB fun _ => false) 226)).heap.size = w.heap.size + 1 + 1 := by simp
  clear hr hu hown
  go_enter Tryz.func164, Tryz.ntmps164
  go_wp2_with (first
    | (at_range; refine wpList_range_own _ rfl _ 214 rfl 3 3 lawInt Tryz.underlying214 _ b n _ rfl hown2 ?_; intro w0 hrg0 hg0 hs0)
    | go_in)
  have hrg1 : w0.ranges Tryz.prog 3 (plainElem Tryz.prog 3) b (w.heap.size + 1 + 1) n D (Maps.has D) (Maps.size D) := by rw [← e1]; exact hrg0
  have HK10 := Lib.hid (HK1.out.grown hg0 (by simp))
  have HK20 := Lib.hid (HK2.out.grown hg0 (by simp))
  have HB1 : Hid (Below w.heap.size w w0) := HB0.out.grown hg0 (by rw [e1]; omega) (fun j hj => by cases hj)
  clear HK1 HK2 HB0 hown2 hg0 hrg0 hs0
  go_loopw [5] (fun _ wr => ∃ (left : Lit → Bool) (cnt : Nat) (V : Nat → Int) (U : Nat → Bool), wr.ranges Tryz.prog 3 (plainElem Tryz.prog 3) b (w.heap.size + 1 + 1) n D left cnt ∧ Blk wr w.heap.size 83 (arrI V) ∧ Blk wr (w.heap.size + 1) 226 (arrB U) ∧ Hid (Filled u o left V U) ∧ Below w.heap.size w wr)
    (fun _ wr => wr.rangeLeft b (w.heap.size + 1 + 1))
  case atStart =>
    refine ⟨_, _, fun _ => 0, fun _ => false, hrg1, HK10.out, HK20.out, fun i hi => ?_, HB1.out⟩
    rw [(HR.out _).1]
    simp
  case round =>
    obtain ⟨left, cnt, V, U, hrg, hk1, hk2, HF, hbel⟩ := hrel
    have hbs := hbel.size
    have hl2 := hk2.lt
    go_wp2_with (first
      | (at_next; refine wpList_next_ranges_ii _ rfl _ rfl 3 3 .i64 .i64 lawInt Tryz.underlying3 Tryz.underlying3 b (w.heap.size + 1 + 1) n _ _ _ rfl hrg ?_ ?_)
      | go_in)
    · intro _ hl0
      have HFE : Hid (∀ i : Nat, i < 6 → U i = u ((i : Int) - 1) ∧ (U i = true → V i = o ((i : Int) - 1))) := by
        intro i hi
        have := HF.out i hi
        rw [hl0] at this
        simpa using this
      have hix := run_index6 V
      have hrow : wr.heap[w.heap.size]? = some (.cells (arrI V) 83 (0, 0)) := hk1
      clear hrg HF hl0
      go_wp2_with (first | (refine wpList_load_row rfl 83 _ rfl w.heap.size rfl 83 (arrI V) (0, 0) _ hrow Tryz.underlying83 rfl (by kernel_rfl) ?_) | go_in)
      go_loopw [7, 25] (fun v i wq => ∃ (k : Nat) (A' : Option Addr) (c' : Nat), k ≤ 6 ∧ i = .int .i64 k ∧ v = .slice A' (Nm.readOut u o k).length c' ∧ OwnA wq w.heap.size A' (Nm.readOut u o k).length c' (Nm.readOut u o k) ∧ Blk wq (w.heap.size + 1) 226 (arrB U) ∧ Below w.heap.size w wq) (fun _ i _ => 6 - (intOf i).toNat)
      case atStart => exact ⟨0, none, 0, by omega, rfl, rfl, World.ownsRow_nil _ _ _ _, hk2, hbel⟩
      case round =>
        rename_i wr0 _
        obtain ⟨k, A', c', hk, rfl, rfl, hown, hkq, hbq⟩ := hrel
        have hln := Nm.readOut_len u o k
        have hszq := hbq.size
        by_cases hlt : k < 6
        · have hixk := hix k hlt
          have hul := (hkq.cell k).trans (arrB_at U k hlt)
          obtain ⟨f1, f2⟩ := HFE.out k hlt
          have HRO := Lib.hid (readOut_take u o k)
          have hki : (k : Int) < 6 := by omega
          cases hU : U k with
          | true =>
            rw [hU] at hul f1 f2
            have hv := f2 rfl
            have HRO2 : Hid (Nm.readOut u o (k + 1) = Nm.readOut u o k ++ [((k : Int) + -1, V k)]) := by show _ = _; rw [HRO.out, if_pos f1.symm, hv]; rfl
            generalize Nm.readOut u o k = a at hown hln HRO2 ⊢
            have hap := own_apart hown hkq (by decide)
            have HNB : Hid (∀ j u, ([Value.int .i64 ((k : Int) + -1), .int .i64 (V k)] : List Value)[j]? = some u → (wr.alloc (.cells #[.int .i64 ((k : Int) + -1), .int .i64 (V k)] 92)).cell? ((⟨wr.heap.size, 0, none⟩ : Addr).add j) = some u) := World.news_of_block (cs := #[.int .i64 ((k : Int) + -1), .int .i64 (V k)]) (t := 92) (fr := (0, 0)) (heap_alloc_new wr _)
            clear f1 f2 hv hU HRO
            go_wp2_with (at_builtin; refine wpList_append_own _ rfl (.tmp 32) (.tmp 37) 138 rfl w.heap.size 92 i0 (.agg #[.int .i64 0, .int .i64 0]) 2 16 Tryz.underlying138 hi hz0 hz1 hz2 rfl (by decide) (.slice A' a.length c') a.length (tokCells a) rfl (hown.alloc _) ⟨wr.heap.size, 0, none⟩ 1 1 [.int .i64 ((k : Int) + -1), .int .i64 (V k)] rfl rfl HNB.out (by intro v hv; simp at hv; rcases hv with rfl | rfl <;> rfl) (by unfold maxLen; omega) (by omega) (by simp; omega) ?_; intro v' w3 hown' hgrow _)
            obtain ⟨g', cap', rfl⟩ : ∃ g' cap', v' = .slice (some ⟨g', 0, none⟩) (a.length + 1) cap' := by
              rcases hown'.2 with ⟨_, h⟩ | ⟨g', cap', _, h, _⟩
              · omega
              · exact ⟨g', cap', h⟩
            have HB3 : Hid (Below w.heap.size w w3) := (hbq.alloc hszq _).grown hgrow (by simp; omega) (fun j h => (hown.lt j h).1)
            have HK3 := Lib.hid ((hkq.alloc (.cells #[.int .i64 ((k : Int) + -1), .int .i64 (V k)] 92)).grown hgrow (fun h => hap h.symm))
            have HLN : Hid ((Nm.readOut u o (k + 1)).length = a.length + 1) := by show _ = _; rw [HRO2.out, List.length_append]; rfl
            have HW : Hid (OwnA w3 w.heap.size (some ⟨g', 0, none⟩) (Nm.readOut u o (k + 1)).length cap' (Nm.readOut u o (k + 1))) := by
              show OwnA _ _ _ _ _ _
              rw [HLN.out, HRO2.out]
              unfold OwnA
              rw [tokCells_append]
              exact hown'
            clear hown' hgrow hown hap
            go_wp2
            go_roundw
            case rel => exact ⟨k + 1, some ⟨g', 0, none⟩, cap', by omega, by go_num, by rw [HLN.out], HW.out, HK3.out, HB3.out⟩
            case measure => simp [intOf]; omega
          | false =>
            rw [hU] at hul f1
            have HRO2 : Hid (Nm.readOut u o (k + 1) = Nm.readOut u o k) := by show _ = _; rw [HRO.out, if_neg (by rw [← f1]; simp), List.append_nil]
            have HW := Lib.hid hown
            clear f1 f2 hU HRO hown
            go_wp2
            go_roundw
            case rel => exact ⟨k + 1, A', c', by omega, by go_num, by rw [HRO2.out], by rw [HRO2.out]; exact HW.out, hkq, hbq⟩
            case measure => simp [intOf]; omega
        · obtain rfl : k = 6 := by omega
          have HW := Lib.hid hown
          clear hown
          go_wp2
          go_ret
          exact ⟨A', c', rfl, HW.out, hbq⟩
    · intro x c w1 cnt1 hwx hwc hlx hat hrg1 hlt hg1 hs1 hen
      have hhas : Maps.has D (ik x) = true := has_true_of_atKey hat
      have hux : u x = true := by rw [← (HR.out x).1]; exact hhas
      have hov : c = o x := by
        have h2 := (HR.out x).2 hux (.lit (.int .i64 0))
        rw [hat] at h2
        injection h2 with h2
        injection h2 with _ h2
      subst hov
      obtain ⟨hx1, hx2⟩ := HU.out x hux
      obtain ⟨xn, rfl⟩ : ∃ xn : Nat, x = (xn : Int) - 1 := ⟨(x + 1).toNat, by omega⟩
      have hxn : xn < 6 := by omega
      have HFN := Lib.hid (filled_step HF.out hux)
      have HM : Hid (wr.rangeLeft b (w.heap.size + 1 + 1) = cnt) := hrg.left_eq
      have hk11 := hk1.grown hg1 (by intro h; injection h with h; omega)
      have hk21 := hk2.grown hg1 (by intro h; injection h with h; omega)
      have hbs1 : Below w.heap.size w w1 := hbel.grown hg1 hbel.size (fun j hj => by cases hj; omega)
      have c1 := (hk11.cell xn).trans (arrI_at V xn hxn)
      have t1 := hk11.thawed xn
      have hq1 := hk11.put xn (.int .i64 (o ((xn : Int) - 1)))
      rw [arrI_put V xn hxn] at hq1
      have hq2 := hk21.other (p := ⟨w.heap.size, xn, none⟩) (by simp) (.int .i64 (o ((xn : Int) - 1)))
      have c2 := (hq2.cell xn).trans (arrB_at U xn hxn)
      have t2 := hq2.thawed xn
      have hq3 := hq2.put xn (.bool true)
      rw [arrB_put U xn hxn] at hq3
      have HQ1 := Lib.hid (hq1.other (p := ⟨w.heap.size + 1, xn, none⟩) (by simp) (.bool true))
      have HQ2 := Lib.hid hq3
      have HB2 := Lib.hid ((hbs1.setCell (p := ⟨w.heap.size, xn, none⟩) (Nat.le_refl _) (.int .i64 (o ((xn : Int) - 1)))).setCell (p := ⟨w.heap.size + 1, xn, none⟩) (Nat.le_succ _) (.bool true))
      have HRG : Hid (((w1.setCell ⟨w.heap.size, xn, none⟩ (.int .i64 (o ((xn : Int) - 1)))).setCell ⟨w.heap.size + 1, xn, none⟩ (.bool true)).ranges Tryz.prog 3 (plainElem Tryz.prog 3) b (w.heap.size + 1 + 1) n D (fun z => left z && !z.sameKey (ik ((xn : Int) - 1))) cnt1) := by
        have s1 : w1.grownBy (w1.setCell ⟨w.heap.size, xn, none⟩ (.int .i64 (o ((xn : Int) - 1)))) (some w.heap.size) := ⟨rfl, rfl, rfl, by simp [World.setCell], fun i _ hne => Below.heap_setCell w1 ⟨w.heap.size, xn, none⟩ _ i (by intro he; subst he; exact hne rfl)⟩
        have s2 : (w1.setCell ⟨w.heap.size, xn, none⟩ (.int .i64 (o ((xn : Int) - 1)))).grownBy ((w1.setCell ⟨w.heap.size, xn, none⟩ (.int .i64 (o ((xn : Int) - 1)))).setCell ⟨w.heap.size + 1, xn, none⟩ (.bool true)) (some (w.heap.size + 1)) := ⟨rfl, rfl, rfl, by simp [World.setCell], fun i _ hne => Below.heap_setCell _ ⟨w.heap.size + 1, xn, none⟩ _ i (by intro he; subst he; exact hne rfl)⟩
        exact (hrg1.kept s1 (by intro h; injection h with h; omega) (by intro h; injection h with h; omega)).kept s2 (by intro h; injection h with h; omega) (by intro h; injection h with h; omega)
      have hxi : (xn : Int) < 6 := by omega
      clear hk1 hk2 hk11 hk21 hq1 hq2 hq3 hrg hrg1 hat hlx hwx hwc hg1 hs1 hbs1 HF hhas hux
      generalize o ((xn : Int) - 1) = ov at *
      go_wp2
      go_roundw
      case rel => exact ⟨_, cnt1, _, _, HRG.out, HQ1.out, HQ2.out, HFN.out, HB2.out⟩
      case measure => rw [HRG.out.left_eq, HM.out]; exact hlt
end Go.Proofs.YtgebjnoicgmdoaaGreatDoor

namespace Go.Proofs.YtgebjnoicgmdoaaGreatDoor
open Go.RowKit Go.Maps

theorem normOf_no {l : List (Int × Int)} (h : ¬ (1 ≤ l.length ∧ l.length ≤ 100 ∧ Nm.AllOk l)) : Nm.normOf l = none := by unfold Nm.normOf; rw [if_neg h]
theorem normOf_yes {l : List (Int × Int)} (h : 1 ≤ l.length ∧ l.length ≤ 100 ∧ Nm.AllOk l) : Nm.normOf l = some (Nm.norm l) := by unfold Nm.normOf; rw [if_pos h]

/-- the keys that are left, where the number is redundant -/
def cutB (l : List (Int × Int)) (p : Int) : Bool := if p = -1 then false else hasB l p
theorem cut_reads {D : DataW Unit} {l : List (Int × Int)} (h : GM D l) : Reads (D.del (ik (-1))) (cutB l) (fun p => Nm.best p l) := by
  intro p
  by_cases e : p = -1
  · subst e
    exact ⟨by rw [has_del_same]; simp [cutB], fun h => by simp [cutB] at h⟩
  · have h1 := h p
    refine ⟨by rw [has_del_other (ik_ne e), h1.1]; simp [cutB, e], fun hu z => ?_⟩
    rw [atKey_del_other (ik_ne e)]
    exact h1.2 (by simpa [cutB, e] using hu) z
theorem keep_of_red {l : List (Int × Int)} (h : redB l = true) : Nm.readOut (cutB l) (fun p => Nm.best p l) 6 = Nm.norm l := by
  rw [← Nm.readOut_norm]
  refine Nm.readOut_congr 6 fun p h1 h2 => ⟨?_, fun _ => rfl⟩
  simp only [redB, decide_eq_true_eq] at h
  unfold cutB Nm.keepB hasB
  split
  · symm; simp; omega
  · rfl
theorem keep_of_not {l : List (Int × Int)} (h : redB l = false) : Nm.readOut (hasB l) (fun p => Nm.best p l) 6 = Nm.norm l := by
  rw [← Nm.readOut_norm]
  refine Nm.readOut_congr 6 fun p h1 h2 => ⟨?_, fun _ => rfl⟩
  simp only [redB, decide_eq_false_iff_not] at h
  have g1 := Nm.most_ge l 5
  have g2 := Nm.best_ge (-1) l
  unfold Nm.keepB hasB
  split
  · rename_i e; subst e
    rw [decide_eq_decide]
    omega
  · rfl

set_option maxRecDepth 100000 in
set_option maxHeartbeats 1600000 in
theorem implNormOf_any (w : World) (B : Nat) (A : Option Addr) (n c : Nat) (l : List (Int × Int)) (hB : B ≤ w.heap.size) (hl : TokR w B A n l) (hn : (n : Int) ≤ 140737488355328) :
    Calls Tryz.prog 148 #[.slice A n c] w (ResA w (Nm.normOf l)) := by
  have hln := hl.1
  by_cases h1 : n = 0
  · subst h1
    have HF : Hid (Nm.normOf l = none) := normOf_no (fun h => by have := h.1; omega)
    clear hl
    go_enter Tryz.func148, Tryz.ntmps148
    go_wp2
    go_ret2
    rw [HF.out]
    exact resA_none (Below.refl _ _)
  · have d1 : ((n : Int) == 0) = false := by simp; omega
    by_cases h100 : 100 < n
    · have HF : Hid (Nm.normOf l = none) := normOf_no (fun h => by have := h.2.1; omega)
      have h100' : (100 : Int) < (n : Int) := by omega
      clear hl
      go_enter Tryz.func148, Tryz.ntmps148
      go_wp2
      go_ret2
      rw [HF.out]
      exact resA_none (Below.refl _ _)
    · have d2 : decide ((100 : Int) < (n : Int)) = false := by simp; omega
      cases hall : Nm.allOk l with
      | false =>
        have HF : Hid (Nm.normOf l = none) := normOf_no (fun h => by rw [(Nm.allOk_iff l).2 h.2.2] at hall; cases hall)
        have HA := Lib.hid hall
        clear hall
        go_enter Tryz.func148, Tryz.ntmps148
        go_wp2_with fail
        refine (atomsOk_any w B A n c l hB hl hn).mono ?_
        rintro e w1 ⟨rfl, hb1⟩
        rw [HA.out]
        go_wp2
        go_ret2
        rw [HF.out]
        exact resA_none hb1
      | true =>
        have hok := (Nm.allOk_iff l).1 hall
        have HF : Hid (Nm.normOf l = some (Nm.norm l)) := normOf_yes ⟨by omega, by omega, hok⟩
        have HA := Lib.hid hall
        have HOK := Lib.hid hok
        have hkey : keyOf Tryz.prog 3 (.int .i64 (-1)) = some (.int .i64 (-1)) := keyOf_int_mk Tryz.underlying3 (WalkArith.wf_i64 (by omega))
        clear hall hok
        go_enter Tryz.func148, Tryz.ntmps148
        go_wp2_with fail
        refine (atomsOk_any w B A n c l hB hl hn).mono ?_
        rintro e w1 ⟨rfl, hb1⟩
        rw [HA.out]
        go_wp2_with fail
        refine (greatestOffs_any w1 B A n c l (Nat.le_trans hB hb1.size) (hl.below (hb1.mono hB)) (by omega) HOK.out).mono ?_
        rintro e w2 ⟨D, rfl, hm2, hg2, hb2⟩
        have hB2 := hb1.trans (hb2.mono hb1.size)
        have HG := Lib.hid hg2
        have hw1 := hb1.size
        have hmlt := hm2.lt
        clear hb1 hb2 hg2 hl hln
        go_wp2_with fail
        refine (numberIsRedundant_any w2 w1.heap.size n D l hm2 HG.out HOK.out).mono ?_
        rintro e w3 ⟨rfl, hb3⟩
        have hm3 : w3.ownsMap Tryz.prog 3 (plainElem Tryz.prog 3) w1.heap.size n D := by
          obtain ⟨es, clock, hbb, rest⟩ := hm2
          exact ⟨es, clock, (hb3.block _ hmlt).trans hbb, rest⟩
        have hB3 := hB2.trans (hb3.mono hB2.size)
        clear hb3 hm2 hB2
        cases hred : redB l with
        | true =>
          have HK := Lib.hid (keep_of_red hred)
          clear hred
          go_wp2_with (at_delete; refine wpList_delete_own _ rfl _ _ 214 3 rfl 3 lawInt Tryz.underlying214 _ w1.heap.size n D rfl hm3 _ _ rfl hkey ?_; intro w4 hm4 ht4)
          have hB4 : Below w.heap.size w w4 := hB3.grown ht4.grown hB3.size (fun j hj => by cases hj; exact hw1)
          clear hm3 hB3 ht4
          go_wp2_with fail
          refine (sortedAtoms_any w4 w1.heap.size n _ (cutB l) (fun p => Nm.best p l) hm4 (cut_reads HG.out) (fun p hp => best_range HOK.out (by unfold cutB hasB at hp; split at hp; cases hp; simpa using hp))).mono ?_
          rintro e w5 ⟨A5, c5, rfl, ho5, hb5⟩
          rw [HK.out] at ho5 ⊢
          have HO := Lib.hid (own_base ho5 hB4.size)
          have HB := Lib.hid (hB4.trans (hb5.mono hB4.size))
          clear ho5 hb5
          go_wp2
          go_ret2
          rw [HF.out]
          exact ⟨A5, c5, rfl, HO.out, HB.out⟩
        | false =>
          have HK := Lib.hid (keep_of_not hred)
          clear hred
          go_wp2_with fail
          refine (sortedAtoms_any w3 w1.heap.size n _ (hasB l) (fun p => Nm.best p l) hm3 HG.out (fun p hp => best_range HOK.out (by unfold hasB at hp; simpa using hp))).mono ?_
          rintro e w5 ⟨A5, c5, rfl, ho5, hb5⟩
          rw [HK.out] at ho5 ⊢
          have HO := Lib.hid (own_base ho5 hB3.size)
          have HB := Lib.hid (hB3.trans (hb5.mono hB3.size))
          clear ho5 hb5
          go_wp2
          go_ret2
          rw [HF.out]
          exact ⟨A5, c5, rfl, HO.out, HB.out⟩
end Go.Proofs.YtgebjnoicgmdoaaGreatDoor

namespace Go.Proofs.YtgebjnoicgmdoaaGreatDoor
open Go.RowKit

set_option maxRecDepth 100000 in
set_option maxHeartbeats 1600000 in
theorem size8_any (w : World) (bc : Nat) (A : Option Addr) (n c K : Nat) (hc : Cur w bc A n c K) (hK : K ≤ 900000) (hn : n ≤ 1048576) :
    Calls Tryz.prog 117 #[.pointer (some ⟨bc, 0, none⟩), .int .i64 8] w fun e w' => ∃ r : Nat, e = .returned (.int .i64 r) ∧ r ≤ 8 ∧ Cur w' bc A n c (K + 1) ∧ Kp bc w w' := by
  have hcast : (n : Int) / 8 = ((n / 8 : Nat) : Int) := by omega
  have hq : n / 8 ≤ 131072 := by omega
  generalize n / 8 = q at hcast hq
  obtain ⟨hby, p, s, hblk, hp, hs⟩ := hc
  have k0 : w.cell? ⟨bc, 0, none⟩ = some (.slice A n c) := hblk.cell 0
  have HC : Hid (Cur w bc A n c K) := ⟨hby, p, s, hblk, hp, hs⟩
  clear hby hblk hp hs
  by_cases h8 : ¬ (1 + q < 8)
  · have h8' : ¬ (1 + (q : Int) < 8) := by omega
    go_enter Tryz.func117, Tryz.ntmps117
    go_wp2_with fail
    refine (pick_any w bc A n c K 9 HC.out (by omega) (by omega) hn).mono ?_
    rintro e w1 ⟨r, rfl, hr, hc1, hk1⟩
    go_wp2
    go_ret
    exact ⟨r, rfl, by omega, hc1, hk1⟩
  · have h8' : 1 + (q : Int) < 8 := by omega
    have hp := pick_any w bc A n c K (q + 2) HC.out (by omega) (by omega) hn
    have e1 : ((q + 2 : Nat) : Int) = 1 + (q : Int) + 1 := by omega
    rw [e1] at hp
    have HP := Lib.hid hp
    clear hp e1
    go_enter Tryz.func117, Tryz.ntmps117
    go_wp2_with fail
    refine HP.out.mono ?_
    rintro e w1 ⟨r, rfl, hr, hc1, hk1⟩
    go_wp2
    go_ret
    exact ⟨r, rfl, by omega, hc1, hk1⟩

end Go.Proofs.YtgebjnoicgmdoaaGreatDoor

namespace Go.Proofs.YtgebjnoicgmdoaaGreatDoor
open Go.RowKit
open Cs (Cn Tb)

theorem own_set {w : World} {base g n c size : Nat} {e : TypeId} {xs : List Value} (h : w.ownsRow base e size (.slice (some ⟨g, 0, none⟩) n c) n xs) (i : Nat) (u : Value) :
    (w.setCell ⟨g, i, none⟩ u).ownsRow base e size (.slice (some ⟨g, 0, none⟩) n c) n (xs.set i u) := by
  refine ⟨by rw [List.length_set]; exact h.1, ?_⟩
  rcases h.2 with ⟨h0, _⟩ | ⟨g', cap, cur, hv, hb, hgg, h1, h2, h3, h4⟩
  · cases h0
  · injection hv with e1 e2 e3
    injection e1 with e1
    injection e1 with e1
    subst e1; subst e3
    refine .inr ⟨g, c, _, rfl, hb, Blk.put (w := w) (t := e) hgg i u, h1, h2, by simp [h3], ?_⟩
    rw [Array.toList_setIfInBounds, List.take_set, h4]
/-- a row of a table -/
def rowL (d : Tb) (i : Nat) : List Int := (List.range 6).map fun j => d i j
theorem rowL_len (d : Tb) (i : Nat) : (rowL d i).length = 6 := by simp [rowL]
theorem rowL_get (d : Tb) (i : Nat) {j : Nat} (hj : j < 6) : (rowL d i).getD j 0 = d i j := by simp [rowL, List.getD_eq_getElem?_getD, hj]
theorem rowL_put (d : Tb) (i j : Nat) (x : Int) : (rowL d i).set j x = rowL (Cs.put d i j x) i := by
  apply List.ext_getElem (by simp [rowL])
  intro k h1 h2
  rw [List.getElem_set]
  by_cases e : j = k
  · subst e
    rw [if_pos rfl]
    simp [rowL, Cs.put]
  · rw [if_neg e]
    simp only [rowL, List.getElem_map, List.getElem_range]
    exact (Cs.put_other d x (fun h => e h.2.symm)).symm
theorem rowL_other (d : Tb) {i a : Nat} (h : a ≠ i) (j : Nat) (x : Int) : rowL (Cs.put d i j x) a = rowL d a := by
  unfold rowL
  apply List.map_congr_left
  intro k _
  exact Cs.put_other d x (fun e => h e.1)
/-- the rows of a table, as values -/
def rowVs (rw cp : Nat → Nat) (n : Nat) : List Value := (List.range n).map fun i => .slice (some ⟨rw i, 0, none⟩) 6 (cp i)
theorem rowVs_get (rw cp : Nat → Nat) {n i : Nat} (hi : i < n) : (rowVs rw cp n)[i]? = some (.slice (some ⟨rw i, 0, none⟩) 6 (cp i)) := by simp [rowVs, hi]
/-- the first n rows of a table -/
structure TabN (w : World) (base g cap n : Nat) (rw cp : Nat → Nat) (d : Tb) : Prop where
  out : w.ownsRow base 29 1 (.slice (some ⟨g, 0, none⟩) n cap) n (rowVs rw cp n)
  row : ∀ i, i < n → OwnI w base (some ⟨rw i, 0, none⟩) 6 (cp i) (rowL d i)
  inj : ∀ i j, i < n → j < n → rw i = rw j → i = j
theorem TabN.below {w w' : World} {base g cap n : Nat} {rw cp : Nat → Nat} {d : Tb} (h : TabN w base g cap n rw cp d) (hb : Below w.heap.size w w') : TabN w' base g cap n rw cp d :=
  ⟨own_below' h.out hb, fun i hi => own_below' (h.row i hi) hb, h.inj⟩
theorem TabN.head {w : World} {base g cap n : Nat} {rw cp : Nat → Nat} {d : Tb} (h : TabN w base g cap n rw cp d) {i : Nat} (hi : i < n) : w.cell? ⟨g, i, none⟩ = some (.slice (some ⟨rw i, 0, none⟩) 6 (cp i)) := by
  have := h.out.cells (g := g) rfl i _ (rowVs_get rw cp hi)
  rw [own_adds] at this
  exact this
theorem TabN.spot {w : World} {base g cap n : Nat} {rw cp : Nat → Nat} {d : Tb} (h : TabN w base g cap n rw cp d) {i j : Nat} (hi : i < n) (hj : j < 6) : w.cell? ⟨rw i, j, none⟩ = some (.int .i64 (d i j)) ∧ w.frozen? ⟨rw i, j, none⟩ = false := by
  have hr := h.row i hi
  obtain ⟨b, off, hA, _, hc⟩ := (OwnI.reads hr).2 (by omega)
  injection hA with e2
  injection e2 with e2 e3
  subst e2; subst e3
  have := hc j hj
  rw [Nat.zero_add, rowL_get d i hj] at this
  refine ⟨this, ?_⟩
  rcases hr.2 with ⟨h0, _⟩ | ⟨g', cap', cur, hv, _, hgg, _⟩
  · cases h0
  · injection hv with e1
    injection e1 with e1
    injection e1 with e1
    rw [e1]
    exact Blk.thawed (w := w) hgg j
theorem TabN.put {w : World} {base g cap n : Nat} {rw cp : Nat → Nat} {d : Tb} (h : TabN w base g cap n rw cp d) {i : Nat} (hi : i < n) (j : Nat) (x : Int) :
    TabN (w.setCell ⟨rw i, j, none⟩ (.int .i64 x)) base g cap n rw cp (Cs.put d i j x) := by
  have hr := h.row i hi
  obtain ⟨cs, hblk⟩ := own_blk hr (rw i) rfl
  have grown : w.grownBy (w.setCell ⟨rw i, j, none⟩ (.int .i64 x)) (some (rw i)) := ⟨rfl, rfl, rfl, by simp [World.setCell], fun k _ hk => Below.heap_setCell _ _ _ _ (fun e => hk (by rw [e]))⟩
  refine ⟨h.out.kept grown (.inr ?_), fun a ha => ?_, h.inj⟩
  · exact own_apart h.out hblk (by decide)
  · by_cases e : a = i
    · subst e
      have := own_set hr j (.int .i64 x)
      rw [← List.map_set, rowL_put d a j x] at this
      exact this
    · rw [rowL_other d e j x]
      refine (h.row a ha).kept grown (.inr fun e2 => ?_)
      have e3 : rw a = rw i := by simpa [Value.ownBlock] using e2
      exact e (h.inj a i ha hi e3)
theorem TabN.base {w : World} {base g cap n : Nat} {rw cp : Nat → Nat} {d : Tb} (h : TabN w base g cap n rw cp d) {i : Nat} (hi : i < n) : base ≤ rw i ∧ rw i < w.heap.size := (h.row i hi).lt (rw i) rfl
end Go.Proofs.YtgebjnoicgmdoaaGreatDoor
