/- The program's norm, read out of its map. -/
import Derived.Test.YtijiohdddfdjfaaDoorNMap
namespace Go.Proofs.YtijiohdddfdjfaaDoor
open Go.RowKit Go.Maps

def arrI (V : Nat → Int) : Array Value := #[.int .i64 (V 0), .int .i64 (V 1), .int .i64 (V 2), .int .i64 (V 3), .int .i64 (V 4), .int .i64 (V 5)]
def arrB (U : Nat → Bool) : Array Value := #[.bool (U 0), .bool (U 1), .bool (U 2), .bool (U 3), .bool (U 4), .bool (U 5)]
theorem six {k : Nat} (h : k < 6) : k = 0 ∨ k = 1 ∨ k = 2 ∨ k = 3 ∨ k = 4 ∨ k = 5 := by omega
theorem arrI_put (V : Nat → Int) (k : Nat) (h : k < 6) (v : Int) : (arrI V).setIfInBounds k (.int .i64 v) = arrI (fun i => if i = k then v else V i) := by
  rcases six h with rfl | rfl | rfl | rfl | rfl | rfl <;> rfl
theorem arrB_put (U : Nat → Bool) (k : Nat) (h : k < 6) (v : Bool) : (arrB U).setIfInBounds k (.bool v) = arrB (fun i => if i = k then v else U i) := by
  rcases six h with rfl | rfl | rfl | rfl | rfl | rfl <;> rfl
theorem arrI_at (V : Nat → Int) (k : Nat) (h : k < 6) : (arrI V)[k]? = some (.int .i64 (V k)) := by
  rcases six h with rfl | rfl | rfl | rfl | rfl | rfl <;> rfl
theorem arrB_at (U : Nat → Bool) (k : Nat) (h : k < 6) : (arrB U)[k]? = some (.bool (U k)) := by
  rcases six h with rfl | rfl | rfl | rfl | rfl | rfl <;> rfl
set_option maxRecDepth 100000 in
theorem run_index6 (V : Nat → Int) (k : Nat) (h : k < 6) (wx : World) : (Instr.index 149 (.agg (arrI V)) (.int .i64 (k : Int))).run Tryd.prog wx = .ok (.int .i64 (V k)) wx := by
  rcases six h with rfl | rfl | rfl | rfl | rfl | rfl <;> kernel_rfl

/-- what the two arrays hold while some entries are still to come -/
def Filled (u : Int → Bool) (o : Int → Int) (left : Lit → Bool) (V : Nat → Int) (U : Nat → Bool) : Prop :=
  ∀ i : Nat, i < 6 → U i = (u ((i : Int) - 1) && !left (ik ((i : Int) - 1))) ∧ (U i = true → V i = o ((i : Int) - 1))
theorem filled_step {u : Int → Bool} {o : Int → Int} {left : Lit → Bool} {V : Nat → Int} {U : Nat → Bool} {k : Nat} (h : Filled u o left V U) (hu : u ((k : Int) - 1) = true) :
    Filled u o (fun z => left z && !z.sameKey (ik ((k : Int) - 1))) (fun i => if i = k then o ((k : Int) - 1) else V i) (fun i => if i = k then true else U i) := by
  intro i hi
  by_cases e : i = k
  · subst e
    simp [same_ik, hu]
  · have := h i hi
    have hne : ¬ ((i : Int) - 1 = (k : Int) - 1) := by omega
    simp only [e, if_false, same_ik, hne, decide_false, Bool.not_false, Bool.and_true]
    exact this

theorem readOut_take (u : Int → Bool) (o : Int → Int) (k : Nat) : Nm.readOut u o (k + 1) = Nm.readOut u o k ++ if u ((k : Int) - 1) = true then [((k : Int) - 1, o ((k : Int) - 1))] else [] := rfl

set_option maxRecDepth 100000 in
set_option maxHeartbeats 3200000 in
theorem sortedAtoms_any (w : World) (b n : Nat) (D : DataW Unit) (u : Int → Bool) (o : Int → Int) (hown : w.ownsMap Tryd.prog 3 (plainElem Tryd.prog 3) b n D) (hr : Reads D u o) (hu : ∀ p, u p = true → -1 ≤ p ∧ p < 5) :
    Calls Tryd.prog 115 #[.map (some b)] w fun e w' => ∃ A c, e = .returned (.slice A (Nm.readOut u o 6).length c) ∧ OwnA w' w.heap.size A (Nm.readOut u o 6).length c (Nm.readOut u o 6) ∧ Below w.heap.size w w' := by
  obtain ⟨i0, hi, hz0, hz1, hz2⟩ := info_parts info_atom
  have HR := Lib.hid hr
  have HU := Lib.hid hu
  have hbl := hown.lt
  have HK1 : Hid (Blk ((w.alloc (.cells (arrI fun _ => 0) 149)).alloc (.cells (arrB fun _ => false) 150)) w.heap.size 149 (arrI fun _ => 0)) := (Blk.made _ _ _).alloc _
  have HK2 : Hid (Blk ((w.alloc (.cells (arrI fun _ => 0) 149)).alloc (.cells (arrB fun _ => false) 150)) (w.heap.size + 1) 150 (arrB fun _ => false)) := by
    have h := Blk.made (w.alloc (.cells (arrI fun _ => 0) 149)) 150 (arrB fun _ => false)
    exact Lib.hid (by simpa using h)
  have HB0 : Hid (Below w.heap.size w ((w.alloc (.cells (arrI fun _ => 0) 149)).alloc (.cells (arrB fun _ => false) 150))) := ((Below.refl _ _).alloc (Nat.le_refl _) _).alloc (by simp) _
  have hown2 : ((w.alloc (.cells (arrI fun _ => 0) 149)).alloc (.cells (arrB fun _ => false) 150)).ownsMap Tryd.prog 3 (plainElem Tryd.prog 3) b n D := (hown.alloc _).alloc _
  have e1 : ((w.alloc (.cells (arrI fun _ => 0) 149)).alloc (.cells (arrB fun _ => false) 150)).heap.size = w.heap.size + 1 + 1 := by simp
  clear hr hu hown
  go_enter Tryd.func115, Tryd.ntmps115
  go_wp2_with (first
    | (at_range; refine wpList_range_own _ rfl _ 136 rfl 3 3 lawInt Tryd.underlying136 _ b n _ rfl hown2 ?_; intro w0 hrg0 hg0 hs0)
    | go_in)
  have hrg1 : w0.ranges Tryd.prog 3 (plainElem Tryd.prog 3) b (w.heap.size + 1 + 1) n D (Maps.has D) (Maps.size D) := by rw [← e1]; exact hrg0
  have HK10 := Lib.hid (HK1.out.grown hg0 (by simp))
  have HK20 := Lib.hid (HK2.out.grown hg0 (by simp))
  have HB1 : Hid (Below w.heap.size w w0) := HB0.out.grown hg0 (by rw [e1]; omega) (fun j hj => by cases hj)
  clear HK1 HK2 HB0 hown2 hg0 hrg0 hs0
  go_loopw [5] (fun _ wr => ∃ (left : Lit → Bool) (cnt : Nat) (V : Nat → Int) (U : Nat → Bool), wr.ranges Tryd.prog 3 (plainElem Tryd.prog 3) b (w.heap.size + 1 + 1) n D left cnt ∧ Blk wr w.heap.size 149 (arrI V) ∧ Blk wr (w.heap.size + 1) 150 (arrB U) ∧ Hid (Filled u o left V U) ∧ Below w.heap.size w wr)
    (fun _ wr => wr.rangeLeft b (w.heap.size + 1 + 1))
  case atStart =>
    refine ⟨_, _, fun _ => 0, fun _ => false, hrg1, HK10.out, HK20.out, fun i hi => ?_, HB1.out⟩
    rw [(HR.out _).1]
    simp
  case round =>
    obtain ⟨left, cnt, V, U, hrg, hk1, hk2, HF, hbel⟩ := hrel
    have hbs := hbel.size
    have hl2 := hk2.lt
    go_wp2_with (first
      | (at_next; refine wpList_next_ranges_ii _ rfl _ rfl 3 3 .i64 .i64 lawInt Tryd.underlying3 Tryd.underlying3 b (w.heap.size + 1 + 1) n _ _ _ rfl hrg ?_ ?_)
      | go_in)
    · intro _ hl0
      have HFE : Hid (∀ i : Nat, i < 6 → U i = u ((i : Int) - 1) ∧ (U i = true → V i = o ((i : Int) - 1))) := by
        intro i hi
        have := HF.out i hi
        rw [hl0] at this
        simpa using this
      have hix := run_index6 V
      have hrow : wr.heap[w.heap.size]? = some (.cells (arrI V) 149 (0, 0)) := hk1
      clear hrg HF hl0
      go_wp2_with (first | (refine wpList_load_row rfl 149 _ rfl w.heap.size rfl 149 (arrI V) (0, 0) _ hrow Tryd.underlying149 rfl (by kernel_rfl) ?_) | go_in)
      go_loopw [7, 25] (fun v i wq => ∃ (k : Nat) (A' : Option Addr) (c' : Nat), k ≤ 6 ∧ i = .int .i64 k ∧ v = .slice A' (Nm.readOut u o k).length c' ∧ OwnA wq w.heap.size A' (Nm.readOut u o k).length c' (Nm.readOut u o k) ∧ Blk wq (w.heap.size + 1) 150 (arrB U) ∧ Below w.heap.size w wq) (fun _ i _ => 6 - (intOf i).toNat)
      case atStart => exact ⟨0, none, 0, by omega, rfl, rfl, World.ownsRow_nil _ _ _ _, hk2, hbel⟩
      case round =>
        rename_i wr0 _
        obtain ⟨k, A', c', hk, rfl, rfl, hown, hkq, hbq⟩ := hrel
        have hln := Nm.readOut_len u o k
        have hszq := hbq.size
        by_cases hlt : k < 6
        · have hixk := hix k hlt
          have hul := (hkq.cell k).trans (arrB_at U k hlt)
          obtain ⟨f1, f2⟩ := HFE.out k hlt
          have HRO := Lib.hid (readOut_take u o k)
          have hki : (k : Int) < 6 := by omega
          cases hU : U k with
          | true =>
            rw [hU] at hul f1 f2
            have hv := f2 rfl
            have HRO2 : Hid (Nm.readOut u o (k + 1) = Nm.readOut u o k ++ [((k : Int) + -1, V k)]) := by show _ = _; rw [HRO.out, if_pos f1.symm, hv]; rfl
            generalize Nm.readOut u o k = a at hown hln HRO2 ⊢
            have hap := own_apart hown hkq (by decide)
            have HNB : Hid (∀ j u, ([Value.int .i64 ((k : Int) + -1), .int .i64 (V k)] : List Value)[j]? = some u → (wr.alloc (.cells #[.int .i64 ((k : Int) + -1), .int .i64 (V k)] 68)).cell? ((⟨wr.heap.size, 0, none⟩ : Addr).add j) = some u) := World.news_of_block (cs := #[.int .i64 ((k : Int) + -1), .int .i64 (V k)]) (t := 68) (fr := (0, 0)) (heap_alloc_new wr _)
            clear f1 f2 hv hU HRO
            go_wp2_with (at_builtin; refine wpList_append_own _ rfl (.tmp 32) (.tmp 37) 34 rfl w.heap.size 68 i0 (.agg #[.int .i64 0, .int .i64 0]) 2 16 Tryd.underlying34 hi hz0 hz1 hz2 rfl (by decide) (.slice A' a.length c') a.length (tokCells a) rfl (hown.alloc _) ⟨wr.heap.size, 0, none⟩ 1 1 [.int .i64 ((k : Int) + -1), .int .i64 (V k)] rfl rfl HNB.out (by intro v hv; simp at hv; rcases hv with rfl | rfl <;> rfl) (by unfold maxLen; omega) (by omega) (by simp; omega) ?_; intro v' w3 hown' hgrow _)
            obtain ⟨g', cap', rfl⟩ : ∃ g' cap', v' = .slice (some ⟨g', 0, none⟩) (a.length + 1) cap' := by
              rcases hown'.2 with ⟨_, h⟩ | ⟨g', cap', _, h, _⟩
              · omega
              · exact ⟨g', cap', h⟩
            have HB3 : Hid (Below w.heap.size w w3) := (hbq.alloc hszq _).grown hgrow (by simp; omega) (fun j h => (hown.lt j h).1)
            have HK3 := Lib.hid ((hkq.alloc (.cells #[.int .i64 ((k : Int) + -1), .int .i64 (V k)] 68)).grown hgrow (fun h => hap h.symm))
            have HLN : Hid ((Nm.readOut u o (k + 1)).length = a.length + 1) := by show _ = _; rw [HRO2.out, List.length_append]; rfl
            have HW : Hid (OwnA w3 w.heap.size (some ⟨g', 0, none⟩) (Nm.readOut u o (k + 1)).length cap' (Nm.readOut u o (k + 1))) := by
              show OwnA _ _ _ _ _ _
              rw [HLN.out, HRO2.out]
              unfold OwnA
              rw [tokCells_append]
              exact hown'
            clear hown' hgrow hown hap
            go_wp2
            go_roundw
            case rel => exact ⟨k + 1, some ⟨g', 0, none⟩, cap', by omega, by go_num, by rw [HLN.out], HW.out, HK3.out, HB3.out⟩
            case measure => simp [intOf]; omega
          | false =>
            rw [hU] at hul f1
            have HRO2 : Hid (Nm.readOut u o (k + 1) = Nm.readOut u o k) := by show _ = _; rw [HRO.out, if_neg (by rw [← f1]; simp), List.append_nil]
            have HW := Lib.hid hown
            clear f1 f2 hU HRO hown
            go_wp2
            go_roundw
            case rel => exact ⟨k + 1, A', c', by omega, by go_num, by rw [HRO2.out], by rw [HRO2.out]; exact HW.out, hkq, hbq⟩
            case measure => simp [intOf]; omega
        · obtain rfl : k = 6 := by omega
          have HW := Lib.hid hown
          clear hown
          go_wp2
          go_ret
          exact ⟨A', c', rfl, HW.out, hbq⟩
    · intro x c w1 cnt1 hwx hwc hlx hat hrg1 hlt hg1 hs1 hen
      have hhas : Maps.has D (ik x) = true := has_true_of_atKey hat
      have hux : u x = true := by rw [← (HR.out x).1]; exact hhas
      have hov : c = o x := by
        have h2 := (HR.out x).2 hux (.lit (.int .i64 0))
        rw [hat] at h2
        injection h2 with h2
        injection h2 with _ h2
      subst hov
      obtain ⟨hx1, hx2⟩ := HU.out x hux
      obtain ⟨xn, rfl⟩ : ∃ xn : Nat, x = (xn : Int) - 1 := ⟨(x + 1).toNat, by omega⟩
      have hxn : xn < 6 := by omega
      have HFN := Lib.hid (filled_step HF.out hux)
      have HM : Hid (wr.rangeLeft b (w.heap.size + 1 + 1) = cnt) := hrg.left_eq
      have hk11 := hk1.grown hg1 (by intro h; injection h with h; omega)
      have hk21 := hk2.grown hg1 (by intro h; injection h with h; omega)
      have hbs1 : Below w.heap.size w w1 := hbel.grown hg1 hbel.size (fun j hj => by cases hj; omega)
      have c1 := (hk11.cell xn).trans (arrI_at V xn hxn)
      have t1 := hk11.thawed xn
      have hq1 := hk11.put xn (.int .i64 (o ((xn : Int) - 1)))
      rw [arrI_put V xn hxn] at hq1
      have hq2 := hk21.other (p := ⟨w.heap.size, xn, none⟩) (by simp) (.int .i64 (o ((xn : Int) - 1)))
      have c2 := (hq2.cell xn).trans (arrB_at U xn hxn)
      have t2 := hq2.thawed xn
      have hq3 := hq2.put xn (.bool true)
      rw [arrB_put U xn hxn] at hq3
      have HQ1 := Lib.hid (hq1.other (p := ⟨w.heap.size + 1, xn, none⟩) (by simp) (.bool true))
      have HQ2 := Lib.hid hq3
      have HB2 := Lib.hid ((hbs1.setCell (p := ⟨w.heap.size, xn, none⟩) (Nat.le_refl _) (.int .i64 (o ((xn : Int) - 1)))).setCell (p := ⟨w.heap.size + 1, xn, none⟩) (Nat.le_succ _) (.bool true))
      have HRG : Hid (((w1.setCell ⟨w.heap.size, xn, none⟩ (.int .i64 (o ((xn : Int) - 1)))).setCell ⟨w.heap.size + 1, xn, none⟩ (.bool true)).ranges Tryd.prog 3 (plainElem Tryd.prog 3) b (w.heap.size + 1 + 1) n D (fun z => left z && !z.sameKey (ik ((xn : Int) - 1))) cnt1) := by
        have s1 : w1.grownBy (w1.setCell ⟨w.heap.size, xn, none⟩ (.int .i64 (o ((xn : Int) - 1)))) (some w.heap.size) := ⟨rfl, rfl, rfl, by simp [World.setCell], fun i _ hne => Below.heap_setCell w1 ⟨w.heap.size, xn, none⟩ _ i (by intro he; subst he; exact hne rfl)⟩
        have s2 : (w1.setCell ⟨w.heap.size, xn, none⟩ (.int .i64 (o ((xn : Int) - 1)))).grownBy ((w1.setCell ⟨w.heap.size, xn, none⟩ (.int .i64 (o ((xn : Int) - 1)))).setCell ⟨w.heap.size + 1, xn, none⟩ (.bool true)) (some (w.heap.size + 1)) := ⟨rfl, rfl, rfl, by simp [World.setCell], fun i _ hne => Below.heap_setCell _ ⟨w.heap.size + 1, xn, none⟩ _ i (by intro he; subst he; exact hne rfl)⟩
        exact (hrg1.kept s1 (by intro h; injection h with h; omega) (by intro h; injection h with h; omega)).kept s2 (by intro h; injection h with h; omega) (by intro h; injection h with h; omega)
      have hxi : (xn : Int) < 6 := by omega
      clear hk1 hk2 hk11 hk21 hq1 hq2 hq3 hrg hrg1 hat hlx hwx hwc hg1 hs1 hbs1 HF hhas hux
      generalize o ((xn : Int) - 1) = ov at *
      go_wp2
      go_roundw
      case rel => exact ⟨_, cnt1, _, _, HRG.out, HQ1.out, HQ2.out, HFN.out, HB2.out⟩
      case measure => rw [HRG.out.left_eq, HM.out]; exact hlt
end Go.Proofs.YtijiohdddfdjfaaDoor
