/- The program's norm, read out of its map. -/
/- The reference model's norm of a list of atoms. -/
/- NormOf and NormMax of the program and of the reference model. -/
import Derived.Test.YtgebjnoicgmdoaaGreatDoorNMap
import Derived.Test.YtgebjnoicgmdoaaGreatDoorSucc
import Derived.Test.YtgebjnoicgmdoaaGreatDoorNOk1

namespace Go.Proofs.YtgebjnoicgmdoaaGreatDoor
open Go.RowKit Go.Maps

def arrI (V : Nat → Int) : Array Value := #[.int .i64 (V 0), .int .i64 (V 1), .int .i64 (V 2), .int .i64 (V 3), .int .i64 (V 4), .int .i64 (V 5)]
def arrB (U : Nat → Bool) : Array Value := #[.bool (U 0), .bool (U 1), .bool (U 2), .bool (U 3), .bool (U 4), .bool (U 5)]
theorem six {k : Nat} (h : k < 6) : k = 0 ∨ k = 1 ∨ k = 2 ∨ k = 3 ∨ k = 4 ∨ k = 5 := by omega
theorem arrI_put (V : Nat → Int) (k : Nat) (h : k < 6) (v : Int) : (arrI V).setIfInBounds k (.int .i64 v) = arrI (fun i => if i = k then v else V i) := by
  rcases six h with rfl | rfl | rfl | rfl | rfl | rfl <;> rfl
theorem arrB_put (U : Nat → Bool) (k : Nat) (h : k < 6) (v : Bool) : (arrB U).setIfInBounds k (.bool v) = arrB (fun i => if i = k then v else U i) := by
  rcases six h with rfl | rfl | rfl | rfl | rfl | rfl <;> rfl
theorem arrI_at (V : Nat → Int) (k : Nat) (h : k < 6) : (arrI V)[k]? = some (.int .i64 (V k)) := by
  rcases six h with rfl | rfl | rfl | rfl | rfl | rfl <;> rfl
theorem arrB_at (U : Nat → Bool) (k : Nat) (h : k < 6) : (arrB U)[k]? = some (.bool (U k)) := by
  rcases six h with rfl | rfl | rfl | rfl | rfl | rfl <;> rfl
set_option maxRecDepth 100000 in
theorem run_index6 (V : Nat → Int) (k : Nat) (h : k < 6) (wx : World) : (Instr.index 83 (.agg (arrI V)) (.int .i64 (k : Int))).run Tryz.prog wx = .ok (.int .i64 (V k)) wx := by
  rcases six h with rfl | rfl | rfl | rfl | rfl | rfl <;> kernel_rfl

/-- what the two arrays hold while some entries are still to come -/
def Filled (u : Int → Bool) (o : Int → Int) (left : Lit → Bool) (V : Nat → Int) (U : Nat → Bool) : Prop :=
  ∀ i : Nat, i < 6 → U i = (u ((i : Int) - 1) && !left (ik ((i : Int) - 1))) ∧ (U i = true → V i = o ((i : Int) - 1))
theorem filled_step {u : Int → Bool} {o : Int → Int} {left : Lit → Bool} {V : Nat → Int} {U : Nat → Bool} {k : Nat} (h : Filled u o left V U) (hu : u ((k : Int) - 1) = true) :
    Filled u o (fun z => left z && !z.sameKey (ik ((k : Int) - 1))) (fun i => if i = k then o ((k : Int) - 1) else V i) (fun i => if i = k then true else U i) := by
  intro i hi
  by_cases e : i = k
  · subst e
    simp [same_ik, hu]
  · have := h i hi
    have hne : ¬ ((i : Int) - 1 = (k : Int) - 1) := by omega
    simp only [e, if_false, same_ik, hne, decide_false, Bool.not_false, Bool.and_true]
    exact this

theorem readOut_take (u : Int → Bool) (o : Int → Int) (k : Nat) : Nm.readOut u o (k + 1) = Nm.readOut u o k ++ if u ((k : Int) - 1) = true then [((k : Int) - 1, o ((k : Int) - 1))] else [] := rfl

set_option maxRecDepth 100000 in
set_option maxHeartbeats 3200000 in
theorem sortedAtoms_any (w : World) (b n : Nat) (D : DataW Unit) (u : Int → Bool) (o : Int → Int) (hown : w.ownsMap Tryz.prog 3 (plainElem Tryz.prog 3) b n D) (hr : Reads D u o) (hu : ∀ p, u p = true → -1 ≤ p ∧ p < 5) :
    Calls Tryz.prog 164 #[.map (some b)] w fun e w' => ∃ A c, e = .returned (.slice A (Nm.readOut u o 6).length c) ∧ OwnA w' w.heap.size A (Nm.readOut u o 6).length c (Nm.readOut u o 6) ∧ Below w.heap.size w w' := by
  obtain ⟨i0, hi, hz0, hz1, hz2⟩ := info_parts info_atom
  have HR := Lib.hid hr
  have HU := Lib.hid hu
  have hbl := hown.lt
  have HK1 : Hid (Blk ((w.alloc (.cells (arrI fun _ => 0) 83)).alloc (.cells (arrB fun _ => false) 226)) w.heap.size 83 (arrI fun _ => 0)) := (Blk.made _ _ _).alloc _
  have HK2 : Hid (Blk ((w.alloc (.cells (arrI fun _ => 0) 83)).alloc (.cells (arrB fun _ => false) 226)) (w.heap.size + 1) 226 (arrB fun _ => false)) := by
    have h := Blk.made (w.alloc (.cells (arrI fun _ => 0) 83)) 226 (arrB fun _ => false)
    exact Lib.hid (by simpa using h)
  have HB0 : Hid (Below w.heap.size w ((w.alloc (.cells (arrI fun _ => 0) 83)).alloc (.cells (arrB fun _ => false) 226))) := ((Below.refl _ _).alloc (Nat.le_refl _) _).alloc (by simp) _
  have hown2 : ((w.alloc (.cells (arrI fun _ => 0) 83)).alloc (.cells (arrB fun _ => false) 226)).ownsMap Tryz.prog 3 (plainElem Tryz.prog 3) b n D := (hown.alloc _).alloc _
  have e1 : ((w.alloc (.cells (arrI fun _ => 0) 83)).alloc (.cells (arrB fun _ => false) 226)).heap.size = w.heap.size + 1 + 1 := by simp
  clear hr hu hown
  go_enter Tryz.func164, Tryz.ntmps164
  go_wp2_with (first
    | (at_range; refine wpList_range_own _ rfl _ 214 rfl 3 3 lawInt Tryz.underlying214 _ b n _ rfl hown2 ?_; intro w0 hrg0 hg0 hs0)
    | go_in)
  have hrg1 : w0.ranges Tryz.prog 3 (plainElem Tryz.prog 3) b (w.heap.size + 1 + 1) n D (Maps.has D) (Maps.size D) := by rw [← e1]; exact hrg0
  have HK10 := Lib.hid (HK1.out.grown hg0 (by simp))
  have HK20 := Lib.hid (HK2.out.grown hg0 (by simp))
  have HB1 : Hid (Below w.heap.size w w0) := HB0.out.grown hg0 (by rw [e1]; omega) (fun j hj => by cases hj)
  clear HK1 HK2 HB0 hown2 hg0 hrg0 hs0
  go_loopw [5] (fun _ wr => ∃ (left : Lit → Bool) (cnt : Nat) (V : Nat → Int) (U : Nat → Bool), wr.ranges Tryz.prog 3 (plainElem Tryz.prog 3) b (w.heap.size + 1 + 1) n D left cnt ∧ Blk wr w.heap.size 83 (arrI V) ∧ Blk wr (w.heap.size + 1) 226 (arrB U) ∧ Hid (Filled u o left V U) ∧ Below w.heap.size w wr)
    (fun _ wr => wr.rangeLeft b (w.heap.size + 1 + 1))
  case atStart =>
    refine ⟨_, _, fun _ => 0, fun _ => false, hrg1, HK10.out, HK20.out, fun i hi => ?_, HB1.out⟩
    rw [(HR.out _).1]
    simp
  case round =>
    obtain ⟨left, cnt, V, U, hrg, hk1, hk2, HF, hbel⟩ := hrel
    have hbs := hbel.size
    have hl2 := hk2.lt
    go_wp2_with (first
      | (at_next; refine wpList_next_ranges_ii _ rfl _ rfl 3 3 .i64 .i64 lawInt Tryz.underlying3 Tryz.underlying3 b (w.heap.size + 1 + 1) n _ _ _ rfl hrg ?_ ?_)
      | go_in)
    · intro _ hl0
      have HFE : Hid (∀ i : Nat, i < 6 → U i = u ((i : Int) - 1) ∧ (U i = true → V i = o ((i : Int) - 1))) := by
        intro i hi
        have := HF.out i hi
        rw [hl0] at this
        simpa using this
      have hix := run_index6 V
      have hrow : wr.heap[w.heap.size]? = some (.cells (arrI V) 83 (0, 0)) := hk1
      clear hrg HF hl0
      go_wp2_with (first | (refine wpList_load_row rfl 83 _ rfl w.heap.size rfl 83 (arrI V) (0, 0) _ hrow Tryz.underlying83 rfl (by kernel_rfl) ?_) | go_in)
      go_loopw [7, 25] (fun v i wq => ∃ (k : Nat) (A' : Option Addr) (c' : Nat), k ≤ 6 ∧ i = .int .i64 k ∧ v = .slice A' (Nm.readOut u o k).length c' ∧ OwnA wq w.heap.size A' (Nm.readOut u o k).length c' (Nm.readOut u o k) ∧ Blk wq (w.heap.size + 1) 226 (arrB U) ∧ Below w.heap.size w wq) (fun _ i _ => 6 - (intOf i).toNat)
      case atStart => exact ⟨0, none, 0, by omega, rfl, rfl, World.ownsRow_nil _ _ _ _, hk2, hbel⟩
      case round =>
        rename_i wr0 _
        obtain ⟨k, A', c', hk, rfl, rfl, hown, hkq, hbq⟩ := hrel
        have hln := Nm.readOut_len u o k
        have hszq := hbq.size
        by_cases hlt : k < 6
        · have hixk := hix k hlt
          have hul := (hkq.cell k).trans (arrB_at U k hlt)
          obtain ⟨f1, f2⟩ := HFE.out k hlt
          have HRO := Lib.hid (readOut_take u o k)
          have hki : (k : Int) < 6 := by omega
          cases hU : U k with
          | true =>
            rw [hU] at hul f1 f2
            have hv := f2 rfl
            have HRO2 : Hid (Nm.readOut u o (k + 1) = Nm.readOut u o k ++ [((k : Int) + -1, V k)]) := by show _ = _; rw [HRO.out, if_pos f1.symm, hv]; rfl
            generalize Nm.readOut u o k = a at hown hln HRO2 ⊢
            have hap := own_apart hown hkq (by decide)
            have HNB : Hid (∀ j u, ([Value.int .i64 ((k : Int) + -1), .int .i64 (V k)] : List Value)[j]? = some u → (wr.alloc (.cells #[.int .i64 ((k : Int) + -1), .int .i64 (V k)] 92)).cell? ((⟨wr.heap.size, 0, none⟩ : Addr).add j) = some u) := World.news_of_block (cs := #[.int .i64 ((k : Int) + -1), .int .i64 (V k)]) (t := 92) (fr := (0, 0)) (heap_alloc_new wr _)
            clear f1 f2 hv hU HRO
            go_wp2_with (at_builtin; refine wpList_append_own _ rfl (.tmp 32) (.tmp 37) 138 rfl w.heap.size 92 i0 (.agg #[.int .i64 0, .int .i64 0]) 2 16 Tryz.underlying138 hi hz0 hz1 hz2 rfl (by decide) (.slice A' a.length c') a.length (tokCells a) rfl (hown.alloc _) ⟨wr.heap.size, 0, none⟩ 1 1 [.int .i64 ((k : Int) + -1), .int .i64 (V k)] rfl rfl HNB.out (by intro v hv; simp at hv; rcases hv with rfl | rfl <;> rfl) (by unfold maxLen; omega) (by omega) (by simp; omega) ?_; intro v' w3 hown' hgrow _)
            obtain ⟨g', cap', rfl⟩ : ∃ g' cap', v' = .slice (some ⟨g', 0, none⟩) (a.length + 1) cap' := by
              rcases hown'.2 with ⟨_, h⟩ | ⟨g', cap', _, h, _⟩
              · omega
              · exact ⟨g', cap', h⟩
            have HB3 : Hid (Below w.heap.size w w3) := (hbq.alloc hszq _).grown hgrow (by simp; omega) (fun j h => (hown.lt j h).1)
            have HK3 := Lib.hid ((hkq.alloc (.cells #[.int .i64 ((k : Int) + -1), .int .i64 (V k)] 92)).grown hgrow (fun h => hap h.symm))
            have HLN : Hid ((Nm.readOut u o (k + 1)).length = a.length + 1) := by show _ = _; rw [HRO2.out, List.length_append]; rfl
            have HW : Hid (OwnA w3 w.heap.size (some ⟨g', 0, none⟩) (Nm.readOut u o (k + 1)).length cap' (Nm.readOut u o (k + 1))) := by
              show OwnA _ _ _ _ _ _
              rw [HLN.out, HRO2.out]
              unfold OwnA
              rw [tokCells_append]
              exact hown'
            clear hown' hgrow hown hap
            go_wp2
            go_roundw
            case rel => exact ⟨k + 1, some ⟨g', 0, none⟩, cap', by omega, by go_num, by rw [HLN.out], HW.out, HK3.out, HB3.out⟩
            case measure => simp [intOf]; omega
          | false =>
            rw [hU] at hul f1
            have HRO2 : Hid (Nm.readOut u o (k + 1) = Nm.readOut u o k) := by show _ = _; rw [HRO.out, if_neg (by rw [← f1]; simp), List.append_nil]
            have HW := Lib.hid hown
            clear f1 f2 hU HRO hown
            go_wp2
            go_roundw
            case rel => exact ⟨k + 1, A', c', by omega, by go_num, by rw [HRO2.out], by rw [HRO2.out]; exact HW.out, hkq, hbq⟩
            case measure => simp [intOf]; omega
        · obtain rfl : k = 6 := by omega
          have HW := Lib.hid hown
          clear hown
          go_wp2
          go_ret
          exact ⟨A', c', rfl, HW.out, hbq⟩
    · intro x c w1 cnt1 hwx hwc hlx hat hrg1 hlt hg1 hs1 hen
      have hhas : Maps.has D (ik x) = true := has_true_of_atKey hat
      have hux : u x = true := by rw [← (HR.out x).1]; exact hhas
      have hov : c = o x := by
        have h2 := (HR.out x).2 hux (.lit (.int .i64 0))
        rw [hat] at h2
        injection h2 with h2
        injection h2 with _ h2
      subst hov
      obtain ⟨hx1, hx2⟩ := HU.out x hux
      obtain ⟨xn, rfl⟩ : ∃ xn : Nat, x = (xn : Int) - 1 := ⟨(x + 1).toNat, by omega⟩
      have hxn : xn < 6 := by omega
      have HFN := Lib.hid (filled_step HF.out hux)
      have HM : Hid (wr.rangeLeft b (w.heap.size + 1 + 1) = cnt) := hrg.left_eq
      have hk11 := hk1.grown hg1 (by intro h; injection h with h; omega)
      have hk21 := hk2.grown hg1 (by intro h; injection h with h; omega)
      have hbs1 : Below w.heap.size w w1 := hbel.grown hg1 hbel.size (fun j hj => by cases hj; omega)
      have c1 := (hk11.cell xn).trans (arrI_at V xn hxn)
      have t1 := hk11.thawed xn
      have hq1 := hk11.put xn (.int .i64 (o ((xn : Int) - 1)))
      rw [arrI_put V xn hxn] at hq1
      have hq2 := hk21.other (p := ⟨w.heap.size, xn, none⟩) (by simp) (.int .i64 (o ((xn : Int) - 1)))
      have c2 := (hq2.cell xn).trans (arrB_at U xn hxn)
      have t2 := hq2.thawed xn
      have hq3 := hq2.put xn (.bool true)
      rw [arrB_put U xn hxn] at hq3
      have HQ1 := Lib.hid (hq1.other (p := ⟨w.heap.size + 1, xn, none⟩) (by simp) (.bool true))
      have HQ2 := Lib.hid hq3
      have HB2 := Lib.hid ((hbs1.setCell (p := ⟨w.heap.size, xn, none⟩) (Nat.le_refl _) (.int .i64 (o ((xn : Int) - 1)))).setCell (p := ⟨w.heap.size + 1, xn, none⟩) (Nat.le_succ _) (.bool true))
      have HRG : Hid (((w1.setCell ⟨w.heap.size, xn, none⟩ (.int .i64 (o ((xn : Int) - 1)))).setCell ⟨w.heap.size + 1, xn, none⟩ (.bool true)).ranges Tryz.prog 3 (plainElem Tryz.prog 3) b (w.heap.size + 1 + 1) n D (fun z => left z && !z.sameKey (ik ((xn : Int) - 1))) cnt1) := by
        have s1 : w1.grownBy (w1.setCell ⟨w.heap.size, xn, none⟩ (.int .i64 (o ((xn : Int) - 1)))) (some w.heap.size) := ⟨rfl, rfl, rfl, by simp [World.setCell], fun i _ hne => Below.heap_setCell w1 ⟨w.heap.size, xn, none⟩ _ i (by intro he; subst he; exact hne rfl)⟩
        have s2 : (w1.setCell ⟨w.heap.size, xn, none⟩ (.int .i64 (o ((xn : Int) - 1)))).grownBy ((w1.setCell ⟨w.heap.size, xn, none⟩ (.int .i64 (o ((xn : Int) - 1)))).setCell ⟨w.heap.size + 1, xn, none⟩ (.bool true)) (some (w.heap.size + 1)) := ⟨rfl, rfl, rfl, by simp [World.setCell], fun i _ hne => Below.heap_setCell _ ⟨w.heap.size + 1, xn, none⟩ _ i (by intro he; subst he; exact hne rfl)⟩
        exact (hrg1.kept s1 (by intro h; injection h with h; omega) (by intro h; injection h with h; omega)).kept s2 (by intro h; injection h with h; omega) (by intro h; injection h with h; omega)
      have hxi : (xn : Int) < 6 := by omega
      clear hk1 hk2 hk11 hk21 hq1 hq2 hq3 hrg hrg1 hat hlx hwx hwc hg1 hs1 hbs1 HF hhas hux
      generalize o ((xn : Int) - 1) = ov at *
      go_wp2
      go_roundw
      case rel => exact ⟨_, cnt1, _, _, HRG.out, HQ1.out, HQ2.out, HFN.out, HB2.out⟩
      case measure => rw [HRG.out.left_eq, HM.out]; exact hlt
end Go.Proofs.YtgebjnoicgmdoaaGreatDoor

namespace Go.Proofs.YtgebjnoicgmdoaaGreatDoor
open Go.RowKit

set_option maxRecDepth 100000 in
theorem own_lit (w : World) (base : Nat) (a b : Int) (hb : base ≤ w.heap.size) : OwnA (w.alloc (.cells #[.int .i64 a, .int .i64 b] 92)) base (some ⟨w.heap.size, 0, none⟩) 1 1 [(a, b)] :=
  ⟨rfl, .inr ⟨w.heap.size, 1, #[.int .i64 a, .int .i64 b], rfl, hb, heap_alloc_new w _, Nat.le_refl _, by simp [maxLen], rfl, rfl⟩⟩

set_option maxRecDepth 100000 in
set_option maxHeartbeats 3200000 in
theorem specNorm_any (w : World) (B : Nat) (A : Option Addr) (n c : Nat) (l : List (Int × Int)) (hB : B ≤ w.heap.size) (hl : TokR w B A n l) (hn : (n : Int) ≤ 140737488355328) :
    Calls Tryz.prog 153 #[.slice A n c] w fun e w' => ∃ g cap, e = .returned (.slice (some ⟨g, 0, none⟩) (Nm.norm l).length cap) ∧ OwnA w' w.heap.size (some ⟨g, 0, none⟩) (Nm.norm l).length cap (Nm.norm l) ∧ Below w.heap.size w w' := by
  obtain ⟨i0, hi, hz0, hz1, hz2⟩ := info_parts info_atom
  have HO0 : Hid (OwnA (w.alloc (.cells #[] 92)) w.heap.size (some ⟨w.heap.size, 0, none⟩) 0 0 []) := World.ownsRow_made w #[] 0 (Nat.le_refl _) (by simp [maxLen]) (by simp)
  have HB0 : Hid (Below w.heap.size w (w.alloc (.cells #[] 92))) := (Below.refl _ _).alloc (Nat.le_refl _) _
  go_enter Tryz.func153, Tryz.ntmps153
  go_wp2
  go_loopw [3, 4, 5] (fun v m p wr => ∃ (k g cap : Nat), k ≤ 5 ∧ p = .int .i64 k ∧ m = .int .i64 (Nm.most l k) ∧ v = .slice (some ⟨g, 0, none⟩) (Nm.pars l k).length cap ∧ OwnA wr w.heap.size (some ⟨g, 0, none⟩) (Nm.pars l k).length cap (Nm.pars l k) ∧ Below w.heap.size w wr) (fun _ _ p _ => 5 - (intOf p).toNat)
  case atStart => exact ⟨0, w.heap.size, 0, by omega, rfl, rfl, rfl, HO0.out, HB0.out⟩
  case round =>
    obtain ⟨k, g, cap, hk, rfl, rfl, rfl, hown, hbel⟩ := hrel
    have hszr := hbel.size
    have hpl := Nm.pars_len l k
    by_cases hlt : k < 5
    · have HOW := Lib.hid hown
      have hlr := hl.below (hbel.mono hB)
      have hmg := Nm.most_ge l k
      have HPS := Lib.hid (Nm.pars_succ l k)
      have HMS : Hid (Nm.most l (k + 1) = max (Nm.most l k) (Nm.best k l)) := rfl
      have hki : (k : Int) < 5 := by omega
      clear hown
      generalize Nm.most l k = mv at hmg HMS ⊢
      go_wp2
      go_loop [6, 7] (fun v i => ∃ j : Nat, j ≤ n ∧ i = .int .i64 j ∧ v = .int .i64 (Nm.best k (l.take j))) (fun _ i => n - (intOf i).toNat)
      case atStart => exact ⟨0, Nat.zero_le _, rfl, rfl⟩
      case round =>
        obtain ⟨j, hj, rfl, rfl⟩ := hrel
        by_cases hlt2 : j < n
        · have HBT := Lib.hid (Nm.best_take k l j (by rw [hl.1]; exact hlt2))
          obtain ⟨b, off, rfl, hb, hc⟩ := hlr.2 (by omega)
          obtain ⟨e1, e2⟩ := hc j hlt2
          generalize Nm.best k (l.take j) = bv at HBT ⊢
          generalize l.getD j (0, 0) = t at e1 e2 HBT
          obtain ⟨p, x⟩ := t
          simp only at e1 e2 HBT
          have HL := Lib.hid hl
          have HLR := Lib.hid hlr
          have hji : (j : Int) < (n : Int) := by omega
          clear hc hl hlr
          by_cases ep : p = (k : Int)
          · subst ep
            have HB2 : Hid (Nm.best k (l.take (j + 1)) = if bv < x then x else bv) := by show _ = _; rw [HBT.out, if_pos rfl]; split <;> omega
            go_wp2
            go_round
            case rel => exact ⟨j + 1, by omega, by go_num, by rw [HB2.out]⟩
            case measure => simp [intOf]; omega
          · have HB2 : Hid (Nm.best k (l.take (j + 1)) = bv) := by show _ = _; rw [HBT.out, if_neg ep]
            have dp : (p == (k : Int)) = false := by simpa using ep
            clear ep
            go_wp2
            go_round
            case rel => exact ⟨j + 1, by omega, by go_num, by rw [HB2.out]⟩
            case measure => simp [intOf]; omega
        · rw [List.take_of_length_le (by have := hl.1; omega)]
          have hbg := Nm.best_ge k l
          generalize Nm.best k l = bv at HPS HMS hbg ⊢
          clear hlr
          by_cases h0 : 0 ≤ bv
          · have HM2 : Hid (Nm.most l (k + 1) = if mv < bv then bv else mv) := by show _ = _; rw [HMS.out]; split <;> omega
            have HP2 : Hid (Nm.pars l (k + 1) = Nm.pars l k ++ [((k : Int), bv)]) := by show _ = _; rw [HPS.out, if_pos h0]
            generalize Nm.pars l k = a at HOW hpl HP2 ⊢
            have HNB : Hid (∀ j u, ([Value.int .i64 (k : Int), .int .i64 bv] : List Value)[j]? = some u → (wr.alloc (.cells #[.int .i64 (k : Int), .int .i64 bv] 92)).cell? ((⟨wr.heap.size, 0, none⟩ : Addr).add j) = some u) := World.news_of_block (cs := #[.int .i64 (k : Int), .int .i64 bv]) (t := 92) (fr := (0, 0)) (heap_alloc_new wr _)
            have HL := Lib.hid hl
            clear hl
            go_wp2_with (at_builtin; first
              | (refine wpList_append_own _ rfl (.tmp 37) (.tmp 41) 138 rfl w.heap.size 92 i0 (.agg #[.int .i64 0, .int .i64 0]) 2 16 Tryz.underlying138 hi hz0 hz1 hz2 rfl (by decide) (.slice (some ⟨g, 0, none⟩) a.length cap) a.length (tokCells a) rfl (HOW.out.alloc _) ⟨wr.heap.size, 0, none⟩ 1 1 [.int .i64 (k : Int), .int .i64 bv] rfl rfl HNB.out (by intro v hv; simp at hv; rcases hv with rfl | rfl <;> rfl) (by unfold maxLen; omega) (by omega) (by simp; omega) ?_; intro v' w3 hown' hgrow _
                 obtain ⟨g', cap', rfl⟩ : ∃ g' cap', v' = .slice (some ⟨g', 0, none⟩) (a.length + 1) cap' := by
                   rcases hown'.2 with ⟨_, h⟩ | ⟨g', cap', _, h, _⟩
                   · omega
                   · exact ⟨g', cap', h⟩
                 have HB3 : Hid (Below w.heap.size w w3) := (hbel.alloc hszr _).grown hgrow (by simp; omega) (fun j h => (HOW.out.lt j h).1)
                 have HLN : Hid ((Nm.pars l (k + 1)).length = a.length + 1) := by show _ = _; rw [HP2.out, List.length_append]; rfl
                 have HW : Hid (OwnA w3 w.heap.size (some ⟨g', 0, none⟩) (Nm.pars l (k + 1)).length cap' (Nm.pars l (k + 1))) := by
                   show OwnA _ _ _ _ _ _
                   rw [HLN.out, HP2.out]
                   unfold OwnA
                   rw [tokCells_append]
                   exact hown'
                 clear hown' hgrow))
            go_wp2
            go_roundw
            case rel => exact ⟨k + 1, g', cap', by omega, by go_num, by rw [HM2.out], by rw [HLN.out], HW.out, HB3.out⟩
            case measure => simp [intOf]; omega
          · have hb1 : bv = -1 := by omega
            subst hb1
            have HM2 : Hid (Nm.most l (k + 1) = mv) := by show _ = _; rw [HMS.out]; omega
            have HP2 : Hid (Nm.pars l (k + 1) = Nm.pars l k) := by show _ = _; rw [HPS.out, if_neg (by omega), List.append_nil]
            have HL := Lib.hid hl
            clear hl
            go_wp2
            go_roundw
            case rel => exact ⟨k + 1, g, cap, by omega, by go_num, by rw [HM2.out], by rw [HP2.out], by rw [HP2.out]; exact HOW.out, hbel⟩
            case measure => simp [intOf]; omega
    · obtain rfl : k = 5 := by omega
      have HOW := Lib.hid hown
      have hlr := hl.below (hbel.mono hB)
      have HNM : Hid (Nm.norm l = (if Nm.most l 5 < Nm.best (-1) l then [((-1 : Int), Nm.best (-1) l)] else []) ++ Nm.pars l 5) := rfl
      clear hown
      generalize Nm.most l 5 = mv at HNM ⊢
      generalize Nm.pars l 5 = a at HOW hpl HNM ⊢
      go_wp2
      go_loop [8, 9] (fun v i => ∃ j : Nat, j ≤ n ∧ i = .int .i64 j ∧ v = .int .i64 (Nm.best (-1) (l.take j))) (fun _ i => n - (intOf i).toNat)
      case atStart => exact ⟨0, Nat.zero_le _, rfl, rfl⟩
      case round =>
        obtain ⟨j, hj, rfl, rfl⟩ := hrel
        by_cases hlt2 : j < n
        · have HBT := Lib.hid (Nm.best_take (-1) l j (by rw [hl.1]; exact hlt2))
          obtain ⟨b, off, rfl, hb, hc⟩ := hlr.2 (by omega)
          obtain ⟨e1, e2⟩ := hc j hlt2
          generalize Nm.best (-1) (l.take j) = bv at HBT ⊢
          generalize l.getD j (0, 0) = t at e1 e2 HBT
          obtain ⟨p, x⟩ := t
          simp only at e1 e2 HBT
          have HL := Lib.hid hl
          have HLR := Lib.hid hlr
          have hji : (j : Int) < (n : Int) := by omega
          clear hc hl hlr
          by_cases ep : p = -1
          · subst ep
            have HB2 : Hid (Nm.best (-1) (l.take (j + 1)) = if bv < x then x else bv) := by show _ = _; rw [HBT.out, if_pos rfl]; split <;> omega
            go_wp2
            go_round
            case rel => exact ⟨j + 1, by omega, by go_num, by rw [HB2.out]⟩
            case measure => simp [intOf]; omega
          · have HB2 : Hid (Nm.best (-1) (l.take (j + 1)) = bv) := by show _ = _; rw [HBT.out, if_neg ep]
            have dp : (p == -1) = false := by simpa using ep
            clear ep
            go_wp2
            go_round
            case rel => exact ⟨j + 1, by omega, by go_num, by rw [HB2.out]⟩
            case measure => simp [intOf]; omega
        · rw [List.take_of_length_le (by have := hl.1; omega)]
          generalize Nm.best (-1) l = bv at HNM ⊢
          clear hlr
          by_cases hmb : mv < bv
          · have HN2 : Hid (Nm.norm l = [((-1 : Int), bv)] ++ a) := by show _ = _; rw [HNM.out, if_pos hmb]
            have HLN : Hid ((Nm.norm l).length = 1 + a.length) := by show _ = _; rw [HN2.out, List.length_append]; rfl
            have HSRC := Lib.hid (OwnA.reads (HOW.out.alloc (.cells #[.int .i64 (-1), .int .i64 bv] 92)))
            have HSC : Hid (∀ j u, (tokCells a)[j]? = some u → (wr.alloc (.cells #[.int .i64 (-1), .int .i64 bv] 92)).cell? ((⟨g, 0, none⟩ : Addr).add j) = some u) := fun j u hu => (HOW.out.alloc _).cells (g := g) rfl j u hu
            have HL := Lib.hid hl
            clear hl
            go_wp2_with (at_builtin; first
              | (refine wpList_append_own _ rfl (.tmp 70) (.tmp 71) 138 rfl w.heap.size 92 i0 (.agg #[.int .i64 0, .int .i64 0]) 2 16 Tryz.underlying138 hi hz0 hz1 hz2 rfl (by decide) (.slice (some ⟨wr.heap.size, 0, none⟩) 1 1) 1 (tokCells [(-1, bv)]) rfl (own_lit wr w.heap.size (-1) bv hszr) ⟨g, 0, none⟩ a.length cap (tokCells a) rfl (tokCells_len a) HSC.out (tokCells_one a) (by unfold maxLen; omega) (by omega) (by simp; omega) ?_; intro v' w3 hown' hgrow hnil))
            obtain ⟨g', cap', rfl⟩ : ∃ g' cap', v' = .slice (some ⟨g', 0, none⟩) (1 + a.length) cap' := by
              rcases hown'.2 with ⟨_, h⟩ | ⟨g', cap', _, h, _⟩
              · omega
              · exact ⟨g', cap', h⟩
            have HB3 : Hid (Below w.heap.size w w3) := (hbel.alloc hszr _).grown hgrow (by simp; omega) (fun j h => by have h' : wr.heap.size = j := (by simpa [Value.ownBlock] using h); omega)
            have HW : Hid (OwnA w3 w.heap.size (some ⟨g', 0, none⟩) (Nm.norm l).length cap' (Nm.norm l)) := by
              show OwnA _ _ _ _ _ _
              rw [HLN.out, HN2.out]
              unfold OwnA
              rw [tokCells_append]
              exact hown'
            clear hown' hgrow hnil
            go_wp2
            go_ret
            exact ⟨g', cap', by rw [HLN.out]; rfl, HW.out, HB3.out⟩
          · have HN2 : Hid (Nm.norm l = a) := by show _ = _; rw [HNM.out, if_neg hmb, List.nil_append]
            have hmb' : bv ≤ mv := by omega
            clear hl hmb
            go_wp2
            go_ret
            exact ⟨g, cap, by rw [HN2.out]; rfl, by rw [HN2.out]; exact HOW.out, hbel⟩
end Go.Proofs.YtgebjnoicgmdoaaGreatDoor

namespace Go.Proofs.YtgebjnoicgmdoaaGreatDoor
open Go.RowKit Go.Maps

theorem normOf_no {l : List (Int × Int)} (h : ¬ (1 ≤ l.length ∧ l.length ≤ 100 ∧ Nm.AllOk l)) : Nm.normOf l = none := by unfold Nm.normOf; rw [if_neg h]
theorem normOf_yes {l : List (Int × Int)} (h : 1 ≤ l.length ∧ l.length ≤ 100 ∧ Nm.AllOk l) : Nm.normOf l = some (Nm.norm l) := by unfold Nm.normOf; rw [if_pos h]

/-- the keys that are left, where the number is redundant -/
def cutB (l : List (Int × Int)) (p : Int) : Bool := if p = -1 then false else hasB l p
theorem cut_reads {D : DataW Unit} {l : List (Int × Int)} (h : GM D l) : Reads (D.del (ik (-1))) (cutB l) (fun p => Nm.best p l) := by
  intro p
  by_cases e : p = -1
  · subst e
    exact ⟨by rw [has_del_same]; simp [cutB], fun h => by simp [cutB] at h⟩
  · have h1 := h p
    refine ⟨by rw [has_del_other (ik_ne e), h1.1]; simp [cutB, e], fun hu z => ?_⟩
    rw [atKey_del_other (ik_ne e)]
    exact h1.2 (by simpa [cutB, e] using hu) z
theorem keep_of_red {l : List (Int × Int)} (h : redB l = true) : Nm.readOut (cutB l) (fun p => Nm.best p l) 6 = Nm.norm l := by
  rw [← Nm.readOut_norm]
  refine Nm.readOut_congr 6 fun p h1 h2 => ⟨?_, fun _ => rfl⟩
  simp only [redB, decide_eq_true_eq] at h
  unfold cutB Nm.keepB hasB
  split
  · symm; simp; omega
  · rfl
theorem keep_of_not {l : List (Int × Int)} (h : redB l = false) : Nm.readOut (hasB l) (fun p => Nm.best p l) 6 = Nm.norm l := by
  rw [← Nm.readOut_norm]
  refine Nm.readOut_congr 6 fun p h1 h2 => ⟨?_, fun _ => rfl⟩
  simp only [redB, decide_eq_false_iff_not] at h
  have g1 := Nm.most_ge l 5
  have g2 := Nm.best_ge (-1) l
  unfold Nm.keepB hasB
  split
  · rename_i e; subst e
    rw [decide_eq_decide]
    omega
  · rfl

set_option maxRecDepth 100000 in
set_option maxHeartbeats 1600000 in
theorem implNormOf_any (w : World) (B : Nat) (A : Option Addr) (n c : Nat) (l : List (Int × Int)) (hB : B ≤ w.heap.size) (hl : TokR w B A n l) (hn : (n : Int) ≤ 140737488355328) :
    Calls Tryz.prog 148 #[.slice A n c] w (ResA w (Nm.normOf l)) := by
  have hln := hl.1
  by_cases h1 : n = 0
  · subst h1
    have HF : Hid (Nm.normOf l = none) := normOf_no (fun h => by have := h.1; omega)
    clear hl
    go_enter Tryz.func148, Tryz.ntmps148
    go_wp2
    go_ret2
    rw [HF.out]
    exact resA_none (Below.refl _ _)
  · have d1 : ((n : Int) == 0) = false := by simp; omega
    by_cases h100 : 100 < n
    · have HF : Hid (Nm.normOf l = none) := normOf_no (fun h => by have := h.2.1; omega)
      have h100' : (100 : Int) < (n : Int) := by omega
      clear hl
      go_enter Tryz.func148, Tryz.ntmps148
      go_wp2
      go_ret2
      rw [HF.out]
      exact resA_none (Below.refl _ _)
    · have d2 : decide ((100 : Int) < (n : Int)) = false := by simp; omega
      cases hall : Nm.allOk l with
      | false =>
        have HF : Hid (Nm.normOf l = none) := normOf_no (fun h => by rw [(Nm.allOk_iff l).2 h.2.2] at hall; cases hall)
        have HA := Lib.hid hall
        clear hall
        go_enter Tryz.func148, Tryz.ntmps148
        go_wp2_with fail
        refine (atomsOk_any w B A n c l hB hl hn).mono ?_
        rintro e w1 ⟨rfl, hb1⟩
        rw [HA.out]
        go_wp2
        go_ret2
        rw [HF.out]
        exact resA_none hb1
      | true =>
        have hok := (Nm.allOk_iff l).1 hall
        have HF : Hid (Nm.normOf l = some (Nm.norm l)) := normOf_yes ⟨by omega, by omega, hok⟩
        have HA := Lib.hid hall
        have HOK := Lib.hid hok
        have hkey : keyOf Tryz.prog 3 (.int .i64 (-1)) = some (.int .i64 (-1)) := keyOf_int_mk Tryz.underlying3 (WalkArith.wf_i64 (by omega))
        clear hall hok
        go_enter Tryz.func148, Tryz.ntmps148
        go_wp2_with fail
        refine (atomsOk_any w B A n c l hB hl hn).mono ?_
        rintro e w1 ⟨rfl, hb1⟩
        rw [HA.out]
        go_wp2_with fail
        refine (greatestOffs_any w1 B A n c l (Nat.le_trans hB hb1.size) (hl.below (hb1.mono hB)) (by omega) HOK.out).mono ?_
        rintro e w2 ⟨D, rfl, hm2, hg2, hb2⟩
        have hB2 := hb1.trans (hb2.mono hb1.size)
        have HG := Lib.hid hg2
        have hw1 := hb1.size
        have hmlt := hm2.lt
        clear hb1 hb2 hg2 hl hln
        go_wp2_with fail
        refine (numberIsRedundant_any w2 w1.heap.size n D l hm2 HG.out HOK.out).mono ?_
        rintro e w3 ⟨rfl, hb3⟩
        have hm3 : w3.ownsMap Tryz.prog 3 (plainElem Tryz.prog 3) w1.heap.size n D := by
          obtain ⟨es, clock, hbb, rest⟩ := hm2
          exact ⟨es, clock, (hb3.block _ hmlt).trans hbb, rest⟩
        have hB3 := hB2.trans (hb3.mono hB2.size)
        clear hb3 hm2 hB2
        cases hred : redB l with
        | true =>
          have HK := Lib.hid (keep_of_red hred)
          clear hred
          go_wp2_with (at_delete; refine wpList_delete_own _ rfl _ _ 214 3 rfl 3 lawInt Tryz.underlying214 _ w1.heap.size n D rfl hm3 _ _ rfl hkey ?_; intro w4 hm4 ht4)
          have hB4 : Below w.heap.size w w4 := hB3.grown ht4.grown hB3.size (fun j hj => by cases hj; exact hw1)
          clear hm3 hB3 ht4
          go_wp2_with fail
          refine (sortedAtoms_any w4 w1.heap.size n _ (cutB l) (fun p => Nm.best p l) hm4 (cut_reads HG.out) (fun p hp => best_range HOK.out (by unfold cutB hasB at hp; split at hp; cases hp; simpa using hp))).mono ?_
          rintro e w5 ⟨A5, c5, rfl, ho5, hb5⟩
          rw [HK.out] at ho5 ⊢
          have HO := Lib.hid (own_base ho5 hB4.size)
          have HB := Lib.hid (hB4.trans (hb5.mono hB4.size))
          clear ho5 hb5
          go_wp2
          go_ret2
          rw [HF.out]
          exact ⟨A5, c5, rfl, HO.out, HB.out⟩
        | false =>
          have HK := Lib.hid (keep_of_not hred)
          clear hred
          go_wp2_with fail
          refine (sortedAtoms_any w3 w1.heap.size n _ (hasB l) (fun p => Nm.best p l) hm3 HG.out (fun p hp => best_range HOK.out (by unfold hasB at hp; simpa using hp))).mono ?_
          rintro e w5 ⟨A5, c5, rfl, ho5, hb5⟩
          rw [HK.out] at ho5 ⊢
          have HO := Lib.hid (own_base ho5 hB3.size)
          have HB := Lib.hid (hB3.trans (hb5.mono hB3.size))
          clear ho5 hb5
          go_wp2
          go_ret2
          rw [HF.out]
          exact ⟨A5, c5, rfl, HO.out, HB.out⟩
end Go.Proofs.YtgebjnoicgmdoaaGreatDoor
