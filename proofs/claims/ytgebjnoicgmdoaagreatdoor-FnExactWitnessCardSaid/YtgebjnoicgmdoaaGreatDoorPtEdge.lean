/- ConsSat of the reference model. -/
/- ConsImply of the reference model. -/
/- The program's table with one more edge: extended. -/
/- The program's table of edges: edgesOf. -/
import Derived.Test.YtgebjnoicgmdoaaGreatDoorCoPath
import Derived.Test.YtgebjnoicgmdoaaGreatDoorPtMem

namespace Go.Proofs.YtgebjnoicgmdoaaGreatDoor
open Go.RowKit
open Cs (Cn Tb)

theorem consOk_parts {l : List Cn} (h : consOkR l = true) : Cs.ok l ∧ l.length ≤ 1000 := by
  unfold consOkR at h
  simp only [Bool.and_eq_true, decide_eq_true_eq, List.all_eq_true] at h
  exact ⟨fun c hc => h.1 c hc, by omega⟩
/-- the answer of ConsSat -/
def satR (l : List Cn) : Bool := consOkR l && Cs.flat l
end Go.Proofs.YtgebjnoicgmdoaaGreatDoor

namespace Go.Proofs.YtgebjnoicgmdoaaGreatDoor
open Go.RowKit
open Cs (Cn Tb)

/-- the answer of ConsImply -/
def impR (l : List Cn) (c : Cn) : Bool := satR l && Cs.cOk c && Cs.imp l c
end Go.Proofs.YtgebjnoicgmdoaaGreatDoor

namespace Go.Proofs.YtgebjnoicgmdoaaGreatDoor
open Go.RowKit
open Cs (Cn Tb)

/-- the walk's memory: both tables, the result's, the one that grows -/
structure ExtW (w : World) (t e o : Tb) (wr : World) : Prop where
  b0 : Blk wr w.heap.size 85 (tabA t)
  b1 : Blk wr (w.heap.size + 1) 85 (tabA e)
  b2 : Blk wr (w.heap.size + 2) 85 (tabA zeroT)
  b3 : Blk wr (w.heap.size + 3) 85 (tabA o)
  bel : Below w.heap.size w wr
theorem ExtW.put {w wr : World} {t e o : Tb} (h : ExtW w t e o wr) {i j : Nat} (hi : i < 6) (hj : j < 6) (x : Int) : ExtW w t e (Cs.put o i j x) (wr.setCell ⟨w.heap.size + 3, i * 6 + j, none⟩ (.int .i64 x)) := by
  have hw : Wrote (w.heap.size + 3) wr (wr.setCell ⟨w.heap.size + 3, i * 6 + j, none⟩ (.int .i64 x)) := Wrote.set _ _
  exact ⟨hw.blk h.b0 (by omega), hw.blk h.b1 (by omega), hw.blk h.b2 (by omega), BlkT.put h.b3 hi hj x, hw.below h.bel h.bel.size (by omega)⟩
theorem ExtW.drew {w wr : World} {t e o : Tb} (h : ExtW w t e o wr) : ExtW w t e o wr.drew := ⟨h.b0, h.b1, h.b2, h.b3, h.bel.drew⟩
theorem gtI' (a b : Int) : (if a < b then b else a) = max a b := by split <;> omega

set_option maxRecDepth 100000 in
set_option maxHeartbeats 4000000 in
theorem ext_any (w : World) (t e : Tb) (ht : ∀ i j, -1 ≤ t i j ∧ t i j ≤ 100) (he : ∀ i j, -1 ≤ e i j ∧ e i j ≤ 100) :
    Calls Tryz.prog 140 #[tabV t, tabV e] w fun r w' => r = .returned (tabV (Cs.ext t e)) ∧ Below w.heap.size w w' := by
  obtain ⟨W3, hW3⟩ : ∃ W, ((w.alloc (.cells (tabA t) 85)).alloc (.cells (tabA e) 85)).alloc (.cells (tabA zeroT) 85) = W := ⟨_, rfl⟩
  have hs3 : W3.heap.size = w.heap.size + 3 := by rw [← hW3]; simp
  have hz := zeros_tab
  have HB3 : Hid (Below w.heap.size w W3) := by show Below _ _ _; rw [← hW3]; exact (((Below.refl _ _).alloc (Nat.le_refl _) _).alloc (by simp) _).alloc (by simp; omega) _
  have b0 : Blk W3 w.heap.size 85 (tabA t) := by
    rw [← hW3]
    exact (Blk.below (Blk.below (Blk.made w _ _) ((Below.refl _ _).alloc (Nat.le_refl _) _) (by simp)) ((Below.refl _ _).alloc (Nat.le_refl _) _) (by simp; omega))
  have b1 : Blk W3 (w.heap.size + 1) 85 (tabA e) := by
    have h1 : Blk ((w.alloc (.cells (tabA t) 85)).alloc (.cells (tabA e) 85)) (w.alloc (.cells (tabA t) 85)).heap.size 85 (tabA e) := Blk.made _ _ _
    rw [show (w.alloc (.cells (tabA t) 85)).heap.size = w.heap.size + 1 by simp] at h1
    rw [← hW3]
    exact Blk.below h1 ((Below.refl _ _).alloc (Nat.le_refl _) _) (by simp)
  have b2 : Blk W3 (w.heap.size + 2) 85 (tabA zeroT) := by
    have h1 : Blk (((w.alloc (.cells (tabA t) 85)).alloc (.cells (tabA e) 85)).alloc (.cells (tabA zeroT) 85)) ((w.alloc (.cells (tabA t) 85)).alloc (.cells (tabA e) 85)).heap.size 85 (tabA zeroT) := Blk.made _ _ _
    rw [show ((w.alloc (.cells (tabA t) 85)).alloc (.cells (tabA e) 85)).heap.size = w.heap.size + 2 by simp] at h1
    rw [← hW3]
    exact h1
  obtain ⟨W4, hW4⟩ : ∃ W, W3.alloc (.cells (tabA zeroT) 85) = W := ⟨_, rfl⟩
  have hb34 : Below W3.heap.size W3 W4 := by rw [← hW4]; exact (Below.refl _ _).alloc (Nat.le_refl _) _
  have c3 : Blk W4 (w.heap.size + 3) 85 (tabA zeroT) := by rw [← hW4, ← hs3]; exact Blk.made _ _ _
  obtain ⟨W5, hW5⟩ : ∃ W, W4.setRow (w.heap.size + 3) (tabA t) = W := ⟨_, rfl⟩
  have HX0 : Hid (ExtW w t e (Cs.extI t e 0 t) W5) := by
    have hw : Wrote (w.heap.size + 3) W4 W5 := by rw [← hW5]; exact Wrote.row _ _ _
    have h4 := hb34.size
    exact ⟨hw.blk (Blk.below b0 hb34 b0.lt) (by omega), hw.blk (Blk.below b1 hb34 b1.lt) (by omega), hw.blk (Blk.below b2 hb34 b2.lt) (by omega), by rw [← hW5]; exact BlkT.lay c3 t, hw.below (HB3.out.trans (hb34.mono (by omega))) (by omega) (by omega)⟩
  have HT := Lib.hid ht
  have HE := Lib.hid he
  clear hb34 b1 b2 ht he
  go_enter Tryz.func140, Tryz.ntmps140
  go_wp2_with (first
    | (refine wpList_load_row rfl 85 _ rfl w.heap.size rfl 85 (tabA t) (0, 0) _ b0 Tryz.underlying85 rfl (size_tab t) ?_)
    | (refine wpList_store_row rfl 85 _ _ rfl (w.heap.size + 3) (tabA t) rfl rfl 85 (tabA zeroT) c3 (size_tab t) rfl (tabA_one t) ?_))
  clear b0 c3 hz hW3 hW4 hW5 hs3 HB3
  go_loopw [12] (fun i wr => ∃ a : Nat, a ≤ 6 ∧ i = .int .i64 a ∧ Hid (ExtW w t e (Cs.extI t e a t) wr)) (fun i _ => 6 - (intOf i).toNat)
  case atStart => exact ⟨0, by omega, rfl, HX0.out⟩
  case round =>
    clear HX0
    obtain ⟨a, ha, rfl, HX⟩ := hrel
    by_cases hal : a < 6
    · have hai : (a : Int) < 6 := by omega
      have ha0 : 0 ≤ (a : Int) := by omega
      have r0 := BlkT.row HX.out.b0 hal
      obtain ⟨o1, ho1⟩ : ∃ o, Cs.extI t e a t = o := ⟨_, rfl⟩
      have HO1 := Lib.hid ho1
      rw [ho1] at HX
      clear ho1
      go_wp2_with (refine wpList_load_sub rfl 83 _ rfl w.heap.size (a * 6) rfl (rowA t a) _ r0 Tryz.underlying83 rfl (size_row t a) ?_)
      clear r0
      go_loopw [18] (fun i wr => ∃ b : Nat, b ≤ 6 ∧ i = .int .i64 b ∧ Hid (ExtW w t e (Cs.extK t e a b o1) wr)) (fun i _ => 6 - (intOf i).toNat)
      case atStart => exact ⟨0, by omega, rfl, HX.out⟩
      case round =>
        clear HX
        obtain ⟨b, hb, rfl, HX⟩ := hrel
        by_cases hbl : b < 6
        · have hbi : (b : Int) < 6 := by omega
          have hb0 : 0 ≤ (b : Int) := by omega
          have rg := index_row t a hbl
          obtain ⟨x, hx⟩ : ∃ x, t a b = x := ⟨_, rfl⟩
          have htx := HT.out a b
          rw [hx] at rg htx
          have HXV := Lib.hid hx
          clear hx
          by_cases hxn : x = -1
          · subst hxn
            have HN : Hid (Cs.extK t e a (b + 1) o1 = Cs.extK t e a b o1) := Cs.extJ_skip HXV.out 6 _
            go_wp2
            go_roundw
            case rel => exact ⟨b + 1, by omega, by go_num, by rw [HN.out]; exact HX.out⟩
            case measure => simp [intOf]; omega
          · have d1 : (x == -1) = false := by simpa using hxn
            have r1 := BlkT.row HX.out.b1 hbl
            obtain ⟨o2, ho2⟩ : ∃ o, Cs.extK t e a b o1 = o := ⟨_, rfl⟩
            have HO2 := Lib.hid ho2
            rw [ho2] at HX
            clear ho2
            go_wp2_with (refine wpList_load_sub rfl 83 _ rfl (w.heap.size + 1) (b * 6) rfl (rowA e b) _ r1 Tryz.underlying83 rfl (size_row e b) ?_)
            clear r1 rg
            go_loopw [27] (fun i wr => ∃ j : Nat, j ≤ 6 ∧ i = .int .i64 j ∧ Hid (ExtW w t e (Cs.extJ t e a b j o2) wr)) (fun i _ => 6 - (intOf i).toNat)
            case atStart => exact ⟨0, by omega, rfl, HX.out⟩
            case round =>
              clear HX
              obtain ⟨j, hj, rfl, HX⟩ := hrel
              by_cases hjl : j < 6
              · have hji : (j : Int) < 6 := by omega
                have hj0 : 0 ≤ (j : Int) := by omega
                have rg := index_row e b hjl
                obtain ⟨y, hy⟩ : ∃ y, e b j = y := ⟨_, rfl⟩
                have hey := HE.out b j
                rw [hy] at rg hey
                have HYV := Lib.hid hy
                clear hy
                obtain ⟨o3, ho3⟩ : ∃ o, Cs.extJ t e a b j o2 = o := ⟨_, rfl⟩
                have HS : Hid (Cs.extJ t e a b (j + 1) o2 = Cs.ext1 t e a b j o3) := by show Cs.ext1 t e a b j (Cs.extJ t e a b j o2) = _; rw [ho3]
                rw [ho3] at HX
                clear ho3
                by_cases hyn : y = -1
                · have HN : Hid (Cs.extJ t e a b (j + 1) o2 = o3) := HS.out.trans (if_neg (fun h => h.2 (HYV.out.trans hyn)))
                  subst hyn
                  go_wp2
                  go_roundw
                  case rel => exact ⟨j + 1, by omega, by go_num, by rw [HN.out]; exact HX.out⟩
                  case measure => simp [intOf]; omega
                · have HN : Hid (Cs.extJ t e a b (j + 1) o2 = Cs.put o3 a j (max (o3 a j) (x + y))) := by
                    refine HS.out.trans ((if_pos ⟨fun h => hxn (HXV.out.symm.trans h), fun h => hyn (HYV.out.symm.trans h)⟩).trans ?_)
                    rw [HXV.out, HYV.out]
                  have d2 : (y != -1) = true := by simpa using hyn
                  have wS : IntKind.i64.wrap (x + y) = x + y := IntWalk.i64_in _ ⟨by omega, by omega⟩
                  have k1 := BlkT.spot HX.out.b3 hal hjl
                  have k2 := BlkT.thawed HX.out.b3 (a * 6 + j)
                  obtain ⟨z, hz⟩ : ∃ z, o3 a j = z := ⟨_, rfl⟩
                  rw [hz] at k1
                  have HP : ∀ v, Hid (ExtW w t e (Cs.put o3 a j v) (wr.setCell ⟨w.heap.size + 3, a * 6 + j, none⟩ (.int .i64 v)).drew) := fun v => (HX.out.put hal hjl v).drew
                  rw [hz] at HN
                  clear hz HS
                  go_wp2
                  refine region_tail 13 (by kernel_rfl) (by kernel_rfl) ?_
                  simp only [List.take_succ_cons, List.take_zero, List.drop_succ_cons, List.drop_zero]
                  repeat still_step
                  refine wpStill_nil ?_
                  rw [gtI']
                  go_wp2
                  go_roundw
                  case rel => exact ⟨j + 1, by omega, by go_num, by rw [HN.out]; exact (HP _).out⟩
                  case measure => simp [intOf]; omega
              · obtain rfl : j = 6 := by omega
                have HN : Hid (Cs.extK t e a (b + 1) o1 = Cs.extJ t e a b 6 o2) := by show Cs.extJ t e a b 6 (Cs.extK t e a b o1) = _; rw [HO2.out]
                go_wp2
                go_roundw
                case rel => exact ⟨b + 1, by omega, by go_num, by rw [HN.out]; exact HX.out⟩
                case measure => simp [intOf]; omega
        · obtain rfl : b = 6 := by omega
          have HN : Hid (Cs.extI t e (a + 1) t = Cs.extK t e a 6 o1) := by show Cs.extK t e a 6 (Cs.extI t e a t) = _; rw [HO1.out]
          go_wp2
          go_roundw
          case rel => exact ⟨a + 1, by omega, by go_num, by rw [HN.out]; exact HX.out⟩
          case measure => simp [intOf]; omega
    · obtain rfl : a = 6 := by omega
      have HN : Hid (Cs.extI t e 6 t = Cs.ext t e) := rfl
      rw [HN.out] at HX
      clear HN
      have b3 := HX.out.b3
      have b2 := HX.out.b2
      have HB6 : Hid (Below w.heap.size w (wr.setRow (w.heap.size + 2) (tabA (Cs.ext t e)))) := (Wrote.row _ _ _).below HX.out.bel HX.out.bel.size (by omega)
      have HB7 : Hid (Blk (wr.setRow (w.heap.size + 2) (tabA (Cs.ext t e))) (w.heap.size + 2) 85 (tabA (Cs.ext t e))) := BlkT.lay b2 _
      go_wp2_with (first
        | (refine wpList_load_row rfl 85 _ rfl (w.heap.size + 3) rfl 85 (tabA (Cs.ext t e)) (0, 0) _ b3 Tryz.underlying85 rfl (size_tab _) ?_)
        | (refine wpList_store_row rfl 85 _ _ rfl (w.heap.size + 2) (tabA (Cs.ext t e)) rfl rfl 85 (tabA zeroT) b2 (size_tab _) rfl (tabA_one _) ?_))
      refine bodyPost_ret (v := tabV (Cs.ext t e)) (results_cell_row rfl _ _ (w.heap.size + 2) 85 (tabA (Cs.ext t e)) (0, 0) _ rfl HB7.out Tryz.underlying85 rfl (size_tab _)) rfl ⟨rfl, HB6.out⟩
end Go.Proofs.YtgebjnoicgmdoaaGreatDoor

namespace Go.Proofs.YtgebjnoicgmdoaaGreatDoor
open Go.RowKit
open Cs (Cn Tb)

/-- the table behind the first m places -/
def edgeT (m : Nat) : Tb := fun a b => if a * 6 + b < m ∧ b < 6 ∧ a ≠ b ∧ a ≠ 0 then -1 else 0
theorem edgeT_zero : tabA (edgeT 0) = tabA zeroT := tabA_same.2 fun a b _ _ => by
  unfold edgeT zeroT
  rw [if_neg (by omega)]
theorem edgeT_all : tabA (edgeT 36) = tabA Cs.base := tabA_same.2 fun a b ha hb => by
  unfold edgeT Cs.base
  by_cases h : a = b ∨ a = 0
  · rw [if_neg (by omega), if_pos h]
  · rw [if_pos (by omega), if_neg h]
theorem edgeT_put {k j : Nat} (_ : k < 6) (hj : j < 6) (h1 : k ≠ j) (h2 : k ≠ 0) : tabA (Cs.put (edgeT (k * 6 + j)) k j (-1)) = tabA (edgeT (k * 6 + (j + 1))) := tabA_same.2 fun a b ha hb => by
  simp only [edgeT, Cs.put]
  by_cases e : a = k ∧ b = j
  · rw [if_pos e, if_pos (by omega)]
  · rw [if_neg e]
    by_cases c : a * 6 + b < k * 6 + j ∧ b < 6 ∧ a ≠ b ∧ a ≠ 0
    · rw [if_pos c, if_pos (by omega)]
    · rw [if_neg c, if_neg (by omega)]
theorem edgeT_not {k j : Nat} (_ : k < 6) (hj : j < 6) (h : k = j ∨ k = 0) : tabA (edgeT (k * 6 + j)) = tabA (edgeT (k * 6 + (j + 1))) := tabA_same.2 fun a b ha hb => by
  unfold edgeT
  by_cases c : a * 6 + b < k * 6 + j ∧ b < 6 ∧ a ≠ b ∧ a ≠ 0
  · rw [if_pos c, if_pos (by omega)]
  · rw [if_neg c, if_neg (by omega)]
theorem node_of' {U : Int} {u : Nat} (h : U + 1 = u) : Cs.node U = u := by unfold Cs.node; omega
theorem addC_not2 {d : Tb} {U V R : Int} {u v : Nat} (hu : U + 1 = u) (hv : V + 1 = v) (h : R ≠ 2) : Cs.addC d (U, R, V) = Cs.put d u v (max (d u v) (if R = 1 then 1 else 0)) := by
  unfold Cs.addC Cs.add1
  simp only [if_neg h, node_of' hu, node_of' hv]
theorem addC_is2 {d : Tb} {U V : Int} {u v : Nat} (hu : U + 1 = u) (hv : V + 1 = v) : Cs.addC d (U, 2, V) = Cs.put (Cs.put d u v (max (d u v) 0)) v u (max (Cs.put d u v (max (d u v) 0) v u) 0) := by
  unfold Cs.addC Cs.add1
  simp [node_of' hu, node_of' hv]
theorem start_next {l : List Cn} {m : Nat} {t : Cn} {d0 d d2 : Tb} (hm : m < l.length) (ht : l.getD m (0, 0, 0) = t) (h : d0 = (l.drop m).foldl Cs.addC d) (h2 : Cs.addC d t = d2) : d0 = (l.drop (m + 1)).foldl Cs.addC d2 := by
  rw [h, List.drop_eq_getElem_cons hm, List.foldl_cons, ← h2, ← ht, List.getD_eq_getElem?_getD, List.getElem?_eq_getElem hm]
  rfl
/-- the walk's memory: the result's table, the one that is filled -/
structure EdgW (w : World) (cs : Array Value) (wr : World) : Prop where
  b0 : Blk wr w.heap.size 85 (tabA zeroT)
  b1 : Blk wr (w.heap.size + 1) 85 cs
  bel : Below w.heap.size w wr
theorem EdgW.lt {w wr : World} {cs : Array Value} (h : EdgW w cs wr) : w.heap.size + 2 ≤ wr.heap.size := h.b1.lt
theorem EdgW.put {w wr : World} {d : Tb} (h : EdgW w (tabA d) wr) {i j : Nat} (hi : i < 6) (hj : j < 6) (x : Int) : EdgW w (tabA (Cs.put d i j x)) (wr.setCell ⟨w.heap.size + 1, i * 6 + j, none⟩ (.int .i64 x)) := by
  have hw : Wrote (w.heap.size + 1) wr (wr.setCell ⟨w.heap.size + 1, i * 6 + j, none⟩ (.int .i64 x)) := Wrote.set _ _
  exact ⟨hw.blk h.b0 (by omega), BlkT.put h.b1 hi hj x, hw.below h.bel h.bel.size (by omega)⟩
theorem EdgW.later {w wr w' : World} {cs : Array Value} (h : EdgW w cs wr) (hb : Below wr.heap.size wr w') : EdgW w cs w' := ⟨Blk.below h.b0 hb h.b0.lt, Blk.below h.b1 hb h.b1.lt, h.bel.trans (hb.mono h.bel.size)⟩
theorem EdgW.wrote {w wr w' : World} {cs cs' : Array Value} (h : EdgW w cs wr) (hw : Wrote (w.heap.size + 1) wr w') (hb : Blk w' (w.heap.size + 1) 85 cs') : EdgW w cs' w' := ⟨hw.blk h.b0 (by omega), hb, hw.below h.bel h.bel.size (by omega)⟩

set_option maxRecDepth 100000 in
set_option maxHeartbeats 4000000 in
theorem edgesOf_any (w : World) (B : Nat) (A : Option Addr) (n c : Nat) (l : List Cn) (hB : B ≤ w.heap.size) (hl : ConR w B A n l) (hok : Cs.ok l) (hn : n ≤ 1000) :
    Calls Tryz.prog 138 #[.slice A n c] w fun e w' => e = .returned (tabV (Cs.start l)) ∧ Below w.heap.size w w' := by
  obtain ⟨W2, hW2⟩ : ∃ W, (w.alloc (.cells (tabA zeroT) 85)).alloc (.cells (tabA zeroT) 85) = W := ⟨_, rfl⟩
  have hz := zeros_tab
  have HX0 : Hid (EdgW w (tabA (edgeT (0 * 6))) W2) := by
    have h1 : Blk ((w.alloc (.cells (tabA zeroT) 85)).alloc (.cells (tabA zeroT) 85)) (w.alloc (.cells (tabA zeroT) 85)).heap.size 85 (tabA zeroT) := Blk.made _ _ _
    rw [show (w.alloc (.cells (tabA zeroT) 85)).heap.size = w.heap.size + 1 by simp] at h1
    refine ⟨?_, by rw [← hW2]; rw [← edgeT_zero] at h1; exact h1, ?_⟩
    · rw [← hW2]
      exact Blk.below (Blk.made w _ _) ((Below.refl _ _).alloc (Nat.le_refl _) _) (by simp)
    · rw [← hW2]
      exact ((Below.refl _ _).alloc (Nat.le_refl _) _).alloc (by simp) _
  have HOK := Lib.hid hok
  have HL := Lib.hid hl
  clear hok hl
  go_enter Tryz.func138, Tryz.ntmps138
  go_wp2
  clear hz hW2
  go_loopw [8] (fun i wr => ∃ a : Nat, a ≤ 6 ∧ i = .int .i64 a ∧ Hid (EdgW w (tabA (edgeT (a * 6))) wr)) (fun i _ => 6 - (intOf i).toNat)
  case atStart => exact ⟨0, by omega, rfl, HX0.out⟩
  case round =>
    clear HX0
    obtain ⟨a, ha, rfl, HX⟩ := hrel
    by_cases hal : a < 6
    · have hai : (a : Int) < 6 := by omega
      have ha0 : 0 ≤ (a : Int) := by omega
      go_wp2
      go_loopw [11] (fun i wr => ∃ j : Nat, j ≤ 6 ∧ i = .int .i64 j ∧ Hid (EdgW w (tabA (edgeT (a * 6 + j))) wr)) (fun i _ => 6 - (intOf i).toNat)
      case atStart => exact ⟨0, by omega, rfl, HX.out⟩
      case round =>
        clear HX
        obtain ⟨j, hj, rfl, HX⟩ := hrel
        by_cases hjl : j < 6
        · have hji : (j : Int) < 6 := by omega
          have hj0 : 0 ≤ (j : Int) := by omega
          by_cases e1 : a = j
          · have HN := Lib.hid (edgeT_not hal hjl (.inl e1))
            have d1 : ((a : Int) != (j : Int)) = false := by simp [e1]
            clear e1
            go_wp2
            go_roundw
            case rel => exact ⟨j + 1, by omega, by go_num, by rw [← HN.out]; exact HX.out⟩
            case measure => simp [intOf]; omega
          · have d1 : ((a : Int) != (j : Int)) = true := by simp; omega
            by_cases e2 : a = 0
            · have HN := Lib.hid (edgeT_not hal hjl (.inr e2))
              have d2 : ((a : Int) != 0) = false := by simp [e2]
              clear e1 e2
              go_wp2_with fail
              refine (place_any wr (-1) 0 (by omega) (by omega)).mono ?_
              rintro e w1 ⟨rfl, rfl⟩
              go_wp2
              go_roundw
              case rel => exact ⟨j + 1, by omega, by go_num, by rw [← HN.out]; exact HX.out⟩
              case measure => simp [intOf]; omega
            · have HN := Lib.hid (edgeT_put hal hjl e1 e2)
              have d2 : ((a : Int) != 0) = true := by simp; omega
              have k1 := BlkT.spot HX.out.b1 hal hjl
              have k2 := BlkT.thawed HX.out.b1 (a * 6 + j)
              have HP := Lib.hid (HX.out.put hal hjl (-1))
              rw [HN.out] at HP
              clear e1 e2
              go_wp2_with fail
              refine (place_any wr (-1) 0 (by omega) (by omega)).mono ?_
              rintro e w1 ⟨rfl, rfl⟩
              go_wp2
              go_roundw
              case rel => exact ⟨j + 1, by omega, by go_num, HP.out⟩
              case measure => simp [intOf]; omega
        · obtain rfl : j = 6 := by omega
          go_wp2
          go_roundw
          case rel => exact ⟨a + 1, by omega, by go_num, by rw [show (a + 1) * 6 = a * 6 + 6 by omega]; exact HX.out⟩
          case measure => simp [intOf]; omega
    · have hai : ¬ (a : Int) < 6 := by omega
      have HX1 : Hid (EdgW w (tabA Cs.base) wr) := by
        have := HX.out
        rw [show a * 6 = 36 by omega, edgeT_all] at this
        exact this
      clear HX
      go_wp2
      go_loopw [30] (fun i wr2 => ∃ (m : Nat) (d : Tb), m ≤ n ∧ i = .int .i64 m ∧ Hid (EdgW w (tabA d) wr2) ∧ Hid (Cs.start l = (l.drop m).foldl Cs.addC d)) (fun i _ => n - (intOf i).toNat)
      case atStart => exact ⟨0, Cs.base, Nat.zero_le _, rfl, HX1.out, rfl⟩
      case round =>
        clear HX1
        obtain ⟨m, d, hm, rfl, HX, HST⟩ := hrel
        by_cases hml : m < n
        · have hmi : (m : Int) < (n : Int) := by omega
          have hszm := HX.out.bel.size
          have hlt := HX.out.lt
          obtain ⟨b, off, hA, hb, hc⟩ := HL.out.2 (by omega)
          obtain ⟨x1, x2, x3⟩ := hc m hml
          have HML : Hid (m < l.length) := by show m < l.length; rw [HL.out.1]; exact hml
          obtain ⟨t, ht⟩ : ∃ t, l.getD m (0, 0, 0) = t := ⟨_, rfl⟩
          have hcok := (Cs.cOk_iff _).1 (HOK.out (l.getD m (0, 0, 0)) (by have hml' : m < l.length := HML.out
                                                                          rw [List.getD_eq_getElem?_getD, List.getElem?_eq_getElem hml']; exact List.getElem_mem _))
          rw [ht] at x1 x2 x3 hcok
          obtain ⟨U, R, V⟩ := t
          have HT' := Lib.hid ht
          subst hA
          have k1 := (HX.out.bel.cell (p := ⟨b, off + m * 3, none⟩) (by show b < _; omega)).trans x1
          have k2 := (HX.out.bel.cell (p := ⟨b, off + m * 3 + 1, none⟩) (by show b < _; omega)).trans x2
          have k3 := (HX.out.bel.cell (p := ⟨b, off + m * 3 + 2, none⟩) (by show b < _; omega)).trans x3
          clear hc ht x1 x2 x3
          obtain ⟨⟨hU1, hU2⟩, ⟨hV1, hV2⟩, hR0, hR3⟩ := hcok
          replace hU1 : -1 ≤ U := hU1
          replace hU2 : U < 5 := hU2
          replace hV1 : -1 ≤ V := hV1
          replace hV2 : V < 5 := hV2
          obtain ⟨u, hu⟩ : ∃ u : Nat, U + 1 = u := ⟨(U + 1).toNat, by omega⟩
          obtain ⟨v, hv⟩ : ∃ v : Nat, V + 1 = v := ⟨(V + 1).toNat, by omega⟩
          have hu6 : u < 6 := by omega
          have hv6 : v < 6 := by omega
          have HU := Lib.hid hu
          have HV := Lib.hid hv
          obtain ⟨W1, hW1⟩ : ∃ W1, wr.alloc (.cells #[.int .i64 U, .int .i64 R, .int .i64 V] 41) = W1 := ⟨_, rfl⟩
          have hb1 : Below wr.heap.size wr W1 := by rw [← hW1]; exact (Below.refl _ _).alloc (Nat.le_refl _) _
          have hbx : Blk W1 wr.heap.size 41 #[.int .i64 U, .int .i64 R, .int .i64 V] := by rw [← hW1]; exact Blk.made _ _ _
          have HX1 := Lib.hid (HX.out.later hb1)
          have HBX := Lib.hid hbx
          have y0 : W1.cell? ⟨wr.heap.size, 0, none⟩ = some (.int .i64 U) := hbx.cell 0
          have y1 : W1.cell? ⟨wr.heap.size, 1, none⟩ = some (.int .i64 R) := hbx.cell 1
          have y2 : W1.cell? ⟨wr.heap.size, 2, none⟩ = some (.int .i64 V) := hbx.cell 2
          clear hbx hb1 hu hv HX
          by_cases hR2 : R = 2
          · subst hR2
            have HST2 := Lib.hid (start_next HML.out HT'.out HST.out (addC_is2 HU.out HV.out))
            go_wp2_with fail
            refine (add_any W1 (w.heap.size + 1) d U V u v false HU.out hu6 HV.out hv6 HX1.out.b1).mono ?_
            rintro e W2 ⟨rfl, hw2, hb2⟩
            have HX2 := Lib.hid (HX1.out.wrote hw2 hb2)
            have hbx2 := hw2.blk HBX.out (by omega)
            have z0 : W2.cell? ⟨wr.heap.size, 0, none⟩ = some (.int .i64 U) := hbx2.cell 0
            have z1 : W2.cell? ⟨wr.heap.size, 1, none⟩ = some (.int .i64 2) := hbx2.cell 1
            have z2 : W2.cell? ⟨wr.heap.size, 2, none⟩ = some (.int .i64 V) := hbx2.cell 2
            clear hbx2 hb2 hw2 HBX HX1
            go_wp2_with fail
            refine (add_any W2 (w.heap.size + 1) _ V U v u false HV.out hv6 HU.out hu6 HX2.out.b1).mono ?_
            rintro e W3 ⟨rfl, hw3, hb3⟩
            have HX3 := Lib.hid (HX2.out.wrote hw3 hb3)
            clear hw3 hb3
            go_wp2
            go_roundw
            case rel => exact ⟨m + 1, _, by omega, by go_num, HX3.out, HST2.out⟩
            case measure => simp [intOf]; omega
          · have HST2 := Lib.hid (start_next HML.out HT'.out HST.out (addC_not2 HU.out HV.out hR2))
            have b2 : (R == 2) = false := by simpa using hR2
            by_cases hR1 : R = 1
            · subst hR1
              go_wp2_with fail
              refine (add_any W1 (w.heap.size + 1) d U V u v true HU.out hu6 HV.out hv6 HX1.out.b1).mono ?_
              rintro e W2 ⟨rfl, hw2, hb2⟩
              have HX2 := Lib.hid (HX1.out.wrote hw2 hb2)
              have hbx2 := hw2.blk HBX.out (by omega)
              have z1 : W2.cell? ⟨wr.heap.size, 1, none⟩ = some (.int .i64 1) := hbx2.cell 1
              clear hbx2 hb2 hw2 HBX HX1
              go_wp2
              go_roundw
              case rel => exact ⟨m + 1, _, by omega, by go_num, HX2.out, HST2.out⟩
              case measure => simp [intOf]; omega
            · rw [if_neg hR1] at HST2
              have b1 : (R == 1) = false := by simpa using hR1
              go_wp2_with fail
              refine (add_any W1 (w.heap.size + 1) d U V u v false HU.out hu6 HV.out hv6 HX1.out.b1).mono ?_
              rintro e W2 ⟨rfl, hw2, hb2⟩
              have HX2 := Lib.hid (HX1.out.wrote hw2 hb2)
              have hbx2 := hw2.blk HBX.out (by omega)
              have z1 : W2.cell? ⟨wr.heap.size, 1, none⟩ = some (.int .i64 R) := hbx2.cell 1
              clear hbx2 hb2 hw2 HBX HX1
              go_wp2
              go_roundw
              case rel => exact ⟨m + 1, _, by omega, by go_num, HX2.out, HST2.out⟩
              case measure => simp [intOf]; omega
        · obtain rfl : m = n := by omega
          have hnn : ¬ (m : Int) < (m : Int) := by omega
          have HS0 : Hid (d = Cs.start l) := by
            have := HST.out
            rw [List.drop_of_length_le (by rw [HL.out.1]; exact Nat.le_refl _)] at this
            exact this.symm
          rw [HS0.out] at HX
          have b1 := HX.out.b1
          have b0 := HX.out.b0
          have HB6 : Hid (Below w.heap.size w (wr.setRow w.heap.size (tabA (Cs.start l)))) := (Wrote.row _ _ _).below HX.out.bel HX.out.bel.size (by omega)
          have HB7 : Hid (Blk (wr.setRow w.heap.size (tabA (Cs.start l))) w.heap.size 85 (tabA (Cs.start l))) := BlkT.lay b0 _
          clear HST HS0
          go_wp2_with (first
            | (refine wpList_load_row rfl 85 _ rfl (w.heap.size + 1) rfl 85 (tabA (Cs.start l)) (0, 0) _ b1 Tryz.underlying85 rfl (size_tab _) ?_)
            | (refine wpList_store_row rfl 85 _ _ rfl w.heap.size (tabA (Cs.start l)) rfl rfl 85 (tabA zeroT) b0 (size_tab _) rfl (tabA_one _) ?_))
          refine bodyPost_ret (v := tabV (Cs.start l)) (results_cell_row rfl _ _ w.heap.size 85 (tabA (Cs.start l)) (0, 0) _ rfl HB7.out Tryz.underlying85 rfl (size_tab _)) rfl ⟨rfl, HB6.out⟩
end Go.Proofs.YtgebjnoicgmdoaaGreatDoor
