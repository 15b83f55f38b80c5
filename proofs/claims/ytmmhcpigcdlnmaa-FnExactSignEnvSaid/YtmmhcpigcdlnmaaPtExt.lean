/- The program's table with one more edge: extended. -/
import Derived.Test.YtmmhcpigcdlnmaaPtMem
namespace Go.Proofs.Ytmmhcpigcdlnmaa
open Go.RowKit
open Cs (Cn Tb)

/-- the walk's memory: both tables, the result's, the one that grows -/
structure ExtW (w : World) (t e o : Tb) (wr : World) : Prop where
  b0 : Blk wr w.heap.size 70 (tabA t)
  b1 : Blk wr (w.heap.size + 1) 70 (tabA e)
  b2 : Blk wr (w.heap.size + 2) 70 (tabA zeroT)
  b3 : Blk wr (w.heap.size + 3) 70 (tabA o)
  bel : Below w.heap.size w wr
theorem ExtW.put {w wr : World} {t e o : Tb} (h : ExtW w t e o wr) {i j : Nat} (hi : i < 6) (hj : j < 6) (x : Int) : ExtW w t e (Cs.put o i j x) (wr.setCell ⟨w.heap.size + 3, i * 6 + j, none⟩ (.int .i64 x)) := by
  have hw : Wrote (w.heap.size + 3) wr (wr.setCell ⟨w.heap.size + 3, i * 6 + j, none⟩ (.int .i64 x)) := Wrote.set _ _
  exact ⟨hw.blk h.b0 (by omega), hw.blk h.b1 (by omega), hw.blk h.b2 (by omega), BlkT.put h.b3 hi hj x, hw.below h.bel h.bel.size (by omega)⟩
theorem ExtW.drew {w wr : World} {t e o : Tb} (h : ExtW w t e o wr) : ExtW w t e o wr.drew := ⟨h.b0, h.b1, h.b2, h.b3, h.bel.drew⟩
theorem gtI' (a b : Int) : (if a < b then b else a) = max a b := by split <;> omega

set_option maxRecDepth 100000 in
set_option maxHeartbeats 4000000 in
theorem ext_any (w : World) (t e : Tb) (ht : ∀ i j, -1 ≤ t i j ∧ t i j ≤ 100) (he : ∀ i j, -1 ≤ e i j ∧ e i j ≤ 100) :
    Calls Try.prog 104 #[tabV t, tabV e] w fun r w' => r = .returned (tabV (Cs.ext t e)) ∧ Below w.heap.size w w' := by
  obtain ⟨W3, hW3⟩ : ∃ W, ((w.alloc (.cells (tabA t) 70)).alloc (.cells (tabA e) 70)).alloc (.cells (tabA zeroT) 70) = W := ⟨_, rfl⟩
  have hs3 : W3.heap.size = w.heap.size + 3 := by rw [← hW3]; simp
  have hz := zeros_tab
  have HB3 : Hid (Below w.heap.size w W3) := by show Below _ _ _; rw [← hW3]; exact (((Below.refl _ _).alloc (Nat.le_refl _) _).alloc (by simp) _).alloc (by simp; omega) _
  have b0 : Blk W3 w.heap.size 70 (tabA t) := by
    rw [← hW3]
    exact (Blk.below (Blk.below (Blk.made w _ _) ((Below.refl _ _).alloc (Nat.le_refl _) _) (by simp)) ((Below.refl _ _).alloc (Nat.le_refl _) _) (by simp; omega))
  have b1 : Blk W3 (w.heap.size + 1) 70 (tabA e) := by
    have h1 : Blk ((w.alloc (.cells (tabA t) 70)).alloc (.cells (tabA e) 70)) (w.alloc (.cells (tabA t) 70)).heap.size 70 (tabA e) := Blk.made _ _ _
    rw [show (w.alloc (.cells (tabA t) 70)).heap.size = w.heap.size + 1 by simp] at h1
    rw [← hW3]
    exact Blk.below h1 ((Below.refl _ _).alloc (Nat.le_refl _) _) (by simp)
  have b2 : Blk W3 (w.heap.size + 2) 70 (tabA zeroT) := by
    have h1 : Blk (((w.alloc (.cells (tabA t) 70)).alloc (.cells (tabA e) 70)).alloc (.cells (tabA zeroT) 70)) ((w.alloc (.cells (tabA t) 70)).alloc (.cells (tabA e) 70)).heap.size 70 (tabA zeroT) := Blk.made _ _ _
    rw [show ((w.alloc (.cells (tabA t) 70)).alloc (.cells (tabA e) 70)).heap.size = w.heap.size + 2 by simp] at h1
    rw [← hW3]
    exact h1
  obtain ⟨W4, hW4⟩ : ∃ W, W3.alloc (.cells (tabA zeroT) 70) = W := ⟨_, rfl⟩
  have hb34 : Below W3.heap.size W3 W4 := by rw [← hW4]; exact (Below.refl _ _).alloc (Nat.le_refl _) _
  have c3 : Blk W4 (w.heap.size + 3) 70 (tabA zeroT) := by rw [← hW4, ← hs3]; exact Blk.made _ _ _
  obtain ⟨W5, hW5⟩ : ∃ W, W4.setRow (w.heap.size + 3) (tabA t) = W := ⟨_, rfl⟩
  have HX0 : Hid (ExtW w t e (Cs.extI t e 0 t) W5) := by
    have hw : Wrote (w.heap.size + 3) W4 W5 := by rw [← hW5]; exact Wrote.row _ _ _
    have h4 := hb34.size
    exact ⟨hw.blk (Blk.below b0 hb34 b0.lt) (by omega), hw.blk (Blk.below b1 hb34 b1.lt) (by omega), hw.blk (Blk.below b2 hb34 b2.lt) (by omega), by rw [← hW5]; exact BlkT.lay c3 t, hw.below (HB3.out.trans (hb34.mono (by omega))) (by omega) (by omega)⟩
  have HT := Lib.hid ht
  have HE := Lib.hid he
  clear hb34 b1 b2 ht he
  go_enter Try.func104, Try.ntmps104
  go_wp2_with (first
    | (refine wpList_load_row rfl 70 _ rfl w.heap.size rfl 70 (tabA t) (0, 0) _ b0 Try.underlying70 rfl (size_tab t) ?_)
    | (refine wpList_store_row rfl 70 _ _ rfl (w.heap.size + 3) (tabA t) rfl rfl 70 (tabA zeroT) c3 (size_tab t) rfl (tabA_one t) ?_))
  clear b0 c3 hz hW3 hW4 hW5 hs3 HB3
  go_loopw [12] (fun i wr => ∃ a : Nat, a ≤ 6 ∧ i = .int .i64 a ∧ Hid (ExtW w t e (Cs.extI t e a t) wr)) (fun i _ => 6 - (intOf i).toNat)
  case atStart => exact ⟨0, by omega, rfl, HX0.out⟩
  case round =>
    clear HX0
    obtain ⟨a, ha, rfl, HX⟩ := hrel
    by_cases hal : a < 6
    · have hai : (a : Int) < 6 := by omega
      have ha0 : 0 ≤ (a : Int) := by omega
      have r0 := BlkT.row HX.out.b0 hal
      obtain ⟨o1, ho1⟩ : ∃ o, Cs.extI t e a t = o := ⟨_, rfl⟩
      have HO1 := Lib.hid ho1
      rw [ho1] at HX
      clear ho1
      go_wp2_with (refine wpList_load_sub rfl 68 _ rfl w.heap.size (a * 6) rfl (rowA t a) _ r0 Try.underlying68 rfl (size_row t a) ?_)
      clear r0
      go_loopw [18] (fun i wr => ∃ b : Nat, b ≤ 6 ∧ i = .int .i64 b ∧ Hid (ExtW w t e (Cs.extK t e a b o1) wr)) (fun i _ => 6 - (intOf i).toNat)
      case atStart => exact ⟨0, by omega, rfl, HX.out⟩
      case round =>
        clear HX
        obtain ⟨b, hb, rfl, HX⟩ := hrel
        by_cases hbl : b < 6
        · have hbi : (b : Int) < 6 := by omega
          have hb0 : 0 ≤ (b : Int) := by omega
          have rg := index_row t a hbl
          obtain ⟨x, hx⟩ : ∃ x, t a b = x := ⟨_, rfl⟩
          have htx := HT.out a b
          rw [hx] at rg htx
          have HXV := Lib.hid hx
          clear hx
          by_cases hxn : x = -1
          · subst hxn
            have HN : Hid (Cs.extK t e a (b + 1) o1 = Cs.extK t e a b o1) := Cs.extJ_skip HXV.out 6 _
            go_wp2
            go_roundw
            case rel => exact ⟨b + 1, by omega, by go_num, by rw [HN.out]; exact HX.out⟩
            case measure => simp [intOf]; omega
          · have d1 : (x == -1) = false := by simpa using hxn
            have r1 := BlkT.row HX.out.b1 hbl
            obtain ⟨o2, ho2⟩ : ∃ o, Cs.extK t e a b o1 = o := ⟨_, rfl⟩
            have HO2 := Lib.hid ho2
            rw [ho2] at HX
            clear ho2
            go_wp2_with (refine wpList_load_sub rfl 68 _ rfl (w.heap.size + 1) (b * 6) rfl (rowA e b) _ r1 Try.underlying68 rfl (size_row e b) ?_)
            clear r1 rg
            go_loopw [27] (fun i wr => ∃ j : Nat, j ≤ 6 ∧ i = .int .i64 j ∧ Hid (ExtW w t e (Cs.extJ t e a b j o2) wr)) (fun i _ => 6 - (intOf i).toNat)
            case atStart => exact ⟨0, by omega, rfl, HX.out⟩
            case round =>
              clear HX
              obtain ⟨j, hj, rfl, HX⟩ := hrel
              by_cases hjl : j < 6
              · have hji : (j : Int) < 6 := by omega
                have hj0 : 0 ≤ (j : Int) := by omega
                have rg := index_row e b hjl
                obtain ⟨y, hy⟩ : ∃ y, e b j = y := ⟨_, rfl⟩
                have hey := HE.out b j
                rw [hy] at rg hey
                have HYV := Lib.hid hy
                clear hy
                obtain ⟨o3, ho3⟩ : ∃ o, Cs.extJ t e a b j o2 = o := ⟨_, rfl⟩
                have HS : Hid (Cs.extJ t e a b (j + 1) o2 = Cs.ext1 t e a b j o3) := by show Cs.ext1 t e a b j (Cs.extJ t e a b j o2) = _; rw [ho3]
                rw [ho3] at HX
                clear ho3
                by_cases hyn : y = -1
                · have HN : Hid (Cs.extJ t e a b (j + 1) o2 = o3) := HS.out.trans (if_neg (fun h => h.2 (HYV.out.trans hyn)))
                  subst hyn
                  go_wp2
                  go_roundw
                  case rel => exact ⟨j + 1, by omega, by go_num, by rw [HN.out]; exact HX.out⟩
                  case measure => simp [intOf]; omega
                · have HN : Hid (Cs.extJ t e a b (j + 1) o2 = Cs.put o3 a j (max (o3 a j) (x + y))) := by
                    refine HS.out.trans ((if_pos ⟨fun h => hxn (HXV.out.symm.trans h), fun h => hyn (HYV.out.symm.trans h)⟩).trans ?_)
                    rw [HXV.out, HYV.out]
                  have d2 : (y != -1) = true := by simpa using hyn
                  have wS : IntKind.i64.wrap (x + y) = x + y := IntWalk.i64_in _ ⟨by omega, by omega⟩
                  have k1 := BlkT.spot HX.out.b3 hal hjl
                  have k2 := BlkT.thawed HX.out.b3 (a * 6 + j)
                  obtain ⟨z, hz⟩ : ∃ z, o3 a j = z := ⟨_, rfl⟩
                  rw [hz] at k1
                  have HP : ∀ v, Hid (ExtW w t e (Cs.put o3 a j v) (wr.setCell ⟨w.heap.size + 3, a * 6 + j, none⟩ (.int .i64 v)).drew) := fun v => (HX.out.put hal hjl v).drew
                  rw [hz] at HN
                  clear hz HS
                  go_wp2
                  refine region_tail 13 (by kernel_rfl) (by kernel_rfl) ?_
                  simp only [List.take_succ_cons, List.take_zero, List.drop_succ_cons, List.drop_zero]
                  repeat still_step
                  refine wpStill_nil ?_
                  rw [gtI']
                  go_wp2
                  go_roundw
                  case rel => exact ⟨j + 1, by omega, by go_num, by rw [HN.out]; exact (HP _).out⟩
                  case measure => simp [intOf]; omega
              · obtain rfl : j = 6 := by omega
                have HN : Hid (Cs.extK t e a (b + 1) o1 = Cs.extJ t e a b 6 o2) := by show Cs.extJ t e a b 6 (Cs.extK t e a b o1) = _; rw [HO2.out]
                go_wp2
                go_roundw
                case rel => exact ⟨b + 1, by omega, by go_num, by rw [HN.out]; exact HX.out⟩
                case measure => simp [intOf]; omega
        · obtain rfl : b = 6 := by omega
          have HN : Hid (Cs.extI t e (a + 1) t = Cs.extK t e a 6 o1) := by show Cs.extK t e a 6 (Cs.extI t e a t) = _; rw [HO1.out]
          go_wp2
          go_roundw
          case rel => exact ⟨a + 1, by omega, by go_num, by rw [HN.out]; exact HX.out⟩
          case measure => simp [intOf]; omega
    · obtain rfl : a = 6 := by omega
      have HN : Hid (Cs.extI t e 6 t = Cs.ext t e) := rfl
      rw [HN.out] at HX
      clear HN
      have b3 := HX.out.b3
      have b2 := HX.out.b2
      have HB6 : Hid (Below w.heap.size w (wr.setRow (w.heap.size + 2) (tabA (Cs.ext t e)))) := (Wrote.row _ _ _).below HX.out.bel HX.out.bel.size (by omega)
      have HB7 : Hid (Blk (wr.setRow (w.heap.size + 2) (tabA (Cs.ext t e))) (w.heap.size + 2) 70 (tabA (Cs.ext t e))) := BlkT.lay b2 _
      go_wp2_with (first
        | (refine wpList_load_row rfl 70 _ rfl (w.heap.size + 3) rfl 70 (tabA (Cs.ext t e)) (0, 0) _ b3 Try.underlying70 rfl (size_tab _) ?_)
        | (refine wpList_store_row rfl 70 _ _ rfl (w.heap.size + 2) (tabA (Cs.ext t e)) rfl rfl 70 (tabA zeroT) b2 (size_tab _) rfl (tabA_one _) ?_))
      refine bodyPost_ret (v := tabV (Cs.ext t e)) (results_cell_row rfl _ _ (w.heap.size + 2) 70 (tabA (Cs.ext t e)) (0, 0) _ rfl HB7.out Try.underlying70 rfl (size_tab _)) rfl ⟨rfl, HB6.out⟩
end Go.Proofs.Ytmmhcpigcdlnmaa
