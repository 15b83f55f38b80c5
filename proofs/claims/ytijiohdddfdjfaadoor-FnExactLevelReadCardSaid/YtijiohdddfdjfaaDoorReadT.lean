/- tokRead of the program. -/
import Derived.Test.YtijiohdddfdjfaaDoorRdMath
namespace Go.Proofs.YtijiohdddfdjfaaDoor
open Go.RowKit

theorem ba_ext {a b : ByteArray} (h : a.data.toList = b.data.toList) : a = b := by
  cases a with
  | mk x => cases b with
    | mk y => exact congrArg ByteArray.mk (Array.toList_inj.1 h)
theorem unw_is {s : ByteArray} {t : Int × Int} (ht : Lv.tkOk t = true) (e : s = word t) : Rd.unw s.data.toList = some t := by rw [e]; exact Rd.unw_word ht
theorem unw_not {s : ByteArray} (h1 : ∀ k : Nat, k < 4 → s ≠ word ((k : Int), 0)) (h2 : ∀ k : Nat, k < 5 → s ≠ word (4, (k : Int))) : Rd.unw s.data.toList = none := by
  cases e : Rd.unw s.data.toList with
  | none => rfl
  | some t =>
    obtain ⟨h3, h4⟩ := Rd.unw_some e
    have h5 := ba_ext h3
    rcases Rd.tk_nine h4 with rfl | rfl | rfl | rfl | rfl | rfl | rfl | rfl | rfl
    · exact absurd h5 (h1 0 (by omega))
    · exact absurd h5 (h1 1 (by omega))
    · exact absurd h5 (h1 2 (by omega))
    · exact absurd h5 (h1 3 (by omega))
    · exact absurd h5 (h2 0 (by omega))
    · exact absurd h5 (h2 1 (by omega))
    · exact absurd h5 (h2 2 (by omega))
    · exact absurd h5 (h2 3 (by omega))
    · exact absurd h5 (h2 4 (by omega))
theorem bq_no {x y : ByteArray} (h : x ≠ y) : (x.toList == y.toList) = false := by
  rw [ByteArray.toList_eq, ByteArray.toList_eq]
  exact beq_eq_false_iff_ne.2 fun e => h (ba_ext e)
/-- what tokRead gives back -/
def trV (r : Option (Int × Int)) : Value := .tuple #[.agg #[.int .i64 (r.getD (0, 0)).1, .int .i64 (r.getD (0, 0)).2], .bool r.isSome]

set_option maxRecDepth 100000 in
set_option maxHeartbeats 3200000 in
theorem tokRead_any (w : World) (s : ByteArray) :
    Calls Tryd.prog 70 #[.string s] w fun e w' => e = .returned (trV (Rd.unw s.data.toList)) ∧ Below w.heap.size w w' := by
  have HB0 : Hid (Below w.heap.size w (w.alloc (.cells #[.int .i64 0, .int .i64 0] 66))) := (Below.refl _ _).alloc (Nat.le_refl _) _
  have HR0 : Hid (Blk (w.alloc (.cells #[.int .i64 0, .int .i64 0] 66)) w.heap.size 66 #[.int .i64 0, .int .i64 0]) := Blk.made _ _ _
  go_enter Tryd.func70, Tryd.ntmps70
  go_wp2
  go_loopw [4] (fun i wr => ∃ k : Nat, k ≤ 4 ∧ i = .int .i64 k ∧ Hid (∀ j : Nat, j < k → s ≠ word ((j : Int), 0)) ∧ Blk wr w.heap.size 66 #[.int .i64 0, .int .i64 0] ∧ Below w.heap.size w wr) (fun i _ => 4 - (intOf i).toNat)
  case atStart => exact ⟨0, by omega, rfl, (fun j hj => absurd hj (by omega)), HR0.out, HB0.out⟩
  case round =>
    obtain ⟨k, hk, rfl, HNE, hblk, hbel⟩ := hrel
    have hszr := hbel.size
    by_cases hlt : k < 4
    · have hlt' : (k : Int) < 4 := by omega
      have htk : Lv.tkOk ((k : Int), 0) = true := by simp [Lv.tkOk]; omega
      have hba := hbel.alloc hszr (.cells #[.int .i64 k, .int .i64 0] 66)
      have hka := hblk.alloc (.cells #[.int .i64 k, .int .i64 0] 66)
      have hkb := Blk.made wr 66 #[.int .i64 k, .int .i64 0]
      have hlw := hblk.lt
      go_wp2_with fail
      refine (tokText_any (wr.alloc (.cells #[.int .i64 k, .int .i64 0] 66)) k 0 htk).mono ?_
      rintro e w2 ⟨rfl, hb2⟩
      have hB2 := hba.trans (hb2.mono (by simp; omega))
      have hR2 := hka.below hb2 (by simp; omega)
      have hT2 := hkb.below hb2 (by simp)
      have HB2 := Lib.hid hB2
      have HUN := Lib.hid (fun e : s = word ((k : Int), 0) => unw_is htk e)
      obtain ⟨W, hW⟩ : ∃ W, word ((k : Int), 0) = W := ⟨_, rfl⟩
      rw [hW] at HUN ⊢
      have HW := Lib.hid hW
      clear hW hba hka hkb hb2 hbel hblk hB2
      by_cases e : s = W
      · subst e
        have HU := Lib.hid (HUN.out rfl)
        have c0 : w2.cell? ⟨w.heap.size, 0, none⟩ = some (.int .i64 0) := hR2.cell 0
        have c1 : w2.cell? ⟨w.heap.size, 1, none⟩ = some (.int .i64 0) := hR2.cell 1
        have f0 := hR2.thawed 0
        have f1 := hR2.thawed 1
        have t0 : w2.cell? ⟨wr.heap.size, 0, none⟩ = some (.int .i64 k) := hT2.cell 0
        have t1 : w2.cell? ⟨wr.heap.size, 1, none⟩ = some (.int .i64 0) := hT2.cell 1
        have hk3 := (hR2.put 0 (.int .i64 (k : Int))).put 1 (.int .i64 0)
        have r0 : ((w2.setCell ⟨w.heap.size, 0, none⟩ (.int .i64 (k : Int))).setCell ⟨w.heap.size, 1, none⟩ (.int .i64 0)).cell? ⟨w.heap.size, 0, none⟩ = some (.int .i64 (k : Int)) := (hk3.cell 0).trans rfl
        have r1 : ((w2.setCell ⟨w.heap.size, 0, none⟩ (.int .i64 (k : Int))).setCell ⟨w.heap.size, 1, none⟩ (.int .i64 0)).cell? ⟨w.heap.size, 1, none⟩ = some (.int .i64 0) := (hk3.cell 1).trans rfl
        have HBE := Lib.hid ((HB2.out.setCell (p := ⟨w.heap.size, 0, none⟩) (Nat.le_refl _) (.int .i64 (k : Int))).setCell (p := ⟨w.heap.size, 1, none⟩) (Nat.le_refl _) (.int .i64 0))
        have HR0' := Lib.hid r0
        have HR1' := Lib.hid r1
        clear hk3 hR2 hT2 r0 r1
        go_wp2
        have r0 := HR0'.out
        have r1 := HR1'.out
        exact bodyPost_ret (v := trV (some ((k : Int), 0))) (by simp [results, Tryd.results70, go_sem, trV, r0, r1]) rfl ⟨by rw [HU.out], HBE.out⟩
      · have d1 := bq_no e
        have HN2 : Hid (∀ j : Nat, j < k + 1 → s ≠ word ((j : Int), 0)) := fun j hj => by
          by_cases ej : j = k
          · subst ej; rw [HW.out]; exact e
          · exact HNE.out j (by omega)
        have HR2 := Lib.hid hR2
        clear e hT2 hR2
        go_wp2
        go_roundw
        case rel => exact ⟨k + 1, by omega, by go_num, HN2.out, HR2.out, HB2.out⟩
        case measure => simp [intOf]; omega
    · have hk4 : ¬ (k : Int) < 4 := by omega
      have HN4 : Hid (∀ j : Nat, j < 4 → s ≠ word ((j : Int), 0)) := fun j hj => HNE.out j (by omega)
      have HRK := Lib.hid hblk
      have HBK := Lib.hid hbel
      clear hblk hbel hlt hk
      go_wp2
      go_loopw [19] (fun i wr => ∃ m : Nat, m ≤ 5 ∧ i = .int .i64 m ∧ Hid (∀ j : Nat, j < m → s ≠ word (4, (j : Int))) ∧ Blk wr w.heap.size 66 #[.int .i64 0, .int .i64 0] ∧ Below w.heap.size w wr) (fun i _ => 5 - (intOf i).toNat)
      case atStart => exact ⟨0, by omega, rfl, (fun j hj => absurd hj (by omega)), HRK.out, HBK.out⟩
      case round =>
        rename_i wo
        clear HRK HBK
        obtain ⟨m, hm, rfl, HNM, hblk, hbel⟩ := hrel
        have hszr := hbel.size
        by_cases hlt : m < 5
        · have hlt' : (m : Int) < 5 := by omega
          have htk : Lv.tkOk (4, (m : Int)) = true := by simp [Lv.tkOk]; omega
          have hba := hbel.alloc hszr (.cells #[.int .i64 4, .int .i64 m] 66)
          have hka := hblk.alloc (.cells #[.int .i64 4, .int .i64 m] 66)
          have hkb := Blk.made wr 66 #[.int .i64 4, .int .i64 m]
          have hlw := hblk.lt
          go_wp2_with fail
          refine (tokText_any (wr.alloc (.cells #[.int .i64 4, .int .i64 m] 66)) 4 m htk).mono ?_
          rintro e w2 ⟨rfl, hb2⟩
          have hB2 := hba.trans (hb2.mono (by simp; omega))
          have hR2 := hka.below hb2 (by simp; omega)
          have hT2 := hkb.below hb2 (by simp)
          have HB2 := Lib.hid hB2
          have HUN := Lib.hid (fun e : s = word (4, (m : Int)) => unw_is htk e)
          obtain ⟨W, hW⟩ : ∃ W, word (4, (m : Int)) = W := ⟨_, rfl⟩
          rw [hW] at HUN ⊢
          have HW := Lib.hid hW
          clear hW hba hka hkb hb2 hbel hblk hB2
          by_cases e : s = W
          · subst e
            have HU := Lib.hid (HUN.out rfl)
            have c0 : w2.cell? ⟨w.heap.size, 0, none⟩ = some (.int .i64 0) := hR2.cell 0
            have c1 : w2.cell? ⟨w.heap.size, 1, none⟩ = some (.int .i64 0) := hR2.cell 1
            have f0 := hR2.thawed 0
            have f1 := hR2.thawed 1
            have t0 : w2.cell? ⟨wr.heap.size, 0, none⟩ = some (.int .i64 4) := hT2.cell 0
            have t1 : w2.cell? ⟨wr.heap.size, 1, none⟩ = some (.int .i64 m) := hT2.cell 1
            have hk3 := (hR2.put 0 (.int .i64 4)).put 1 (.int .i64 (m : Int))
            have r0 : ((w2.setCell ⟨w.heap.size, 0, none⟩ (.int .i64 4)).setCell ⟨w.heap.size, 1, none⟩ (.int .i64 (m : Int))).cell? ⟨w.heap.size, 0, none⟩ = some (.int .i64 4) := (hk3.cell 0).trans rfl
            have r1 : ((w2.setCell ⟨w.heap.size, 0, none⟩ (.int .i64 4)).setCell ⟨w.heap.size, 1, none⟩ (.int .i64 (m : Int))).cell? ⟨w.heap.size, 1, none⟩ = some (.int .i64 (m : Int)) := (hk3.cell 1).trans rfl
            have HBE := Lib.hid ((HB2.out.setCell (p := ⟨w.heap.size, 0, none⟩) (Nat.le_refl _) (.int .i64 4)).setCell (p := ⟨w.heap.size, 1, none⟩) (Nat.le_refl _) (.int .i64 (m : Int)))
            have HR0' := Lib.hid r0
            have HR1' := Lib.hid r1
            clear hk3 hR2 hT2 r0 r1
            go_wp2
            have r0 := HR0'.out
            have r1 := HR1'.out
            exact bodyPost_ret (v := trV (some (4, (m : Int)))) (by simp [results, Tryd.results70, go_sem, trV, r0, r1]) rfl ⟨by rw [HU.out], HBE.out⟩
          · have d1 := bq_no e
            have HN2 : Hid (∀ j : Nat, j < m + 1 → s ≠ word (4, (j : Int))) := fun j hj => by
              by_cases ej : j = m
              · subst ej; rw [HW.out]; exact e
              · exact HNM.out j (by omega)
            have HR2 := Lib.hid hR2
            clear e hT2 hR2
            go_wp2
            go_roundw
            case rel => exact ⟨m + 1, by omega, by go_num, HN2.out, HR2.out, HB2.out⟩
            case measure => simp [intOf]; omega
        · have hm5 : ¬ (m : Int) < 5 := by omega
          have HU : Hid (Rd.unw s.data.toList = none) := unw_not HN4.out (fun j hj => HNM.out j (by omega))
          have c0 : wr.cell? ⟨w.heap.size, 0, none⟩ = some (.int .i64 0) := hblk.cell 0
          have c1 : wr.cell? ⟨w.heap.size, 1, none⟩ = some (.int .i64 0) := hblk.cell 1
          have f0 := hblk.thawed 0
          have f1 := hblk.thawed 1
          have hk3 := (hblk.put 0 (.int .i64 0)).put 1 (.int .i64 0)
          have r0 : ((wr.setCell ⟨w.heap.size, 0, none⟩ (.int .i64 0)).setCell ⟨w.heap.size, 1, none⟩ (.int .i64 0)).cell? ⟨w.heap.size, 0, none⟩ = some (.int .i64 0) := (hk3.cell 0).trans rfl
          have r1 : ((wr.setCell ⟨w.heap.size, 0, none⟩ (.int .i64 0)).setCell ⟨w.heap.size, 1, none⟩ (.int .i64 0)).cell? ⟨w.heap.size, 1, none⟩ = some (.int .i64 0) := (hk3.cell 1).trans rfl
          have HBE := Lib.hid ((hbel.setCell (p := ⟨w.heap.size, 0, none⟩) (Nat.le_refl _) (.int .i64 0)).setCell (p := ⟨w.heap.size, 1, none⟩) (Nat.le_refl _) (.int .i64 0))
          have HR0' := Lib.hid r0
          have HR1' := Lib.hid r1
          clear hk3 r0 r1 hblk hbel hm hlt
          go_wp2
          have r0 := HR0'.out
          have r1 := HR1'.out
          exact bodyPost_ret (v := trV none) (by simp [results, Tryd.results70, go_sem, trV, r0, r1]) rfl ⟨by rw [HU.out], HBE.out⟩
end Go.Proofs.YtijiohdddfdjfaaDoor
