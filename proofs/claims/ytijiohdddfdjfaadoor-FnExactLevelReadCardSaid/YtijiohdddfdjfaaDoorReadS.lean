/- LevelRead of the reference model. -/
import Derived.Test.YtijiohdddfdjfaaDoorReadC
import Derived.Test.YtijiohdddfdjfaaDoorSpecText
namespace Go.Proofs.YtijiohdddfdjfaaDoor
open Go.RowKit

theorem own_apartR {w : World} {base base' : Nat} {e e' : TypeId} {size size' n n' : Nat} {v u : Value} {xs ys : List Value} (h : w.ownsRow base e size v n xs) (h' : w.ownsRow base' e' size' u n' ys) (hne : e ≠ e') : v.ownBlock = none ∨ v.ownBlock ≠ u.ownBlock := by
  cases hv : v.ownBlock with
  | none => exact .inl rfl
  | some g =>
    refine .inr (fun hu => ?_)
    obtain ⟨cs, hb⟩ := own_blk h g hv
    obtain ⟨cs', hb'⟩ := own_blk h' g hu.symm
    exact (hb.apart hb' hne) rfl
theorem bq_yes {x y : ByteArray} (h : x = y) : (x.toList == y.toList) = true := by rw [h]; exact beq_self_eq_true _
/-- the operation that the first j words tell -/
def opAt (j : Nat) (W : ByteArray) : Int := if 3 < j ∧ W = word (3, 0) then 3 else if 2 < j ∧ W = word (2, 0) then 2 else if 1 < j ∧ W = word (1, 0) then 1 else 0
theorem opAt_yes {j : Nat} {W : ByteArray} (hj : j < 4) (e : W = word ((j : Int), 0)) : opAt (j + 1) W = j := by
  rcases (show j = 0 ∨ j = 1 ∨ j = 2 ∨ j = 3 by omega) with rfl | rfl | rfl | rfl
  · simp [opAt]
  · have e' : W = word (1, 0) := e
    simp [opAt, e']
  · have e' : W = word (2, 0) := e
    simp [opAt, e']
  · have e' : W = word (3, 0) := e
    simp [opAt, e']
theorem opAt_no {j : Nat} {W : ByteArray} (hj : j < 4) (e : ¬ W = word ((j : Int), 0)) : opAt (j + 1) W = opAt j W := by
  rcases (show j = 0 ∨ j = 1 ∨ j = 2 ∨ j = 3 by omega) with rfl | rfl | rfl | rfl
  · simp [opAt]
  · have e' : ¬ W = word (1, 0) := e
    simp [opAt, e']
  · have e' : ¬ W = word (2, 0) := e
    simp [opAt, e']
  · have e' : ¬ W = word (3, 0) := e
    simp [opAt, e']
/-- the model's token of a piece -/
def unwB (W : ByteArray) : Int × Int := Rd.unw' W.data.toList
theorem ba_len (W : ByteArray) : W.data.toList.length = W.size := by rw [Array.length_toList]; rfl
theorem ba_at (W : ByteArray) (i : Nat) (h : i < W.size) : W.data.toList.getD i 0 = W[i] := by
  rw [List.getD_eq_getElem?_getD, Lib.data_getElem? W i h]; rfl
theorem unwB_u {W : ByteArray} (h : W.size = 2) (h0 : W[0].toNat = 117) : unwB W = ((4 : Int), (W[1].toNat : Int) - 48) := by
  unfold unwB Rd.unw'
  rw [if_pos ⟨by rw [ba_len]; exact h, by rw [ba_at W 0 (by omega)]; exact UInt8.toNat_inj.1 h0⟩, ba_at W 1 (by omega)]
theorem word_is (W : ByteArray) (j : Int) (l : List UInt8) (hl : (word (j, 0)).data.toList = l) : W.data.toList = l ↔ W = word (j, 0) :=
  ⟨fun h => ba_ext (by rw [h, hl]), fun h => by rw [h, hl]⟩
theorem unwB_op {W : ByteArray} (h : ¬ (W.data.toList.length = 2 ∧ W.data.toList.getD 0 0 = 117)) : unwB W = (opAt 4 W, 0) := by
  unfold unwB Rd.unw'
  rw [if_neg h]
  simp only [word_is W 3 [105, 109, 97, 120] (by decide), word_is W 2 [109, 97, 120] (by decide), word_is W 1 [115] (by decide)]
  unfold opAt
  simp only [show (3 : Nat) < 4 from by decide, show (2 : Nat) < 4 from by decide, show (1 : Nat) < 4 from by decide, true_and]
  split
  · rfl
  · split
    · rfl
    · split <;> rfl
theorem unwB_short {W : ByteArray} (h : ¬ W.size = 2) : unwB W = (opAt 4 W, 0) := unwB_op (fun hh => h (by rw [← ba_len]; exact hh.1))
theorem unwB_not {W : ByteArray} (h : W.size = 2) (h0 : ¬ W[0].toNat = 117) : unwB W = (opAt 4 W, 0) :=
  unwB_op (fun hh => h0 (by rw [← ba_at W 0 (by omega), hh.2]; rfl))
theorem ctOf_unw (l : List UInt8) : (ctOf l).map unwB = (Rd.cut l).map Rd.unw' := by
  unfold ctOf
  rw [List.map_map]
  exact List.map_congr_left fun x _ => by simp [unwB, Function.comp]

set_option maxRecDepth 100000 in
set_option maxHeartbeats 6400000 in
theorem specRead_any (w : World) (s : ByteArray) (hs : s.size ≤ 1048576) :
    Calls Tryd.prog 33 #[.string s] w (ResP w (Rd.readR s)) := by
  obtain ⟨i0, hi, hz0, hz1, hz2⟩ := info_parts info_tok
  by_cases hlong : 120 < s.size
  · have h1 : (120 : Int) < (s.size : Int) := by omega
    have HN := Lib.hid (Rd.spec_long hlong)
    clear hlong
    go_enter Tryd.func33, Tryd.ntmps33
    go_wp2
    go_ret2
    rw [HN.out]
    exact resP_none (Below.refl _ _)
  · have h1 : ¬ (120 : Int) < (s.size : Int) := by omega
    have HO0 : Hid (OwnT (w.alloc (.cells #[] 66)) w.heap.size (some ⟨w.heap.size, 0, none⟩) 0 0 []) := World.ownsRow_made w #[] 0 (Nat.le_refl _) (by simp [maxLen]) (by simp)
    have hb0 : Below w.heap.size w (w.alloc (.cells #[] 66)) := (Below.refl _ _).alloc (Nat.le_refl _) _
    have HB0 := Lib.hid hb0
    have HCT := Lib.hid (l01Cut_any (w.alloc (.cells #[] 66)) s (by omega))
    have hcl : (ctOf s.data.toList).length ≤ 121 := by
      have := Rd.cut_len s.data.toList
      rw [ba_len] at this
      unfold ctOf
      rw [List.length_map]
      omega
    have HUN := Lib.hid (ctOf_unw s.data.toList)
    generalize ctOf s.data.toList = C at HCT hcl HUN
    obtain ⟨L, hL⟩ : ∃ L, C.length = L := ⟨_, rfl⟩
    rw [hL] at HCT hcl
    have HLL := Lib.hid hL
    clear hb0 hL
    go_enter Tryd.func33, Tryd.ntmps33
    go_wp2_with fail
    refine HCT.out.mono ?_
    rintro e w2 ⟨g, cg, rfl, hrow, hb2⟩
    have HROW : Hid (w2.ownsRow w.heap.size 9 1 (.slice (some ⟨g, 0, none⟩) L cg) L (C.map Value.string)) := own_base hrow (by simp)
    have HB2 : Hid (Below w.heap.size w w2) := HB0.out.trans (hb2.mono (by simp))
    have HO2 := Lib.hid (own_below' HO0.out hb2)
    clear hrow hb2 HCT HB0 HO0
    go_wp2
    go_loopw [4, 6] (fun v i wr => ∃ (k g2 cap : Nat), k ≤ L ∧ i = .int .i64 k ∧ v = .slice (some ⟨g2, 0, none⟩) k cap ∧ OwnT wr w.heap.size (some ⟨g2, 0, none⟩) k cap ((C.take k).map unwB) ∧ wr.ownsRow w.heap.size 9 1 (.slice (some ⟨g, 0, none⟩) L cg) L (C.map Value.string) ∧ Below w.heap.size w wr) (fun _ i _ => L - (intOf i).toNat)
    case atStart => exact ⟨0, w.heap.size, 0, Nat.zero_le _, rfl, rfl, HO2.out, HROW.out, HB2.out⟩
    case round =>
      obtain ⟨wz, rfl⟩ : ∃ wz, wz = wr := ⟨wr, rfl⟩
      obtain ⟨k, g2, cap, hk, rfl, rfl, hown, hrow, hbel⟩ := hrel
      have hszr := hbel.size
      clear HO2 HROW HB2
      by_cases hlt : k < L
      · have hki : (k : Int) < (L : Int) := by omega
        obtain ⟨W, hW⟩ : ∃ W, C[k]? = some W := ⟨C[k]'(by rw [HLL.out]; exact hlt), List.getElem?_eq_getElem _⟩
        have hgl := (hrow.lt g rfl).2
        have hcell : wz.cell? ⟨g, k, none⟩ = some (.string W) := by
          have h := hrow.cells (g := g) rfl k (.string W) (by rw [List.getElem?_map, hW]; rfl)
          rw [own_adds] at h
          exact h
        have HTS : Hid ((C.take (k + 1)).map unwB = (C.take k).map unwB ++ [unwB W]) := by show _ = _; rw [take_snoc C k W hW, List.map_append]; rfl
        have HCELL := Lib.hid hcell
        have HROW := Lib.hid hrow
        have HOWN := Lib.hid hown
        have HBEL := Lib.hid hbel
        have HT0 := Lib.hid (Blk.made wz 66 #[.int .i64 0, .int .i64 0])
        have HA0 := Lib.hid ((Below.refl wz.heap.size wz).alloc (Nat.le_refl _) (.cells #[.int .i64 0, .int .i64 0] 66))
        clear hcell hW hown hrow hbel
        go_wp2
        go_loopw [8] (fun i wq => ∃ j : Nat, j ≤ 4 ∧ i = .int .i64 j ∧ Blk wq wz.heap.size 66 #[.int .i64 (opAt j W), .int .i64 0] ∧ Below wz.heap.size wz wq) (fun i _ => 4 - (intOf i).toNat)
        case atStart => exact ⟨0, by omega, rfl, by simpa [opAt] using HT0.out, HA0.out⟩
        case round =>
          obtain ⟨j, hj, rfl, hT, hbq⟩ := hrel
          clear HT0 HA0
          have hq := hbq.size
          have hcw := (hbq.cell (p := ⟨g, k, none⟩) hgl).trans HCELL.out
          have hta : ∀ ob, (wr.alloc ob).cell? ⟨wz.heap.size, 0, none⟩ = some (.int .i64 (opAt j W)) := fun ob => (hT.alloc ob).cell 0
          have htf : ∀ ob, (wr.alloc ob).frozen? ⟨wz.heap.size, 0, none⟩ = false := fun ob => (hT.alloc ob).thawed 0
          have hca : ∀ ob, (wr.alloc ob).cell? ⟨g, k, none⟩ = some (.string W) := fun ob => (((Below.refl wr.heap.size wr).alloc (Nat.le_refl _) ob).cell (p := ⟨g, k, none⟩) (by show g < _; omega)).trans hcw
          by_cases hj4 : j < 4
          · rcases (show j = 0 ∨ j = 1 ∨ j = 2 ∨ j = 3 by omega) with rfl | rfl | rfl | rfl
            · by_cases e : W = word (((0 : Nat) : Int), 0)
              · have d1 : (W.toList == [48]) = true := by have h := bq_yes (show W = ⟨#[48]⟩ from e); rw [show (⟨#[48]⟩ : ByteArray).toList = [48] from ByteArray.toList_eq _] at h; exact h
                have HOP := Lib.hid (opAt_yes (j := 0) (by omega) e)
                have HTQ : Hid (Blk ((wr.alloc (.cells #[.string ⟨#[48]⟩, .string ⟨#[115]⟩, .string ⟨#[109, 97, 120]⟩, .string ⟨#[105, 109, 97, 120]⟩] 9)).setCell ⟨wz.heap.size, 0, none⟩ (.int .i64 0)).drew wz.heap.size 66 #[.int .i64 (opAt (0 + 1) W), .int .i64 0]) := by rw [HOP.out]; exact (hT.alloc (.cells #[.string ⟨#[48]⟩, .string ⟨#[115]⟩, .string ⟨#[109, 97, 120]⟩, .string ⟨#[105, 109, 97, 120]⟩] 9)).put 0 (.int .i64 0)
                have HBQ := Lib.hid ((hbq.alloc hq (.cells #[.string ⟨#[48]⟩, .string ⟨#[115]⟩, .string ⟨#[109, 97, 120]⟩, .string ⟨#[105, 109, 97, 120]⟩] 9)).setCell (p := ⟨wz.heap.size, 0, none⟩) (Nat.le_refl _) (.int .i64 0)).drew
                clear hT hbq e
                go_wp2_with fail
                go_region
                all_goals
                  go_wp2
                  go_roundw
                  case rel => exact ⟨0 + 1, by omega, by go_num, HTQ.out, HBQ.out⟩
                  case measure => simp [intOf]
              · have d1 : (W.toList == [48]) = false := by have h := bq_no (show ¬ W = ⟨#[48]⟩ from e); rw [show (⟨#[48]⟩ : ByteArray).toList = [48] from ByteArray.toList_eq _] at h; exact h
                have HOP := Lib.hid (opAt_no (j := 0) (by omega) e)
                have HTQ : Hid (Blk (wr.alloc (.cells #[.string ⟨#[48]⟩, .string ⟨#[115]⟩, .string ⟨#[109, 97, 120]⟩, .string ⟨#[105, 109, 97, 120]⟩] 9)).drew wz.heap.size 66 #[.int .i64 (opAt (0 + 1) W), .int .i64 0]) := by rw [HOP.out]; exact hT.alloc _
                have HBQ := Lib.hid ((hbq.alloc hq (.cells #[.string ⟨#[48]⟩, .string ⟨#[115]⟩, .string ⟨#[109, 97, 120]⟩, .string ⟨#[105, 109, 97, 120]⟩] 9)).drew)
                clear hT hbq e
                go_wp2_with fail
                go_region
                all_goals
                  go_wp2
                  go_roundw
                  case rel => exact ⟨0 + 1, by omega, by go_num, HTQ.out, HBQ.out⟩
                  case measure => simp [intOf]
            · by_cases e : W = word (((1 : Nat) : Int), 0)
              · have d1 : (W.toList == [115]) = true := by have h := bq_yes (show W = ⟨#[115]⟩ from e); rw [show (⟨#[115]⟩ : ByteArray).toList = [115] from ByteArray.toList_eq _] at h; exact h
                have HOP := Lib.hid (opAt_yes (j := 1) (by omega) e)
                have HTQ : Hid (Blk ((wr.alloc (.cells #[.string ⟨#[48]⟩, .string ⟨#[115]⟩, .string ⟨#[109, 97, 120]⟩, .string ⟨#[105, 109, 97, 120]⟩] 9)).setCell ⟨wz.heap.size, 0, none⟩ (.int .i64 1)).drew wz.heap.size 66 #[.int .i64 (opAt (1 + 1) W), .int .i64 0]) := by rw [HOP.out]; exact (hT.alloc (.cells #[.string ⟨#[48]⟩, .string ⟨#[115]⟩, .string ⟨#[109, 97, 120]⟩, .string ⟨#[105, 109, 97, 120]⟩] 9)).put 0 (.int .i64 1)
                have HBQ := Lib.hid ((hbq.alloc hq (.cells #[.string ⟨#[48]⟩, .string ⟨#[115]⟩, .string ⟨#[109, 97, 120]⟩, .string ⟨#[105, 109, 97, 120]⟩] 9)).setCell (p := ⟨wz.heap.size, 0, none⟩) (Nat.le_refl _) (.int .i64 1)).drew
                clear hT hbq e
                go_wp2_with fail
                go_region
                all_goals
                  go_wp2
                  go_roundw
                  case rel => exact ⟨1 + 1, by omega, by go_num, HTQ.out, HBQ.out⟩
                  case measure => simp [intOf]
              · have d1 : (W.toList == [115]) = false := by have h := bq_no (show ¬ W = ⟨#[115]⟩ from e); rw [show (⟨#[115]⟩ : ByteArray).toList = [115] from ByteArray.toList_eq _] at h; exact h
                have HOP := Lib.hid (opAt_no (j := 1) (by omega) e)
                have HTQ : Hid (Blk (wr.alloc (.cells #[.string ⟨#[48]⟩, .string ⟨#[115]⟩, .string ⟨#[109, 97, 120]⟩, .string ⟨#[105, 109, 97, 120]⟩] 9)).drew wz.heap.size 66 #[.int .i64 (opAt (1 + 1) W), .int .i64 0]) := by rw [HOP.out]; exact hT.alloc _
                have HBQ := Lib.hid ((hbq.alloc hq (.cells #[.string ⟨#[48]⟩, .string ⟨#[115]⟩, .string ⟨#[109, 97, 120]⟩, .string ⟨#[105, 109, 97, 120]⟩] 9)).drew)
                clear hT hbq e
                go_wp2_with fail
                go_region
                all_goals
                  go_wp2
                  go_roundw
                  case rel => exact ⟨1 + 1, by omega, by go_num, HTQ.out, HBQ.out⟩
                  case measure => simp [intOf]
            · by_cases e : W = word (((2 : Nat) : Int), 0)
              · have d1 : (W.toList == [109, 97, 120]) = true := by have h := bq_yes (show W = ⟨#[109, 97, 120]⟩ from e); rw [show (⟨#[109, 97, 120]⟩ : ByteArray).toList = [109, 97, 120] from ByteArray.toList_eq _] at h; exact h
                have HOP := Lib.hid (opAt_yes (j := 2) (by omega) e)
                have HTQ : Hid (Blk ((wr.alloc (.cells #[.string ⟨#[48]⟩, .string ⟨#[115]⟩, .string ⟨#[109, 97, 120]⟩, .string ⟨#[105, 109, 97, 120]⟩] 9)).setCell ⟨wz.heap.size, 0, none⟩ (.int .i64 2)).drew wz.heap.size 66 #[.int .i64 (opAt (2 + 1) W), .int .i64 0]) := by rw [HOP.out]; exact (hT.alloc (.cells #[.string ⟨#[48]⟩, .string ⟨#[115]⟩, .string ⟨#[109, 97, 120]⟩, .string ⟨#[105, 109, 97, 120]⟩] 9)).put 0 (.int .i64 2)
                have HBQ := Lib.hid ((hbq.alloc hq (.cells #[.string ⟨#[48]⟩, .string ⟨#[115]⟩, .string ⟨#[109, 97, 120]⟩, .string ⟨#[105, 109, 97, 120]⟩] 9)).setCell (p := ⟨wz.heap.size, 0, none⟩) (Nat.le_refl _) (.int .i64 2)).drew
                clear hT hbq e
                go_wp2_with fail
                go_region
                all_goals
                  go_wp2
                  go_roundw
                  case rel => exact ⟨2 + 1, by omega, by go_num, HTQ.out, HBQ.out⟩
                  case measure => simp [intOf]
              · have d1 : (W.toList == [109, 97, 120]) = false := by have h := bq_no (show ¬ W = ⟨#[109, 97, 120]⟩ from e); rw [show (⟨#[109, 97, 120]⟩ : ByteArray).toList = [109, 97, 120] from ByteArray.toList_eq _] at h; exact h
                have HOP := Lib.hid (opAt_no (j := 2) (by omega) e)
                have HTQ : Hid (Blk (wr.alloc (.cells #[.string ⟨#[48]⟩, .string ⟨#[115]⟩, .string ⟨#[109, 97, 120]⟩, .string ⟨#[105, 109, 97, 120]⟩] 9)).drew wz.heap.size 66 #[.int .i64 (opAt (2 + 1) W), .int .i64 0]) := by rw [HOP.out]; exact hT.alloc _
                have HBQ := Lib.hid ((hbq.alloc hq (.cells #[.string ⟨#[48]⟩, .string ⟨#[115]⟩, .string ⟨#[109, 97, 120]⟩, .string ⟨#[105, 109, 97, 120]⟩] 9)).drew)
                clear hT hbq e
                go_wp2_with fail
                go_region
                all_goals
                  go_wp2
                  go_roundw
                  case rel => exact ⟨2 + 1, by omega, by go_num, HTQ.out, HBQ.out⟩
                  case measure => simp [intOf]
            · by_cases e : W = word (((3 : Nat) : Int), 0)
              · have d1 : (W.toList == [105, 109, 97, 120]) = true := by have h := bq_yes (show W = ⟨#[105, 109, 97, 120]⟩ from e); rw [show (⟨#[105, 109, 97, 120]⟩ : ByteArray).toList = [105, 109, 97, 120] from ByteArray.toList_eq _] at h; exact h
                have HOP := Lib.hid (opAt_yes (j := 3) (by omega) e)
                have HTQ : Hid (Blk ((wr.alloc (.cells #[.string ⟨#[48]⟩, .string ⟨#[115]⟩, .string ⟨#[109, 97, 120]⟩, .string ⟨#[105, 109, 97, 120]⟩] 9)).setCell ⟨wz.heap.size, 0, none⟩ (.int .i64 3)).drew wz.heap.size 66 #[.int .i64 (opAt (3 + 1) W), .int .i64 0]) := by rw [HOP.out]; exact (hT.alloc (.cells #[.string ⟨#[48]⟩, .string ⟨#[115]⟩, .string ⟨#[109, 97, 120]⟩, .string ⟨#[105, 109, 97, 120]⟩] 9)).put 0 (.int .i64 3)
                have HBQ := Lib.hid ((hbq.alloc hq (.cells #[.string ⟨#[48]⟩, .string ⟨#[115]⟩, .string ⟨#[109, 97, 120]⟩, .string ⟨#[105, 109, 97, 120]⟩] 9)).setCell (p := ⟨wz.heap.size, 0, none⟩) (Nat.le_refl _) (.int .i64 3)).drew
                clear hT hbq e
                go_wp2_with fail
                go_region
                all_goals
                  go_wp2
                  go_roundw
                  case rel => exact ⟨3 + 1, by omega, by go_num, HTQ.out, HBQ.out⟩
                  case measure => simp [intOf]
              · have d1 : (W.toList == [105, 109, 97, 120]) = false := by have h := bq_no (show ¬ W = ⟨#[105, 109, 97, 120]⟩ from e); rw [show (⟨#[105, 109, 97, 120]⟩ : ByteArray).toList = [105, 109, 97, 120] from ByteArray.toList_eq _] at h; exact h
                have HOP := Lib.hid (opAt_no (j := 3) (by omega) e)
                have HTQ : Hid (Blk (wr.alloc (.cells #[.string ⟨#[48]⟩, .string ⟨#[115]⟩, .string ⟨#[109, 97, 120]⟩, .string ⟨#[105, 109, 97, 120]⟩] 9)).drew wz.heap.size 66 #[.int .i64 (opAt (3 + 1) W), .int .i64 0]) := by rw [HOP.out]; exact hT.alloc _
                have HBQ := Lib.hid ((hbq.alloc hq (.cells #[.string ⟨#[48]⟩, .string ⟨#[115]⟩, .string ⟨#[109, 97, 120]⟩, .string ⟨#[105, 109, 97, 120]⟩] 9)).drew)
                clear hT hbq e
                go_wp2_with fail
                go_region
                all_goals
                  go_wp2
                  go_roundw
                  case rel => exact ⟨3 + 1, by omega, by go_num, HTQ.out, HBQ.out⟩
                  case measure => simp [intOf]
          · obtain rfl : j = 4 := by omega
            have t0 : wr.cell? ⟨wz.heap.size, 0, none⟩ = some (.int .i64 (opAt 4 W)) := hT.cell 0
            have t1 : wr.cell? ⟨wz.heap.size, 1, none⟩ = some (.int .i64 0) := hT.cell 1
            clear hta htf hca hj hj4
            by_cases h2 : W.size = 2
            · have hp0 : 0 < W.size := by omega
              have hp1 : 1 < W.size := by omega
              have d2 : ((W.size : Int) == 2) = true := by simp; omega
              have q0 : (0 : Int) < (W.size : Int) := by omega
              have q1 : (1 : Int) < (W.size : Int) := by omega
              by_cases h0 : (W[0]'hp0).toNat = 117
              · have HU : Hid (unwB W = ((4 : Int), ((W[1]'hp1).toNat : Int) - 48)) := unwB_u h2 h0
                have e0 : (((W[0]'hp0).toNat : Nat) : Int) = 117 := by omega
                have hb1 : (W[1]'hp1).toNat < 256 := UInt8.toNat_lt _
                have f0 := hT.thawed 0
                have f1 := hT.thawed 1
                have hbs := (hbq.setCell (p := ⟨wz.heap.size, 0, none⟩) (Nat.le_refl _) (.int .i64 4)).setCell (p := ⟨wz.heap.size, 1, none⟩) (Nat.le_refl _) (.int .i64 (((W[1]'hp1).toNat : Int) - 48))
                have hnw : ∀ j u, [Value.int .i64 4, .int .i64 (((W[1]'hp1).toNat : Int) - 48)][j]? = some u → (((wr.setCell ⟨wz.heap.size, 0, none⟩ (.int .i64 4)).setCell ⟨wz.heap.size, 1, none⟩ (.int .i64 (((W[1]'hp1).toNat : Int) - 48))).alloc (.cells #[.int .i64 4, .int .i64 (((W[1]'hp1).toNat : Int) - 48)] 66)).cell? ((⟨wr.heap.size, 0, none⟩ : Addr).add j) = some u := by
                  have h := World.news_of_block (cs := #[.int .i64 4, .int .i64 (((W[1]'hp1).toNat : Int) - 48)]) (t := 66) (fr := (0, 0)) (heap_alloc_new ((wr.setCell ⟨wz.heap.size, 0, none⟩ (.int .i64 4)).setCell ⟨wz.heap.size, 1, none⟩ (.int .i64 (((W[1]'hp1).toNat : Int) - 48))) (.cells #[.int .i64 4, .int .i64 (((W[1]'hp1).toNat : Int) - 48)] 66))
                  have hsX : ((wr.setCell ⟨wz.heap.size, 0, none⟩ (.int .i64 4)).setCell ⟨wz.heap.size, 1, none⟩ (.int .i64 (((W[1]'hp1).toNat : Int) - 48))).heap.size = wr.heap.size := by simp
                  rw [hsX] at h
                  exact h
                clear h2 h0 hbq hT
                have hox := own_below' HOWN.out hbs
                have hrx := own_below' HROW.out hbs
                have hzx := (hbs).size
                have HBX := Lib.hid (HBEL.out.trans ((hbs).mono hszr))
                have HAP := Lib.hid (own_apartR HROW.out HOWN.out (by decide))
                have hsx := HBX.out.size
                go_wp2_with (at_builtin; refine wpList_append_own _ rfl (.tmp 59) (.tmp 61) 24 rfl w.heap.size 66 i0 (.agg #[.int .i64 0, .int .i64 0]) 2 16 Tryd.underlying24 hi hz0 hz1 hz2 rfl (by decide) (.slice (some ⟨g2, 0, none⟩) k cap) k (tokCells ((C.take k).map unwB)) rfl (hox.alloc _) ⟨wr.heap.size, 0, none⟩ 1 1 [.int .i64 4, .int .i64 (((W[1]'hp1).toNat : Int) - 48)] rfl rfl hnw (by intro v hv; simp at hv; rcases hv with rfl | rfl <;> rfl) (by unfold maxLen; omega) (by omega) (by simp; omega) ?_; intro v' w4 hown' hgrow hnil)
                obtain ⟨g4, cap4, rfl⟩ : ∃ g' cap', v' = .slice (some ⟨g', 0, none⟩) (k + 1) cap' := by
                  rcases hown'.2 with ⟨_, h⟩ | ⟨g', cap', _, h, _⟩
                  · omega
                  · exact ⟨g', cap', h⟩
                have HW4 : Hid (OwnT w4 w.heap.size (some ⟨g4, 0, none⟩) (k + 1) cap4 ((C.take (k + 1)).map unwB)) := by
                  show OwnT _ _ _ _ _ _
                  unfold OwnT
                  rw [HTS.out, tokCells_append, HU.out]
                  exact hown'
                have HR4 := Lib.hid (World.ownsRow.kept (hrx.alloc _) hgrow HAP.out)
                have HB4 : Hid (Below w.heap.size w w4) := (HBX.out.alloc hsx _).grown hgrow (by simp; omega) (fun k h => (HOWN.out.lt k h).1)
                clear hown' hgrow hnil hox hrx
                go_wp2
                go_roundw
                case rel => exact ⟨k + 1, g4, cap4, by omega, by go_num, rfl, HW4.out, HR4.out, HB4.out⟩
                case measure => simp [intOf]; omega
              · have HU := Lib.hid (unwB_not h2 h0)
                have d0 : ((((W[0]'hp0).toNat : Nat) : Int) == 117) = false := by simp; omega
                clear h2 h0 hT
                have hox := own_below' HOWN.out hbq
                have hrx := own_below' HROW.out hbq
                have hzx := (hbq).size
                have HBX := Lib.hid (HBEL.out.trans ((hbq).mono hszr))
                have HAP := Lib.hid (own_apartR HROW.out HOWN.out (by decide))
                have hsx := HBX.out.size
                go_wp2_with (at_builtin; refine wpList_append_own _ rfl (.tmp 59) (.tmp 61) 24 rfl w.heap.size 66 i0 (.agg #[.int .i64 0, .int .i64 0]) 2 16 Tryd.underlying24 hi hz0 hz1 hz2 rfl (by decide) (.slice (some ⟨g2, 0, none⟩) k cap) k (tokCells ((C.take k).map unwB)) rfl (hox.alloc _) ⟨wr.heap.size, 0, none⟩ 1 1 [.int .i64 (opAt 4 W), .int .i64 0] rfl rfl (World.news_of_block (cs := #[.int .i64 (opAt 4 W), .int .i64 0]) (t := 66) (fr := (0, 0)) (heap_alloc_new wr _)) (by intro v hv; simp at hv; rcases hv with rfl | rfl <;> rfl) (by unfold maxLen; omega) (by omega) (by simp; omega) ?_; intro v' w4 hown' hgrow hnil)
                obtain ⟨g4, cap4, rfl⟩ : ∃ g' cap', v' = .slice (some ⟨g', 0, none⟩) (k + 1) cap' := by
                  rcases hown'.2 with ⟨_, h⟩ | ⟨g', cap', _, h, _⟩
                  · omega
                  · exact ⟨g', cap', h⟩
                have HW4 : Hid (OwnT w4 w.heap.size (some ⟨g4, 0, none⟩) (k + 1) cap4 ((C.take (k + 1)).map unwB)) := by
                  show OwnT _ _ _ _ _ _
                  unfold OwnT
                  rw [HTS.out, tokCells_append, HU.out]
                  exact hown'
                have HR4 := Lib.hid (World.ownsRow.kept (hrx.alloc _) hgrow HAP.out)
                have HB4 : Hid (Below w.heap.size w w4) := (HBX.out.alloc hsx _).grown hgrow (by simp; omega) (fun k h => (HOWN.out.lt k h).1)
                clear hown' hgrow hnil hox hrx
                go_wp2
                go_roundw
                case rel => exact ⟨k + 1, g4, cap4, by omega, by go_num, rfl, HW4.out, HR4.out, HB4.out⟩
                case measure => simp [intOf]; omega
            · have d2 : ((W.size : Int) == 2) = false := by simp; omega
              have HU := Lib.hid (unwB_short h2)
              clear h2 hT
              have hox := own_below' HOWN.out hbq
              have hrx := own_below' HROW.out hbq
              have hzx := (hbq).size
              have HBX := Lib.hid (HBEL.out.trans ((hbq).mono hszr))
              have HAP := Lib.hid (own_apartR HROW.out HOWN.out (by decide))
              have hsx := HBX.out.size
              go_wp2_with (at_builtin; refine wpList_append_own _ rfl (.tmp 59) (.tmp 61) 24 rfl w.heap.size 66 i0 (.agg #[.int .i64 0, .int .i64 0]) 2 16 Tryd.underlying24 hi hz0 hz1 hz2 rfl (by decide) (.slice (some ⟨g2, 0, none⟩) k cap) k (tokCells ((C.take k).map unwB)) rfl (hox.alloc _) ⟨wr.heap.size, 0, none⟩ 1 1 [.int .i64 (opAt 4 W), .int .i64 0] rfl rfl (World.news_of_block (cs := #[.int .i64 (opAt 4 W), .int .i64 0]) (t := 66) (fr := (0, 0)) (heap_alloc_new wr _)) (by intro v hv; simp at hv; rcases hv with rfl | rfl <;> rfl) (by unfold maxLen; omega) (by omega) (by simp; omega) ?_; intro v' w4 hown' hgrow hnil)
              obtain ⟨g4, cap4, rfl⟩ : ∃ g' cap', v' = .slice (some ⟨g', 0, none⟩) (k + 1) cap' := by
                rcases hown'.2 with ⟨_, h⟩ | ⟨g', cap', _, h, _⟩
                · omega
                · exact ⟨g', cap', h⟩
              have HW4 : Hid (OwnT w4 w.heap.size (some ⟨g4, 0, none⟩) (k + 1) cap4 ((C.take (k + 1)).map unwB)) := by
                show OwnT _ _ _ _ _ _
                unfold OwnT
                rw [HTS.out, tokCells_append, HU.out]
                exact hown'
              have HR4 := Lib.hid (World.ownsRow.kept (hrx.alloc _) hgrow HAP.out)
              have HB4 : Hid (Below w.heap.size w w4) := (HBX.out.alloc hsx _).grown hgrow (by simp; omega) (fun k h => (HOWN.out.lt k h).1)
              clear hown' hgrow hnil hox hrx
              go_wp2
              go_roundw
              case rel => exact ⟨k + 1, g4, cap4, by omega, by go_num, rfl, HW4.out, HR4.out, HB4.out⟩
              case measure => simp [intOf]; omega
      · obtain rfl : k = L := by omega
        have hout : (C.take k).map unwB = (Rd.cut s.data.toList).map Rd.unw' := by rw [List.take_of_length_le (by rw [HLL.out]; exact Nat.le_refl _), HUN.out]
        obtain ⟨O, hO⟩ : ∃ O, (C.take k).map unwB = O := ⟨_, rfl⟩
        rw [hO] at hown hout
        have HOUT := Lib.hid hout
        have hkk : ¬ (k : Int) < (k : Int) := by omega
        have HLN := Lib.hid (OwnT.reads hown).1
        clear hO hout hrow
        go_wp2_with fail
        refine (specOk_any wz wz.heap.size _ k cap O (Nat.le_refl _) (OwnT.reads hown) (by omega)).mono ?_
        rintro e w5 ⟨rfl, hb5⟩
        have ho5 := own_below' hown hb5
        have hbw5 := hbel.trans (hb5.mono hszr)
        clear hb5 hown hbel
        cases hok : Lv.levelOk O with
        | false =>
          have HN : Hid (Rd.readR s = none) := Rd.spec_no (fun h => by rw [← HOUT.out, hok] at h; cases h.1)
          have HBB := Lib.hid hbw5
          clear hok ho5 hbw5
          go_wp2
          go_ret2
          rw [HN.out]
          exact resP_none HBB.out
        | true =>
          have HTX : Hid (textR O = tx O) := by show _ = _; simp [textR, hok]
          have HST := Lib.hid (specText_any w5 w5.heap.size _ k cap O (Nat.le_refl _) (OwnT.reads ho5) (by omega))
          rw [HTX.out] at HST
          have HOK := Lib.hid hok
          clear hok
          go_wp2_with fail
          refine HST.out.mono ?_
          rintro e w6 ⟨rfl, hb6⟩
          have HO6 := Lib.hid (own_below' ho5 hb6)
          have HB6 := Lib.hid (hbw5.trans (hb6.mono hbw5.size))
          clear hb6 ho5 hbw5 HST
          by_cases e : tx O = s
          · have HY : Hid (Rd.readR s = some O) := by show _ = _; rw [HOUT.out]; exact Rd.spec_yes (by rw [← HOUT.out]; exact HOK.out) (by rw [← HOUT.out]; exact e)
            have d1 := bq_yes e
            clear e
            go_wp2
            go_ret2
            rw [HY.out]
            refine ⟨some ⟨g2, 0, none⟩, cap, ?_, ?_, HB6.out⟩
            · simp only [Option.getD_some, Option.isSome_some, HLN.out]; rfl
            · simp only [Option.getD_some, HLN.out]; exact HO6.out
          · have HN : Hid (Rd.readR s = none) := Rd.spec_no (fun h => by rw [← HOUT.out] at h; exact e h.2)
            have d1 := bq_no e
            clear e
            go_wp2
            go_ret2
            rw [HN.out]
            exact resP_none HB6.out
end Go.Proofs.YtijiohdddfdjfaaDoor
