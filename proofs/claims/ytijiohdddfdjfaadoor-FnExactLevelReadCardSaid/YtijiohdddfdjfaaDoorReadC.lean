/- The model's cut of a text. -/
import Derived.Test.YtijiohdddfdjfaaDoorReadI
namespace Go.Proofs.YtijiohdddfdjfaaDoor
open Go.RowKit

/-- the pieces as byte arrays -/
def ctOf (l : List UInt8) : List ByteArray := (Rd.cut l).map fun x => ⟨x.toArray⟩

theorem ext_piece (s : ByteArray) (a b : Nat) : s.extract a b = ⟨((s.data.toList.drop a).take (b - a)).toArray⟩ := by
  apply ba_ext
  rw [Lib.extract_data]
theorem ctOf_blank {s : ByteArray} {d k : Nat} (hdk : d ≤ k) (hk : k < s.size) (h32 : s[k].toNat = 32) (hn : ∀ x ∈ (s.data.toList.drop d).take (k - d), x ≠ 32) : ctOf (s.data.toList.drop d) = s.extract d k :: ctOf (s.data.toList.drop (k + 1)) := by
  have hl : k < s.data.toList.length := by rw [Array.length_toList]; exact hk
  have hb : s.data.toList[k] = 32 := by
    have : s.data.toList[k].toNat = 32 := h32
    exact UInt8.toNat_inj.1 this
  have e : s.data.toList.drop d = (s.data.toList.drop d).take (k - d) ++ 32 :: s.data.toList.drop (k + 1) := by
    conv => lhs; rw [← List.take_append_drop (k - d) (s.data.toList.drop d)]
    rw [List.drop_drop, show d + (k - d) = k by omega, List.drop_eq_getElem_cons hl, hb]
  unfold ctOf
  rw [e, Rd.cut_app hn, List.map_cons, ext_piece]
theorem ctOf_last {s : ByteArray} {d : Nat} (hn : ∀ x ∈ (s.data.toList.drop d).take (s.size - d), x ≠ 32) : ctOf (s.data.toList.drop d) = [s.extract d s.size] := by
  have e : (s.data.toList.drop d).take (s.size - d) = s.data.toList.drop d := by
    refine List.take_of_length_le ?_
    rw [List.length_drop, Array.length_toList]
    exact Nat.le_refl _
  unfold ctOf
  rw [e] at hn
  rw [Rd.cut_none hn, ext_piece, e]
  rfl
theorem no_blank {s : ByteArray} {d k : Nat} (hdk : d ≤ k) (hk : k < s.size) (h32 : ¬ s[k].toNat = 32) (hn : ∀ x ∈ (s.data.toList.drop d).take (k - d), x ≠ 32) : ∀ x ∈ (s.data.toList.drop d).take (k + 1 - d), x ≠ 32 := by
  have hl : k < s.data.toList.length := by rw [Array.length_toList]; exact hk
  intro x hx
  rw [show k + 1 - d = k - d + 1 by omega, List.take_succ_eq_append_getElem (by rw [List.length_drop]; omega)] at hx
  rcases List.mem_append.1 hx with hx | hx
  · exact hn x hx
  · rw [List.mem_singleton, List.getElem_drop] at hx
    simp only [show d + (k - d) = k by omega] at hx
    intro e
    apply h32
    show s.data.toList[k].toNat = 32
    rw [← hx, e]
    rfl

set_option maxRecDepth 100000 in
set_option maxHeartbeats 3200000 in
theorem l01Cut_any (w : World) (s : ByteArray) (hs : s.size ≤ 1000) :
    Calls Tryd.prog 67 #[.string s, .int .u8 32] w fun e w' => ∃ g c, e = .returned (.slice (some ⟨g, 0, none⟩) (ctOf s.data.toList).length c) ∧ w'.ownsRow w.heap.size 9 1 (.slice (some ⟨g, 0, none⟩) (ctOf s.data.toList).length c) (ctOf s.data.toList).length ((ctOf s.data.toList).map Value.string) ∧ Below w.heap.size w w' := by
  obtain ⟨i0, hi, hz0, hz1, hz2⟩ := info_parts info_string
  have HO0 : Hid ((w.alloc (.cells #[] 9)).ownsRow w.heap.size 9 1 (.slice (some ⟨w.heap.size, 0, none⟩) 0 0) 0 []) := World.ownsRow_made w #[] 0 (Nat.le_refl _) (by simp [maxLen]) (by simp)
  have HB0 := Lib.hid ((Below.refl w.heap.size w).alloc (Nat.le_refl _) (.cells #[] 9))
  go_enter Tryd.func67, Tryd.ntmps67
  go_wp2
  go_loopw [5, 6, 7] (fun v f i wr => ∃ (k d g cap : Nat) (D : List ByteArray), d ≤ k ∧ k ≤ s.size ∧ i = .int .i64 k ∧ f = .int .i64 d ∧ v = .slice (some ⟨g, 0, none⟩) D.length cap ∧ D.length ≤ d ∧ Hid (ctOf s.data.toList = D ++ ctOf (s.data.toList.drop d)) ∧ Hid (∀ x ∈ (s.data.toList.drop d).take (k - d), x ≠ 32) ∧ wr.ownsRow w.heap.size 9 1 (.slice (some ⟨g, 0, none⟩) D.length cap) D.length (D.map Value.string) ∧ Below w.heap.size w wr) (fun _ _ i _ => s.size - (intOf i).toNat)
  case atStart => exact ⟨0, 0, w.heap.size, 0, [], by omega, by omega, rfl, rfl, rfl, by simp, rfl, (fun x hx => by simp at hx), HO0.out, HB0.out⟩
  case round =>
    obtain ⟨k, d, g, cap, D, hdk, hks, rfl, rfl, rfl, hDd, HC, HN, hown, hbel⟩ := hrel
    have hszr := hbel.size
    by_cases hlt : k < s.size
    · have hki : (k : Int) < (s.size : Int) := by omega
      obtain ⟨M, hM⟩ : ∃ M, D.length = M := ⟨_, rfl⟩
      rw [hM] at hown hDd ⊢
      have HM := Lib.hid hM
      clear hM
      by_cases h32 : s[k].toNat = 32
      · have e32 : ((s[k].toNat : Nat) : Int) = 32 := by omega
        have HC2 : Hid (ctOf s.data.toList = D ++ [s.extract d k] ++ ctOf (s.data.toList.drop (k + 1))) := by
          show _ = _
          rw [HC.out, ctOf_blank hdk hlt h32 HN.out, List.append_assoc]
          rfl
        clear h32
        go_wp2_with (at_builtin; refine wpList_append_own _ rfl (.tmp 20) (.tmp 25) 94 rfl w.heap.size 9 i0 (.string ⟨#[]⟩) 1 16 Tryd.underlying94 hi hz0 hz1 hz2 rfl (by decide) (.slice (some ⟨g, 0, none⟩) M cap) M (D.map Value.string) rfl (hown.alloc _) ⟨wr.heap.size, 0, none⟩ 1 1 [.string (s.extract d k)] rfl rfl (cell_one_new _ _ _) (fun u hu => by simp at hu; subst hu; rfl) (by unfold maxLen; omega) (by omega) (by simp; omega) ?_; intro v' w3 hown' hgrow hnil)
        obtain ⟨g', cap', rfl⟩ : ∃ g' cap', v' = .slice (some ⟨g', 0, none⟩) (M + 1) cap' := by
          rcases hown'.2 with ⟨_, h⟩ | ⟨g', cap', _, h, _⟩
          · omega
          · exact ⟨g', cap', h⟩
        have HB3 : Hid (Below w.heap.size w w3) := (hbel.alloc hszr _).grown hgrow (by simp; omega) (fun k h => (hown.lt k h).1)
        have HLN : Hid ((D ++ [s.extract d k]).length = M + 1) := by show _ = _; rw [List.length_append, HM.out]; rfl
        have HW : Hid (w3.ownsRow w.heap.size 9 1 (.slice (some ⟨g', 0, none⟩) (M + 1) cap') (M + 1) ((D ++ [s.extract d k]).map Value.string)) := by
          show World.ownsRow _ _ _ _ _ _ _
          rw [List.map_append]
          exact hown'
        clear hown' hgrow hnil hown hbel
        go_wp2
        go_roundw
        case rel => exact ⟨k + 1, k + 1, g', cap', D ++ [s.extract d k], by omega, by omega, by go_num, by go_num, by rw [HLN.out], by rw [HLN.out]; omega, HC2.out, (fun x hx => by simp at hx), by rw [HLN.out]; exact HW.out, HB3.out⟩
        case measure => simp [intOf]; omega
      · have d32 : (((s[k].toNat : Nat) : Int) == 32) = false := by simp; omega
        have HN2 : Hid (∀ x ∈ (s.data.toList.drop d).take (k + 1 - d), x ≠ 32) := no_blank hdk hlt h32 HN.out
        have HO := Lib.hid hown
        have HBB := Lib.hid hbel
        clear h32 hown hbel
        go_wp2
        go_roundw
        case rel => exact ⟨k + 1, d, g, cap, D, by omega, by omega, by go_num, rfl, by rw [HM.out], by rw [HM.out]; omega, HC.out, HN2.out, by rw [HM.out]; exact HO.out, HBB.out⟩
        case measure => simp [intOf]; omega
    · obtain rfl : k = s.size := by omega
      obtain ⟨M, hM⟩ : ∃ M, D.length = M := ⟨_, rfl⟩
      rw [hM] at hown hDd ⊢
      have HM := Lib.hid hM
      clear hM
      have HC2 : Hid (ctOf s.data.toList = D ++ [s.extract d s.size]) := by
        show _ = _
        rw [HC.out, ctOf_last HN.out]
      go_wp2_with (at_builtin; refine wpList_append_own _ rfl (.tmp 29) (.tmp 33) 94 rfl w.heap.size 9 i0 (.string ⟨#[]⟩) 1 16 Tryd.underlying94 hi hz0 hz1 hz2 rfl (by decide) (.slice (some ⟨g, 0, none⟩) M cap) M (D.map Value.string) rfl (hown.alloc _) ⟨wr.heap.size, 0, none⟩ 1 1 [.string (s.extract d s.size)] rfl rfl (cell_one_new _ _ _) (fun u hu => by simp at hu; subst hu; rfl) (by unfold maxLen; omega) (by omega) (by simp; omega) ?_; intro v' w3 hown' hgrow hnil)
      obtain ⟨g', cap', rfl⟩ : ∃ g' cap', v' = .slice (some ⟨g', 0, none⟩) (M + 1) cap' := by
        rcases hown'.2 with ⟨_, h⟩ | ⟨g', cap', _, h, _⟩
        · omega
        · exact ⟨g', cap', h⟩
      have HB3 : Hid (Below w.heap.size w w3) := (hbel.alloc hszr _).grown hgrow (by simp; omega) (fun k h => (hown.lt k h).1)
      have HLN : Hid ((D ++ [s.extract d s.size]).length = M + 1) := by show _ = _; rw [List.length_append, HM.out]; rfl
      have HW : Hid (w3.ownsRow w.heap.size 9 1 (.slice (some ⟨g', 0, none⟩) (M + 1) cap') (M + 1) ((D ++ [s.extract d s.size]).map Value.string)) := by
        show World.ownsRow _ _ _ _ _ _ _
        rw [List.map_append]
        exact hown'
      clear hown' hgrow hnil hown hbel
      go_wp2
      go_ret
      exact ⟨g', cap', by rw [HC2.out, HLN.out]; rfl, by rw [HC2.out, HLN.out]; exact HW.out, HB3.out⟩
end Go.Proofs.YtijiohdddfdjfaaDoor
