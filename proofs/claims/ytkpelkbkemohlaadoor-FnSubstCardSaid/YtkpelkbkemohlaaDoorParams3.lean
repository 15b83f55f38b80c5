/- LevelParams of the reference model. -/
import Derived.Test.YtkpelkbkemohlaaDoorParams2
namespace Go.Proofs.YtkpelkbkemohlaaDoor
open Go.RowKit

set_option maxRecDepth 100000 in
set_option maxHeartbeats 1600000 in
theorem specParams_any (w : World) (B : Nat) (A : Option Addr) (n c : Nat) (l : List (Int × Int)) (hB : B ≤ w.heap.size) (hl : TokR w B A n l) (hn : n ≤ 1048576) :
    Calls Tryd.prog 32 #[.slice A n c] w (ResI w (prms l)) := by
  obtain ⟨i0, hi, hz0, hz1, hz2⟩ := info_parts info_int
  have HS0 : Hid (OwnI (w.alloc (.cells #[] 3)) w.heap.size (some ⟨w.heap.size, 0, none⟩) 0 0 []) := World.ownsRow_made w #[] 0 (Nat.le_refl _) (by simp [maxLen]) (by simp)
  have HB0 : Hid (Below w.heap.size w (w.alloc (.cells #[] 3))) := (Below.refl _ _).alloc (Nat.le_refl _) _
  go_enter Tryd.func32, Tryd.ntmps32
  go_wp2
  go_loopw [3, 4] (fun v i wr => ∃ (k : Nat) (A' : Option Addr) (c' : Nat), k ≤ 5 ∧ i = .int .i64 k ∧ v = .slice A' (prmsTo l k).length c' ∧ OwnI wr w.heap.size A' (prmsTo l k).length c' (prmsTo l k) ∧ Below w.heap.size w wr ∧ (Lv.levelOk l = false → k = 0)) (fun _ i _ => 5 - (intOf i).toNat)
  case atStart => exact ⟨0, some ⟨w.heap.size, 0, none⟩, 0, by omega, rfl, rfl, HS0.out, HB0.out, fun _ => rfl⟩
  case round =>
    obtain ⟨k, A', c', hk, rfl, rfl, hown, hbel, hno⟩ := hrel
    have HNO := Lib.hid hno
    clear hno
    have hpl := prmsTo_len l k
    have hszr := hbel.size
    by_cases hlt : k < 5
    · have hlr : TokR wr B A n l := hl.below (hbel.mono hB)
      have d5 : decide ((k : Int) < 5) = true := by simp; omega
      go_wp2_with fail
      refine (specOk_any wr B A n c l (Nat.le_trans hB hbel.size) hlr (by omega)).mono ?_
      rintro e w2 ⟨rfl, hb2⟩
      have hbel2 : Below w.heap.size w w2 := hbel.trans (hb2.mono hszr)
      have hown2 : OwnI w2 w.heap.size A' (prmsTo l k).length c' (prmsTo l k) := own_below' hown hb2
      have hsz2 := hbel2.size
      have hl2 : TokR w2 B A n l := hl.below (hbel2.mono hB)
      clear hown hb2 hbel hlr
      cases hok : Lv.levelOk l with
      | false =>
        have hk0 := HNO.out hok
        have HP : Hid (prms l = prmsTo l k) := by show _ = _; rw [hk0]; simp [prms, hok, prmsTo]
        clear hok hk0
        go_wp2
        go_ret
        rw [HP.out]
        exact ⟨A', c', rfl, hown2, hbel2⟩
      | true =>
        have HOK := Lib.hid hok
        clear hok
        go_wp2
        go_loop [3, 5] (fun v i => ∃ j : Nat, j ≤ n ∧ i = .int .i64 j ∧ v = .slice A' (prmsTo l k).length c' ∧ Hid (∀ q, q < j → l.getD q (0, 0) ≠ (4, (k : Int)))) (fun _ i => n - (intOf i).toNat)
        case atStart => exact ⟨0, Nat.zero_le _, rfl, rfl, fun q hq => absurd hq (by omega)⟩
        case round =>
          obtain ⟨j, hj, rfl, rfl, HA⟩ := hrel
          by_cases hjn : j < n
          · obtain ⟨b1, off, rfl, hb1, hc⟩ := hl2.2 (by omega)
            obtain ⟨x1, x2⟩ := hc j hjn
            obtain ⟨t, ht⟩ : ∃ t, l.getD j (0, 0) = t := ⟨_, rfl⟩
            rw [ht] at x1 x2
            obtain ⟨p, q⟩ := t
            have HT := Lib.hid ht
            have HL := Lib.hid hl.1
            clear hc ht hl hl2
            by_cases heq : (p, q) = (4, (k : Int))
            · injection heq with e1 e2
              subst e1; subst e2
              have hm : (4, (k : Int)) ∈ l := mem_getD (by rw [HL.out]; exact hjn) HT.out
              have HS := Lib.hid (prmsTo_yes hm)
              clear hm
              go_wp2_with (at_builtin; refine wpList_append_own _ rfl (.tmp 28) (.tmp 30) 27 rfl w.heap.size 3 i0 (.int .i64 0) 1 8 Tryd.underlying27 hi hz0 hz1 hz2 rfl (by decide) (.slice A' (prmsTo l k).length c') (prmsTo l k).length ((prmsTo l k).map (Value.int .i64)) rfl (hown2.alloc _) ⟨w2.heap.size, 0, none⟩ 1 1 [.int .i64 k] rfl rfl (cell_one_new _ _ _) (fun u hu => by simp at hu; subst hu; rfl) (by unfold maxLen; omega) (by omega) (by simp; omega) ?_; intro v' w3 hown' hgrow _)
              · obtain ⟨g, cap', rfl⟩ : ∃ g cap', v' = .slice (some ⟨g, 0, none⟩) ((prmsTo l k).length + 1) cap' := by
                  rcases hown'.2 with ⟨_, h⟩ | ⟨g, cap', _, h, _⟩
                  · omega
                  · exact ⟨g, cap', h⟩
                have HB1 : Hid (Below w.heap.size w w3) := (hbel2.alloc hsz2 _).grown hgrow (by simp; omega) (fun k h => (hown2.lt k h).1)
                have HW : Hid (OwnI w3 w.heap.size (some ⟨g, 0, none⟩) (prmsTo l (k + 1)).length cap' (prmsTo l (k + 1))) := by
                  show OwnI _ _ _ _ _ _
                  rw [HS.out]
                  simpa [OwnI] using hown'
                have HLn : Hid ((prmsTo l (k + 1)).length = (prmsTo l k).length + 1) := by show _ = _; rw [HS.out]; simp
                clear hown2 hown' hgrow hbel2
                go_wp2
                go_roundw
                case rel => exact ⟨k + 1, some ⟨g, 0, none⟩, cap', by omega, by go_num, by rw [HLn.out], HW.out, HB1.out, fun h => by rw [HOK.out] at h; cases h⟩
                case measure => simp [intOf]; omega
            · have HA2 : Hid (∀ q, q < j + 1 → l.getD q (0, 0) ≠ (4, (k : Int))) := by
                intro i hi
                by_cases e : i = j
                · subst e; rw [HT.out]; exact heq
                · exact HA.out i (by omega)
              by_cases e1 : p = 4
              · subst e1
                have e2 : (q == (k : Int)) = false := by
                  rw [beq_eq_false_iff_ne]
                  intro h
                  apply heq
                  rw [h]
                clear heq
                go_wp2
                go_round
                case rel => exact ⟨j + 1, by omega, by go_num, rfl, HA2.out⟩
                case measure => simp [intOf]; omega
              · have e2 : (p == 4) = false := by simpa using e1
                clear heq e1
                go_wp2
                go_round
                case rel => exact ⟨j + 1, by omega, by go_num, rfl, HA2.out⟩
                case measure => simp [intOf]; omega
          · obtain rfl : j = n := by omega
            have hm : (4, (k : Int)) ∉ l := not_mem_of (by rw [hl.1]; exact HA.out)
            have HS := Lib.hid (prmsTo_no hm)
            clear hm hl hl2
            go_wp2
            go_roundw
            case rel => exact ⟨k + 1, A', c', by omega, by go_num, by rw [HS.out], by rw [HS.out]; exact hown2, hbel2, fun h => by rw [HOK.out] at h; cases h⟩
            case measure => simp [intOf]; omega
    · obtain rfl : k = 5 := by omega
      have HP : Hid (prms l = prmsTo l 5) := by
        show _ = _
        cases hok : Lv.levelOk l with
        | true => simp [prms, hok]
        | false => have := HNO.out hok; omega
      go_wp2
      go_ret
      rw [HP.out]
      exact ⟨A', c', rfl, hown, hbel⟩
end Go.Proofs.YtkpelkbkemohlaaDoor
