/- LevelSubst of the reference model. -/
import Derived.Test.YtkpelkbkemohlaaDoorSubst
namespace Go.Proofs.YtkpelkbkemohlaaDoor
open Go.RowKit

set_option maxRecDepth 100000 in
set_option maxHeartbeats 2000000 in
theorem specSubst_any (w : World) (B : Nat) (A : Option Addr) (n c : Nat) (l : List (Int × Int)) (A2 : Option Addr) (n2 c2 : Nat) (ls : List (List (Int × Int))) (hB : B ≤ w.heap.size)
    (hl : TokR w B A n l) (hn : n ≤ 1048576) (hl2 : LvlR w B A2 n2 ls) (hm : bulk ls ≤ 1048576) :
    Calls Tryd.prog 27 #[.slice A n c, .slice A2 n2 c2] w (ResP w (substR l ls)) := by
  obtain ⟨i0, hi, hz0, hz1, hz2⟩ := info_parts info_tok
  have hn2 : n2 ≤ 1048576 := by have := hl2.1; unfold bulk at hm; omega
  have hb0 : Below w.heap.size w (w.alloc (.cells #[] 80)) := (Below.refl _ _).alloc (Nat.le_refl _) _
  have hl0 := hl.below (hb0.mono hB)
  cases hok : Lv.levelOk l with
  | false =>
    have HO := Lib.hid hok
    have HP : Hid (substR l ls = none) := by show _ = _; rw [substR, if_neg (fun h => by rw [hok] at h; exact absurd h.1 (by decide))]
    clear hok
    go_enter Tryd.func27, Tryd.ntmps27
    go_wp2_with fail
    refine (specOk_any _ B A n c l (by simp; omega) hl0 (by omega)).mono ?_
    rintro e w1 ⟨rfl, hb1⟩
    rw [HO.out]
    go_wp2
    go_ret2
    rw [HP.out]
    exact resP_none (hb0.trans (hb1.mono (by simp)))
  | true =>
    have HO := Lib.hid hok
    obtain ⟨hn1, hn24⟩ := level_len hok hl.1
    have hll := hl.1
    have hll2 := hl2.1
    clear hok
    have ho0 : OwnT (w.alloc (.cells #[] 80)) w.heap.size (some ⟨w.heap.size, 0, none⟩) 0 0 [] := World.ownsRow_made w #[] 0 (Nat.le_refl _) (by simp [maxLen]) (by simp)
    have HO0 := Lib.hid ho0
    clear ho0
    go_enter Tryd.func27, Tryd.ntmps27
    go_wp2_with fail
    refine (specOk_any _ B A n c l (by simp; omega) hl0 (by omega)).mono ?_
    rintro e w1 ⟨rfl, hb1⟩
    rw [HO.out]
    have HO1 := Lib.hid (own_below' HO0.out hb1)
    have HB1 := Lib.hid (hb0.trans (hb1.mono (by simp)))
    clear hb0 hb1 hl0 HO0
    go_wp2
    go_loopw [7] (fun i wr => ∃ k : Nat, k ≤ n2 ∧ i = .int .i64 k ∧ (∀ j, j < k → Lv.levelOk (ls.getD j []) = true) ∧ OwnT wr w.heap.size (some ⟨w.heap.size, 0, none⟩) 0 0 [] ∧ Below w.heap.size w wr) (fun i _ => n2 - (intOf i).toNat)
    case atStart => exact ⟨0, Nat.zero_le _, rfl, (fun j hj => absurd hj (by omega)), HO1.out, HB1.out⟩
    case round =>
      obtain ⟨k, hk, rfl, hall, hown, hbel⟩ := hrel
      have HA := Lib.hid hall
      have hszr := hbel.size
      clear hall
      by_cases hlt : k < n2
      · have hlr := hl2.below (hbel.mono hB)
        obtain ⟨b, off, rfl, hb, hc⟩ := hlr.2 (by omega)
        obtain ⟨Ak, nk, ck, c1, t1, _⟩ := hc k hlt
        have hgk := tot_get ls k (by omega)
        rw [t1.1] at hgk
        have hnk : nk ≤ 1048576 := by unfold bulk at hm; omega
        have HT1 := Lib.hid t1
        have HL := Lib.hid hl2
        have HOW := Lib.hid hown
        clear hl2 hlr hc t1 hgk hown
        go_wp2_with fail
        refine (specOk_any wr B Ak nk ck (ls.getD k []) (by omega) HT1.out (by omega)).mono ?_
        rintro e w2 ⟨rfl, hb2⟩
        have hB2 := hbel.trans (hb2.mono hszr)
        have HOW2 := Lib.hid (own_below' HOW.out hb2)
        clear hb2
        cases hok2 : Lv.levelOk (ls.getD k []) with
        | false =>
          have HP : Hid (substR l ls = none) := by show _ = _; rw [substR, if_neg (fun h => by rw [not_all (by omega) hok2] at h; exact absurd h.2 (by decide))]
          clear hok2
          go_wp2
          go_ret2
          rw [HP.out]
          exact resP_none hB2
        | true =>
          have HK := Lib.hid hok2
          clear hok2
          go_wp2
          go_roundw
          case rel =>
            refine ⟨k + 1, by omega, by go_num, fun j hj => ?_, HOW2.out, hB2⟩
            by_cases hjk : j = k
            · subst hjk; exact HK.out
            · exact HA.out j (by omega)
          case measure => simp [intOf]; omega
      · obtain rfl : k = n2 := by omega
        have HO2 := Lib.hid (all_of (ls := ls) (fun j hj => HA.out j (by omega)))
        have HP : Hid (substR l ls = (sub ls l).bind ifR) := by show _ = _; rw [substR, if_pos ⟨HO.out, HO2.out⟩]
        have HOW := Lib.hid hown
        have HBL := Lib.hid hbel
        clear HA hown hbel
        go_wp2
        go_loopw [6, 8] (fun v i wr => ∃ (j : Nat) (a : List (Int × Int)) (A' : Option Addr) (c' : Nat), j ≤ n ∧ i = .int .i64 j ∧ Hid (sub ls (l.take j) = some a) ∧ a.length ≤ j * 24 ∧ v = .slice A' a.length c' ∧ OwnT wr w.heap.size A' a.length c' a ∧ Below w.heap.size w wr) (fun _ i _ => n - (intOf i).toNat)
        case atStart => exact ⟨0, [], some ⟨w.heap.size, 0, none⟩, 0, Nat.zero_le _, rfl, rfl, Nat.zero_le _, rfl, HOW.out, HBL.out⟩
        case round =>
          obtain ⟨j, a, A', c', hj, rfl, hsub, hal, rfl, hown, hbel⟩ := hrel
          have hszr := hbel.size
          by_cases hlt : j < n
          · obtain ⟨b, off, rfl, hb, hc⟩ := hl.2 (by omega)
            obtain ⟨c1, c3⟩ := hc j hlt
            obtain ⟨t, ht⟩ : ∃ t, l.getD j (0, 0) = t := ⟨_, rfl⟩
            rw [ht] at c1 c3
            obtain ⟨op, N⟩ := t
            have HT := Lib.hid ht
            have htk := ok_tk HO.out (by omega) ht
            obtain ⟨hN0, hN5⟩ := htk
            have k1 := (hbel.cell (p := ⟨b, off + j * 2, none⟩) (by show b < _; omega)).trans c1
            have k2 := (hbel.cell (p := ⟨b, off + j * 2 + 1, none⟩) (by show b < _; omega)).trans c3
            have HL := Lib.hid hl
            clear c1 c3 hc ht hl
            by_cases e4 : op = 4
            · subst e4
              by_cases hNn : N < (k : Int)
              · obtain ⟨m, rfl⟩ := Int.eq_ofNat_of_zero_le hN0
                have hmn : m < k := by omega
                have HPC : Hid (piece ls (4, (m : Int)) = some (ls.getD m [])) := by
                  show _ = _
                  rw [piece, if_pos rfl, if_pos (by rw [hl2.1]; exact hNn)]
                  simp
                have hlr := hl2.below (hbel.mono hB)
                obtain ⟨b2, off2, rfl, hb2, hc2⟩ := hlr.2 (by omega)
                obtain ⟨Am, nm, cm, d1, t1, _⟩ := hc2 m hmn
                obtain ⟨hm1, hm24⟩ := level_len (all_get HO2.out (by rw [hl2.1]; exact hmn)) t1.1
                obtain ⟨q, rfl, hq⟩ := t1.tokA (by omega)
                have hcl := tokCells_len (ls.getD m [])
                rw [t1.1] at hcl
                have HCL := Lib.hid hcl
                have HLN := Lib.hid t1.1
                have HL2 := Lib.hid hl2
                generalize hLm : ls.getD m [] = L at hq HCL HLN HPC
                clear hlr hc2 t1 hcl hl2 hLm
                go_wp2_with (at_builtin; refine wpList_append_own _ rfl (.tmp 32) (.tmp 41) 24 rfl w.heap.size 80 i0 (.agg #[.int .i64 0, .int .i64 0]) 2 16 Tryd.underlying24 hi hz0 hz1 hz2 rfl (by decide) (.slice A' a.length c') a.length (tokCells a) rfl hown q nm cm (tokCells L) rfl HCL.out hq.2 (tokCells_one L) (by unfold maxLen; omega) (by omega) (by omega) ?_; intro v' w3 hown' hgrow _)
                obtain ⟨g', cap', rfl⟩ : ∃ g' cap', v' = .slice (some ⟨g', 0, none⟩) (a.length + nm) cap' := by
                  rcases hown'.2 with ⟨_, h⟩ | ⟨g', cap', _, h, _⟩
                  · omega
                  · exact ⟨g', cap', h⟩
                have HB3 : Hid (Below w.heap.size w w3) := hbel.grown hgrow (by omega) (fun k h => (hown.lt k h).1)
                have HLn : Hid ((a ++ L).length = a.length + nm) := by show _ = _; rw [List.length_append, HLN.out]
                have HW : Hid (OwnT w3 w.heap.size (some ⟨g', 0, none⟩) (a ++ L).length cap' (a ++ L)) := by
                  show OwnT _ _ _ _ _ _
                  rw [HLn.out]
                  unfold OwnT
                  rw [tokCells_append]
                  exact hown'
                have HSU := Lib.hid (sub_take (by omega) hsub.out (by rw [HT.out]; exact HPC.out))
                clear hown' hgrow hown hbel hq
                go_wp2
                go_roundw
                case rel => exact ⟨j + 1, a ++ L, some ⟨g', 0, none⟩, cap', by omega, by go_num, HSU.out, by rw [HLn.out]; omega, by rw [HLn.out], HW.out, HB3.out⟩
                case measure => simp [intOf]; omega
              · have HNo : Hid (sub ls l = none) := by
                  refine sub_none (k := j) (by omega) ?_
                  rw [HT.out, piece, if_pos rfl, if_neg (by rw [hl2.1]; exact hNn)]
                clear hown
                go_wp2
                go_ret2
                rw [HP.out, HNo.out]
                exact resP_none hbel
            · have HPC : Hid (piece ls (op, N) = some [(op, N)]) := by show _ = _; rw [piece, if_neg e4]
              have e4' : (op != 4) = true := by simpa using e4
              have hbb := hbel.alloc hszr (.cells #[.int .i64 op, .int .i64 N] 80)
              clear e4
              go_wp2_with (at_builtin; refine wpList_append_own _ rfl (.tmp 50) (.tmp 55) 24 rfl w.heap.size 80 i0 (.agg #[.int .i64 0, .int .i64 0]) 2 16 Tryd.underlying24 hi hz0 hz1 hz2 rfl (by decide) (.slice A' a.length c') a.length (tokCells a) rfl (hown.alloc _) ⟨wr.heap.size, 0, none⟩ 1 1 (tokCells [(op, N)]) rfl rfl (Blk.tokA2 _ _ _) (tokCells_one _) (by unfold maxLen; omega) (by omega) (by simp; omega) ?_; intro v' w3 hown' hgrow _)
              obtain ⟨g', cap', rfl⟩ : ∃ g' cap', v' = .slice (some ⟨g', 0, none⟩) (a.length + 1) cap' := by
                rcases hown'.2 with ⟨_, h⟩ | ⟨g', cap', _, h, _⟩
                · omega
                · exact ⟨g', cap', h⟩
              have HB3 : Hid (Below w.heap.size w w3) := hbb.grown hgrow (by simp; omega) (fun k h => (hown.lt k h).1)
              have HLn : Hid ((a ++ [(op, N)]).length = a.length + 1) := by show _ = _; simp
              have HW : Hid (OwnT w3 w.heap.size (some ⟨g', 0, none⟩) (a ++ [(op, N)]).length cap' (a ++ [(op, N)])) := by
                show OwnT _ _ _ _ _ _
                rw [HLn.out]
                unfold OwnT
                rw [tokCells_append]
                exact hown'
              have HSU := Lib.hid (sub_take (by omega) hsub.out (by rw [HT.out]; exact HPC.out))
              clear hown' hgrow hown hbel hbb
              go_wp2
              go_roundw
              case rel => exact ⟨j + 1, a ++ [(op, N)], some ⟨g', 0, none⟩, cap', by omega, by go_num, HSU.out, by rw [HLn.out]; omega, by rw [HLn.out], HW.out, HB3.out⟩
              case measure => simp [intOf]; omega
          · obtain rfl : j = n := by omega
            have HSU : Hid (sub ls l = some a) := by
              have h := hsub.out
              rw [List.take_of_length_le (by omega)] at h
              exact h
            have HO3 := Lib.hid hown
            clear hown hsub
            go_wp2_with fail
            refine (l01If_any wr w.heap.size A' a.length c' a (by omega) HO3.out).mono ?_
            rintro e w4 ⟨⟨A4, c4, rfl, ho4⟩, hb4⟩
            have HO4 := Lib.hid ho4
            have HB4 := Lib.hid (hbel.trans (hb4.mono hszr))
            clear ho4 hb4
            go_wp2
            go_ret2
            rw [HP.out, HSU.out]
            exact ⟨A4, c4, rfl, HO4.out, HB4.out⟩
end Go.Proofs.YtkpelkbkemohlaaDoor
