/- LevelSubst of the program and of the reference model. -/
import Derived.Test.YtgebjnoicgmdoaaGreatDoorEvMath

namespace Go.Proofs.YtgebjnoicgmdoaaGreatDoor
open Go.RowKit

theorem level_len {l : List (Int × Int)} {n : Nat} (h : Lv.levelOk l = true) (hn : l.length = n) : 1 ≤ n ∧ n ≤ 24 := by
  simp [Lv.levelOk] at h
  omega

set_option maxRecDepth 100000 in
set_option maxHeartbeats 2000000 in
theorem implSubst_any (w : World) (B : Nat) (A : Option Addr) (n c : Nat) (l : List (Int × Int)) (A2 : Option Addr) (n2 c2 : Nat) (ls : List (List (Int × Int))) (T : TypeId) (pv : Value) (h0 : 1 < B) (hB : B ≤ w.heap.size)
    (hl : TokR w B A n l) (hn : n ≤ 1048576) (hl2 : LvlR w B A2 n2 ls) (hm : bulk ls ≤ 1048576) (hE : ErrAt w T pv) :
    Calls Tryz.prog 30 #[.slice A n c, .slice A2 n2 c2] w (ResP w (substR l ls)) := by
  obtain ⟨i0, hi, hz0, hz1, hz2⟩ := info_parts info_tok
  have hn2 : n2 ≤ 1048576 := by have := hl2.1; unfold bulk at hm; omega
  cases hok : Lv.levelOk l with
  | false =>
    have HO := Lib.hid hok
    have HP : Hid (substR l ls = none) := by show _ = _; rw [substR, if_neg (fun h => by rw [hok] at h; exact absurd h.1 (by decide))]
    clear hok
    go_enter Tryz.func30, Tryz.ntmps30
    go_wp2_with fail
    refine (levelOk_any w B A n c l T pv h0 hB hl (by omega) hE).mono ?_
    rintro e w1 ⟨rfl, hb1⟩
    rw [HO.out]
    go_wp2
    go_ret2
    rw [HP.out]
    exact resP_none hb1
  | true =>
    have HO := Lib.hid hok
    cases hok2 : ls.all Lv.levelOk with
    | false =>
      have HO2 := Lib.hid hok2
      have HP : Hid (substR l ls = none) := by show _ = _; rw [substR, if_neg (fun h => by rw [hok2] at h; exact absurd h.2 (by decide))]
      clear hok hok2
      go_enter Tryz.func30, Tryz.ntmps30
      go_wp2_with fail
      refine (levelOk_any w B A n c l T pv h0 hB hl (by omega) hE).mono ?_
      rintro e w1 ⟨rfl, hb1⟩
      rw [HO.out]
      go_wp2_with fail
      refine (levelsOk_any w1 B A2 n2 c2 ls T pv h0 (Nat.le_trans hB hb1.size) (hl2.below (hb1.mono hB)) hm (hE.below (hb1.mono hB) h0)).mono ?_
      rintro e w2 ⟨rfl, hb2⟩
      rw [HO2.out]
      go_wp2
      go_ret2
      rw [HP.out]
      exact resP_none (hb1.trans (hb2.mono hb1.size))
    | true =>
      have HO2 := Lib.hid hok2
      have HP : Hid (substR l ls = (sub ls l).bind ifR) := by show _ = _; rw [substR, if_pos ⟨hok, hok2⟩]
      obtain ⟨hn1, hn24⟩ := level_len hok hl.1
      have hll := hl.1
      clear hok hok2
      go_enter Tryz.func30, Tryz.ntmps30
      go_wp2_with fail
      refine (levelOk_any w B A n c l T pv h0 hB hl (by omega) hE).mono ?_
      rintro e w1 ⟨rfl, hb1⟩
      rw [HO.out]
      go_wp2_with fail
      refine (levelsOk_any w1 B A2 n2 c2 ls T pv h0 (Nat.le_trans hB hb1.size) (hl2.below (hb1.mono hB)) hm (hE.below (hb1.mono hB) h0)).mono ?_
      rintro e w2 ⟨rfl, hb2⟩
      rw [HO2.out]
      have HB12 := Lib.hid (hb1.trans (hb2.mono hb1.size))
      clear hb1 hb2
      go_wp2
      go_loopw [6, 19] (fun v i wr => ∃ (k : Nat) (a : List (Int × Int)) (A' : Option Addr) (c' : Nat), k ≤ n ∧ i = .int .i64 k ∧ Hid (sub ls (l.take k) = some a) ∧ a.length ≤ k * 24 ∧ v = .slice A' a.length c' ∧ OwnT wr w.heap.size A' a.length c' a ∧ Below w.heap.size w wr) (fun _ i _ => n - (intOf i).toNat)
      case atStart => exact ⟨0, [], none, 0, Nat.zero_le _, rfl, rfl, Nat.zero_le _, rfl, World.ownsRow_nil _ _ _ _, HB12.out⟩
      case round =>
        obtain ⟨k, a, A', c', hk, rfl, hsub, hal, rfl, hown, hbel⟩ := hrel
        have hszr := hbel.size
        by_cases hlt : k < n
        · obtain ⟨b, off, rfl, hb, hc⟩ := hl.2 (by omega)
          obtain ⟨c1, c3⟩ := hc k hlt
          obtain ⟨t, ht⟩ : ∃ t, l.getD k (0, 0) = t := ⟨_, rfl⟩
          rw [ht] at c1 c3
          obtain ⟨op, N⟩ := t
          have HT := Lib.hid ht
          have htk := ok_tk HO.out (by omega) ht
          obtain ⟨hN0, hN5⟩ := htk
          have k1 := (hbel.cell (p := ⟨b, off + k * 2, none⟩) (by show b < _; omega)).trans c1
          have k2 := (hbel.cell (p := ⟨b, off + k * 2 + 1, none⟩) (by show b < _; omega)).trans c3
          have hba := hbel.alloc hszr (.cells #[.int .i64 op, .int .i64 N] 51)
          have hoa : OwnT (wr.alloc (.cells #[.int .i64 op, .int .i64 N] 51)) w.heap.size A' a.length c' a := hown.alloc _
          have HL := Lib.hid hl
          clear c1 c3 hc ht hl
          by_cases e4 : op = 4
          · subst e4
            by_cases hNn : N < (n2 : Int)
            · obtain ⟨m, rfl⟩ := Int.eq_ofNat_of_zero_le hN0
              have hmn : m < n2 := by omega
              have HPC : Hid (piece ls (4, (m : Int)) = some (ls.getD m [])) := by
                show _ = _
                rw [piece, if_pos rfl, if_pos (by rw [hl2.1]; exact hNn)]
                simp
              have hlr := hl2.below (hba.mono hB)
              obtain ⟨b2, off2, rfl, hb2, hc2⟩ := hlr.2 (by omega)
              obtain ⟨Am, nm, cm, d1, t1, _⟩ := hc2 m hmn
              obtain ⟨hm1, hm24⟩ := level_len (all_get HO2.out (by rw [hl2.1]; exact hmn)) t1.1
              obtain ⟨q, rfl, hq⟩ := t1.tokA (by omega)
              have hcl := tokCells_len (ls.getD m [])
              rw [t1.1] at hcl
              have HCL := Lib.hid hcl
              have HLN := Lib.hid t1.1
              have HL2 := Lib.hid hl2
              generalize hLm : ls.getD m [] = L at hq HCL HLN HPC
              clear hlr hc2 t1 hcl hl2 hLm
              go_wp2_with (at_builtin; refine wpList_append_own _ rfl (.tmp 35) (.tmp 41) 25 rfl w.heap.size 51 i0 (.agg #[.int .i64 0, .int .i64 0]) 2 16 Tryz.underlying25 hi hz0 hz1 hz2 rfl (by decide) (.slice A' a.length c') a.length (tokCells a) rfl hoa q nm cm (tokCells L) rfl HCL.out hq.2 (tokCells_one L) (by unfold maxLen; omega) (by omega) (by simp; omega) ?_; intro v' w3 hown' hgrow _)
              obtain ⟨g', cap', rfl⟩ : ∃ g' cap', v' = .slice (some ⟨g', 0, none⟩) (a.length + nm) cap' := by
                rcases hown'.2 with ⟨_, h⟩ | ⟨g', cap', _, h, _⟩
                · omega
                · exact ⟨g', cap', h⟩
              have HB3 : Hid (Below w.heap.size w w3) := hba.grown hgrow (by simp; omega) (fun k h => (hown.lt k h).1)
              have HLn : Hid ((a ++ L).length = a.length + nm) := by show _ = _; rw [List.length_append, HLN.out]
              have HW : Hid (OwnT w3 w.heap.size (some ⟨g', 0, none⟩) (a ++ L).length cap' (a ++ L)) := by
                show OwnT _ _ _ _ _ _
                rw [HLn.out]
                unfold OwnT
                rw [tokCells_append]
                exact hown'
              have HSU := Lib.hid (sub_take (by omega) hsub.out (by rw [HT.out]; exact HPC.out))
              clear hown' hgrow hown hoa hbel hba hq
              go_wp2
              go_roundw
              case rel => exact ⟨k + 1, a ++ L, some ⟨g', 0, none⟩, cap', by omega, by go_num, HSU.out, by rw [HLn.out]; omega, by rw [HLn.out], HW.out, HB3.out⟩
              case measure => simp [intOf]; omega
            · have HNo : Hid (sub ls l = none) := by
                refine sub_none (k := k) (by omega) ?_
                rw [HT.out, piece, if_pos rfl, if_neg (by rw [hl2.1]; exact hNn)]
              clear hown hoa
              go_wp2
              go_ret2
              rw [HP.out, HNo.out]
              exact resP_none hba
          · have HPC : Hid (piece ls (op, N) = some [(op, N)]) := by show _ = _; rw [piece, if_neg e4]
            have e4' : (op != 4) = true := by simpa using e4
            have hbb := hba.alloc (by simp; omega) (.cells #[.int .i64 op, .int .i64 N] 51)
            clear e4
            go_wp2_with (at_builtin; refine wpList_append_own _ rfl (.tmp 26) (.tmp 28) 25 rfl w.heap.size 51 i0 (.agg #[.int .i64 0, .int .i64 0]) 2 16 Tryz.underlying25 hi hz0 hz1 hz2 rfl (by decide) (.slice A' a.length c') a.length (tokCells a) rfl (hoa.alloc _) ⟨wr.heap.size + 1, 0, none⟩ 1 1 (tokCells [(op, N)]) rfl rfl (by have h := Blk.tokA2 (wr.alloc (.cells #[.int .i64 op, .int .i64 N] 51)) op N; rw [World.size_alloc] at h; exact h) (tokCells_one _) (by unfold maxLen; omega) (by omega) (by simp; omega) ?_; intro v' w3 hown' hgrow _)
            obtain ⟨g', cap', rfl⟩ : ∃ g' cap', v' = .slice (some ⟨g', 0, none⟩) (a.length + 1) cap' := by
              rcases hown'.2 with ⟨_, h⟩ | ⟨g', cap', _, h, _⟩
              · omega
              · exact ⟨g', cap', h⟩
            have HB3 : Hid (Below w.heap.size w w3) := hbb.grown hgrow (by simp; omega) (fun k h => (hown.lt k h).1)
            have HLn : Hid ((a ++ [(op, N)]).length = a.length + 1) := by show _ = _; simp
            have HW : Hid (OwnT w3 w.heap.size (some ⟨g', 0, none⟩) (a ++ [(op, N)]).length cap' (a ++ [(op, N)])) := by
              show OwnT _ _ _ _ _ _
              rw [HLn.out]
              unfold OwnT
              rw [tokCells_append]
              exact hown'
            have HSU := Lib.hid (sub_take (by omega) hsub.out (by rw [HT.out]; exact HPC.out))
            clear hown' hgrow hown hoa hbel hba hbb
            go_wp2
            go_roundw
            case rel => exact ⟨k + 1, a ++ [(op, N)], some ⟨g', 0, none⟩, cap', by omega, by go_num, HSU.out, by rw [HLn.out]; omega, by rw [HLn.out], HW.out, HB3.out⟩
            case measure => simp [intOf]; omega
        · obtain rfl : k = n := by omega
          have HSU : Hid (sub ls l = some a) := by
            have h := hsub.out
            rw [List.take_of_length_le (by omega)] at h
            exact h
          have HE := Lib.hid (hE.below (hbel.mono hB) h0)
          have HO3 := Lib.hid hown
          clear hown hsub
          go_wp2_with fail
          refine (checked_any wr w.heap.size A' a.length c' a T pv (by omega) (by omega) HO3.out HE.out).mono ?_
          rintro e w4 ⟨⟨A4, c4, rfl, ho4⟩, hb4⟩
          have HO4 := Lib.hid ho4
          have HB4 := Lib.hid (hbel.trans (hb4.mono hszr))
          clear ho4 hb4
          go_wp2
          go_ret2
          rw [HP.out, HSU.out]
          exact ⟨A4, c4, rfl, HO4.out, HB4.out⟩
end Go.Proofs.YtgebjnoicgmdoaaGreatDoor
