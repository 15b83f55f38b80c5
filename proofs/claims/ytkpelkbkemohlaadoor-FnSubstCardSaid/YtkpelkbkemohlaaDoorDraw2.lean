/- The model's cursor: environments; the draw of LevelEval. -/
import Derived.Test.YtkpelkbkemohlaaDoorFnPar
namespace Go.Proofs.YtkpelkbkemohlaaDoor
open Go.RowKit

set_option maxRecDepth 100000 in
set_option maxHeartbeats 2000000 in
theorem env_any (w : World) (bc : Nat) (A : Option Addr) (n c K : Nat) (hc : Cur w bc A n c K) (hK : K ≤ 700000) (hn : n ≤ 1048576) :
    Calls Tryd.prog 87 #[.pointer (some ⟨bc, 0, none⟩)] w fun e w' => ∃ g cap env, e = .returned (.slice (some ⟨g, 0, none⟩) 5 cap) ∧ env.length = 5 ∧ OwnI w' w.heap.size (some ⟨g, 0, none⟩) 5 cap env ∧ Cur w' bc A n c (K + 6) ∧ Kp bc w w' := by
  obtain ⟨i0, hi, hz0, hz1, hz2⟩ := info_parts info_int
  have hlt := hc.lt
  have ho0 : OwnI (w.alloc (.cells #[] 3)) w.heap.size (some ⟨w.heap.size, 0, none⟩) 0 0 [] := World.ownsRow_made w #[] 0 (Nat.le_refl _) (by simp [maxLen]) (by simp)
  have HO0 := Lib.hid ho0
  clear ho0
  go_enter Tryd.func87, Tryd.ntmps87
  go_wp2_with fail
  refine (pick_any _ bc A n c K 3 ((hc.alloc _).alloc _) (by omega) (by omega) hn).mono ?_
  rintro e w1 ⟨r, rfl, hr, hc1, hk1⟩
  have hbk := Kp.blk (Blk.made (w.alloc (.cells #[] 3)) _ _) hk1 (by simp; omega)
  rw [World.size_alloc] at hbk
  obtain ⟨m, hm, hu⟩ : ∃ m : Nat, m ≤ 9 ∧ w1.cell? ⟨w.heap.size + 1, r, none⟩ = some (.int .i64 m) := by
    rcases (show r = 0 ∨ r = 1 ∨ r = 2 by omega) with rfl | rfl | rfl
    · exact ⟨2, by omega, hbk.cell 0⟩
    · exact ⟨3, by omega, hbk.cell 1⟩
    · exact ⟨9, by omega, hbk.cell 2⟩
  have hr3 : r < 3 := by omega
  have HO1 := Lib.hid (Kp.own (HO0.out.alloc _) hk1 (by omega))
  have HK1 := Lib.hid ((((Kp.refl bc w).alloc _).alloc _).trans hk1)
  clear hbk hk1 HO0 hc hr
  go_wp2
  go_loopw [3, 5] (fun v i wr => ∃ (k g cap : Nat) (env : List Int), k ≤ 5 ∧ i = .int .i64 k ∧ v = .slice (some ⟨g, 0, none⟩) k cap ∧ env.length = k ∧ OwnI wr w.heap.size (some ⟨g, 0, none⟩) k cap env ∧ Cur wr bc A n c (K + 1 + k) ∧ Kp bc w wr) (fun _ i _ => 5 - (intOf i).toNat)
  case atStart => exact ⟨0, _, 0, [], by omega, rfl, rfl, rfl, HO1.out, hc1, HK1.out⟩
  case round =>
    obtain ⟨k, g, cap, env, hk, rfl, rfl, hel, hown, hcr, hkr⟩ := hrel
    have hszr := hkr.size
    by_cases hk5 : k < 5
    · have hk5' : (k : Int) < 5 := by omega
      go_wp2_with fail
      refine (pick_any wr bc A n c _ m hcr (by omega) (by omega) hn).mono ?_
      rintro e w2 ⟨x, rfl, hx, hc2, hk2⟩
      have ho2 := Kp.own hown hk2 (by omega)
      have hk02 := hkr.trans hk2
      have hs2 := hk02.size
      clear hown hcr hkr hk2
      go_wp2_with (at_builtin; refine wpList_append_own _ rfl (.tmp 16) (.tmp 20) 27 rfl w.heap.size 3 i0 (.int .i64 0) 1 8 Tryd.underlying27 hi hz0 hz1 hz2 rfl (by decide) (.slice (some ⟨g, 0, none⟩) k cap) k (env.map (Value.int .i64)) rfl (ho2.alloc _) ⟨w2.heap.size, 0, none⟩ 1 1 [.int .i64 x] rfl rfl (cell_one_new _ _ _) (fun u hu => by simp at hu; subst hu; rfl) (by unfold maxLen; omega) (by omega) (by simp; omega) ?_; intro v' w3 hown' hgrow hnil)
      obtain ⟨g2, cap2, rfl⟩ : ∃ g' cap', v' = .slice (some ⟨g', 0, none⟩) (k + 1) cap' := by
        rcases hown'.2 with ⟨h0, _⟩ | ⟨g', cap', _, h0, _⟩
        · have := (hnil.1 h0).1
          cases this
        · exact ⟨g', cap', h0⟩
      have HW : Hid (OwnI w3 w.heap.size (some ⟨g2, 0, none⟩) (k + 1) cap2 (env ++ [(x : Int)])) := by
        show OwnI _ _ _ _ _ _
        simpa [OwnI] using hown'
      have HC := Lib.hid ((hc2.alloc _).grown hgrow (fun k h => by have := (ho2.lt k h).1; omega))
      have HK := Lib.hid ((hk02.alloc _).more hgrow (fun k h => (ho2.lt k h).1))
      clear hown' hgrow hnil ho2 hc2 hk02
      go_wp2
      go_roundw
      case rel => exact ⟨k + 1, g2, cap2, env ++ [(x : Int)], by omega, by go_num, rfl, by simp [hel], HW.out, HC.out.more (by omega), HK.out⟩
      case measure => simp [intOf]; omega
    · obtain rfl : k = 5 := by omega
      go_wp2
      go_ret
      exact ⟨g, cap, env, rfl, hel, hown, hcr.more (by omega), hkr⟩

set_option maxRecDepth 100000 in
set_option maxHeartbeats 2000000 in
theorem badEnv_any (w : World) (bc : Nat) (A : Option Addr) (n c K : Nat) (hc : Cur w bc A n c K) (hK : K ≤ 600000) (hn : n ≤ 1048576) :
    Calls Tryd.prog 71 #[.pointer (some ⟨bc, 0, none⟩)] w fun e w' => ∃ A' n' c', e = .returned (.slice A' n' c') ∧ Kp bc w w' := by
  have hlt := hc.lt
  go_enter Tryd.func71, Tryd.ntmps71
  go_wp2_with fail
  refine (env_any w bc A n c K hc (by omega) hn).mono ?_
  rintro e w1 ⟨g, cap, env, rfl, hel, ho1, hc1, hk1⟩
  have hg := (ho1.lt g rfl).1
  have hcap : 5 ≤ cap := by
    rcases ho1.2 with ⟨h0, _⟩ | ⟨g', cap', cur, hv, _, _, hnc, _⟩
    · cases h0
    · injection hv with _ _ hv3
      omega
  go_wp2_with fail
  refine (pick_any w1 bc A n c _ 12 hc1 (by omega) (by omega) hn).mono ?_
  rintro e w2 ⟨r, rfl, hr, hc2, hk2⟩
  have ho2 := Lib.hid (Kp.own ho1 hk2 (by omega))
  have hk02 := hk1.trans hk2
  clear hc hk1 hk2 hc1 ho1
  by_cases r0 : r = 0
  · subst r0
    go_wp2_with fail
    refine (pick_any w2 bc A n c _ 5 hc2 (by omega) (by omega) hn).mono ?_
    rintro e w4 ⟨i, rfl, hi4, hc4, hk4⟩
    have hi1 : i < 5 := by omega
    have ho4 := Lib.hid (Kp.own ho2.out hk4 (by omega))
    have hk04 := hk02.trans hk4
    clear hk4 hc2 hk02 ho2 hi4
    go_wp2_with fail
    refine (raw_any w4 bc A n c _ hc4 (by omega) hn).mono ?_
    rintro e w5 ⟨v, rfl, hc5, hk5⟩
    have ho5 := Lib.hid (Kp.own ho4.out hk5 (by omega))
    have hk05 := hk04.trans hk5
    have hs5 := hk05.size
    clear hk5 hc4 hk04 ho4
    go_wp2_with fail
    refine (pick_any _ bc A n c _ 3 (hc5.alloc _) (by omega) (by omega) hn).mono ?_
    rintro e w6 ⟨j, rfl, hj, hc6, hk6⟩
    have hbk := Kp.blk (Blk.made w5 _ _) hk6 (by omega)
    obtain ⟨u, hu⟩ : ∃ u, w6.cell? ⟨w5.heap.size, j, none⟩ = some (.int .i64 u) := by
      rcases (show j = 0 ∨ j = 1 ∨ j = 2 by omega) with rfl | rfl | rfl <;> exact ⟨_, hbk.cell _⟩
    have hj1 : j < 3 := by omega
    have ho6 := Kp.own (ho5.out.alloc _) hk6 (by omega)
    have hk06 := (hk05.alloc _).trans hk6
    obtain ⟨e6, f6⟩ := ownI_spot (i := i) ho6 hi1
    have HK := Lib.hid (hk06.more (Kp.put w6 g i (.int .i64 u)) (fun k h => by injection h with h; omega))
    clear hbk hk6 hc6 ho6 ho5 hk06 hk05 hc5 hj
    go_wp2
    go_ret
    exact ⟨_, _, _, rfl, HK.out⟩
  · by_cases r1 : r = 1
    · subst r1
      go_wp2
      go_ret
      exact ⟨_, _, _, rfl, hk02⟩
    · have e0 : ¬ ((r : Int) = 0) := by omega
      have e1 : ¬ ((r : Int) = 1) := by omega
      go_wp2
      go_ret
      exact ⟨_, _, _, rfl, hk02⟩

set_option maxHeartbeats 800000 in
theorem drawEval_any (w : World) (B : Nat) (A : Option Addr) (n c : Nat) (hB : B ≤ w.heap.size) (hb : BytR w B A n) (hn : n ≤ 1048576) :
    Calls Tryd.prog 34 #[.slice A n c] w fun e w' => ∃ g cap l A' n' c', e = .returned (.tuple #[.slice (some ⟨g, 0, none⟩) l.length cap, .slice A' n' c']) ∧ 1 ≤ l.length ∧ l.length ≤ 25 ∧ OwnT w' w.heap.size (some ⟨g, 0, none⟩) l.length cap l ∧ Below w.heap.size w w' := by
  go_enter Tryd.func34, Tryd.ntmps34
  go_wp2_with fail
  refine (open_any w B A n c hB hb hn).mono ?_
  rintro e w1 ⟨rfl, hb1, hc1⟩
  have hs1 := hb1.size
  have hlt := hc1.lt
  go_wp2_with fail
  refine (badLevel_any w1 w.heap.size A n c 0 hc1 (by omega) hn).mono ?_
  rintro e w2 ⟨g, cap, l, rfl, h1, h2, ho, hc2, hk2⟩
  clear hc1
  go_wp2_with fail
  refine (badEnv_any w2 w.heap.size A n c _ hc2 (by omega) hn).mono ?_
  rintro e w3 ⟨A', n', c', rfl, hk3⟩
  have hk13 := hk2.trans hk3
  have HB3 := Lib.hid (Kp.below hb1 hk13 (Nat.le_refl _) hs1)
  have HO3 := Lib.hid (own_base (base' := w.heap.size) (Kp.own ho hk3 (by omega)) hs1)
  clear hc2 hk2 hk3 hk13 ho
  go_wp2
  go_ret2
  exact ⟨g, cap, l, A', n', c', rfl, h1, h2, HO3.out, HB3.out⟩
end Go.Proofs.YtkpelkbkemohlaaDoor
