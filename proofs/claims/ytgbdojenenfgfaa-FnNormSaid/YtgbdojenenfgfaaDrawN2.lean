/- The model's cursor: norms that may be bad. -/
import Derived.Test.YtgbdojenenfgfaaDrawN
namespace Go.Proofs.Ytgbdojenenfgfaa
open Go.RowKit

/-- what a draw of atoms gives -/
def DrewA (lo hi bc : Nat) (A : Option Addr) (n c K : Nat) (w : World) (e : Ending) (w' : World) : Prop :=
  ∃ g cap l, e = .returned (.slice (some ⟨g, 0, none⟩) l.length cap) ∧ lo ≤ l.length ∧ l.length ≤ hi ∧ OwnA w' w.heap.size (some ⟨g, 0, none⟩) l.length cap l ∧ Cur w' bc A n c K ∧ Kp bc w w'

set_option maxRecDepth 100000 in
set_option maxHeartbeats 3200000 in
theorem norm_any (w : World) (bc : Nat) (A : Option Addr) (n c K : Nat) (hc : Cur w bc A n c K) (hK : K ≤ 800000) (hn : n ≤ 1048576) :
    Calls Try.prog 62 #[.pointer (some ⟨bc, 0, none⟩)] w (DrewA 1 6 bc A n c (K + 9) w) := by
  obtain ⟨i0, hi, hz0, hz1, hz2⟩ := info_parts info_atom
  have hlt := hc.lt
  go_enter Try.func62, Try.ntmps62
  go_wp2_with fail
  refine (atom_any w bc A n c K hc (by omega) hn).mono ?_
  rintro e w1 ⟨p, x, rfl, hpx, hc1, hk1⟩
  have hs1 := hk1.size
  have ho1 := own_lit w1 w.heap.size p x hs1
  have hk1a : Kp bc w (w1.alloc (.cells #[.int .i64 p, .int .i64 x] 32)) := hk1.alloc _
  have HAL : Hid (Nm.AllOk [(p, x)]) := Nm.allOk_of_mem (fun a ha => by simp at ha; subst ha; exact (Nm.atOk_iff _).2 (by simp only; omega))
  clear hk1 hc
  go_wp2_with fail
  refine (pick_any _ bc A n c _ 4 (hc1.alloc _) (by omega) (by omega) hn).mono ?_
  rintro e w2 ⟨r, rfl, hr, hc2, hk2⟩
  have hr4 : r ≤ 3 := by omega
  have HO2 := Lib.hid (Kp.own ho1 hk2 (by omega))
  have HK2 := Lib.hid (hk1a.trans hk2)
  have HC2 := Lib.hid hc2
  clear hk2 hc1 hc2 ho1 hk1a hr hpx
  go_wp2
  go_loopw [3, 4] (fun v i wr => ∃ (j g cap : Nat) (m : List (Int × Int)), j ≤ 3 ∧ i = .int .i64 j ∧ v = .slice (some ⟨g, 0, none⟩) m.length cap ∧ 1 ≤ m.length ∧ m.length + j ≤ 4 ∧ Hid (Nm.AllOk m) ∧ OwnA wr w.heap.size (some ⟨g, 0, none⟩) m.length cap m ∧ Cur wr bc A n c (K + 9 - 2 * j) ∧ Kp bc w wr) (fun _ i _ => (intOf i).toNat)
  case atStart => exact ⟨r, w1.heap.size, 1, [(p, x)], hr4, rfl, rfl, by simp, by simp; omega, HAL.out, HO2.out, HC2.out.more (by omega), HK2.out⟩
  case round =>
    obtain ⟨j, g, cap, m, hj, rfl, rfl, hm1, hm4, HA, hown, hcr, hkr⟩ := hrel
    have hsr := hkr.size
    by_cases hj0 : 0 < j
    · have hji : (0 : Int) < (j : Int) := by omega
      obtain ⟨M, hM⟩ : ∃ M, m.length = M := ⟨_, rfl⟩
      rw [hM] at hm1 hm4 hown ⊢
      have HM := Lib.hid hM
      clear hM
      go_wp2_with fail
      refine (atom_any wr bc A n c _ hcr (by omega) hn).mono ?_
      rintro e w3 ⟨p3, x3, rfl, hpx, hc3, hk3⟩
      have ho3 := Kp.own hown hk3 (by omega)
      have hk03 := hkr.trans hk3
      have hs3 := hk03.size
      have HA3 : Hid (Nm.AllOk (m ++ [(p3, x3)])) := HA.out.append (Nm.allOk_of_mem (fun a ha => by simp at ha; subst ha; exact (Nm.atOk_iff _).2 (by simp only; omega)))
      clear hk3 hcr hkr hown hpx
      go_wp2_with (at_builtin; first
        | (refine wpList_append_own _ rfl (.tmp 14) (.tmp 17) 24 rfl w.heap.size 32 i0 (.agg #[.int .i64 0, .int .i64 0]) 2 16 Try.underlying24 hi hz0 hz1 hz2 rfl (by decide) (.slice (some ⟨g, 0, none⟩) M cap) M (tokCells m) rfl (ho3.alloc _) ⟨w3.heap.size, 0, none⟩ 1 1 [.int .i64 p3, .int .i64 x3] rfl rfl (World.news_of_block (cs := #[.int .i64 p3, .int .i64 x3]) (t := 32) (fr := (0, 0)) (heap_alloc_new w3 _)) (by intro v hv; simp at hv; rcases hv with rfl | rfl <;> rfl) (by unfold maxLen; omega) (by omega) (by simp; omega) ?_
           intro v' w4 hown' hgrow _
           obtain ⟨g4, cap4, rfl⟩ : ∃ g' cap', v' = .slice (some ⟨g', 0, none⟩) (M + 1) cap' := by
             rcases hown'.2 with ⟨_, h⟩ | ⟨g', cap', _, h, _⟩
             · omega
             · exact ⟨g', cap', h⟩
           have HLN : Hid ((m ++ [(p3, x3)]).length = M + 1) := by show _ = _; rw [List.length_append, HM.out]; rfl
           have HW4 : Hid (OwnA w4 w.heap.size (some ⟨g4, 0, none⟩) (M + 1) cap4 (m ++ [(p3, x3)])) := by
             show OwnA _ _ _ _ _ _
             unfold OwnA
             rw [tokCells_append]
             exact hown'
           have HC4 := Lib.hid ((hc3.alloc _).grown hgrow (fun k h => by have := (ho3.lt k h).1; omega))
           have HK4 := Lib.hid ((hk03.alloc _).more hgrow (fun k h => (ho3.lt k h).1))
           clear hown' hgrow ho3 hc3 hk03))
      go_wp2
      go_roundw
      case rel => exact ⟨j - 1, g4, cap4, m ++ [(p3, x3)], by omega, by congr 1; omega, by rw [HLN.out], by rw [HLN.out]; omega, by rw [HLN.out]; omega, HA3.out, by rw [HLN.out]; exact HW4.out, HC4.out.more (by omega), HK4.out⟩
      case measure => simp [intOf]; omega
    · obtain rfl : j = 0 := by omega
      have hrd := OwnA.reads hown
      have hnl := Nm.norm_len m
      have hnn : 1 ≤ (Nm.norm m).length := by
        have h := Nm.norm_ne (l := m) (by intro e; rw [e] at hm1; simp at hm1) HA.out
        exact List.length_pos_iff.2 h
      clear hown
      go_wp2_with fail
      refine (specNorm_any wr wr.heap.size _ _ cap m (Nat.le_refl _) hrd (by omega)).mono ?_
      rintro e w5 ⟨g5, cap5, rfl, ho5, hb5⟩
      have HO5 := Lib.hid (own_base ho5 hsr)
      have HC5 := Lib.hid (hcr.below hb5)
      have HK5 := Lib.hid (hkr.trans (Kp.of_below hb5))
      clear ho5 hb5 hrd hcr hkr
      go_wp2
      go_ret
      exact ⟨g5, cap5, Nm.norm m, rfl, hnn, hnl, HO5.out, HC5.out.more (by omega), HK5.out⟩

set_option maxRecDepth 100000 in
set_option maxHeartbeats 4000000 in
theorem badNorm_any (w : World) (bc : Nat) (A : Option Addr) (n c K : Nat) (hc : Cur w bc A n c K) (hK : K ≤ 700000) (hn : n ≤ 1048576) :
    Calls Try.prog 51 #[.pointer (some ⟨bc, 0, none⟩)] w (DrewA 0 7 bc A n c (K + 20) w) := by
  obtain ⟨i0, hi, hz0, hz1, hz2⟩ := info_parts info_atom
  have hlt := hc.lt
  go_enter Try.func51, Try.ntmps51
  go_wp2_with fail
  refine (norm_any w bc A n c K hc (by omega) hn).mono ?_
  rintro e w2 ⟨g2, cap2, l1, rfl, h11, h12, ho2, hc2, hk02⟩
  obtain ⟨n1, hn1⟩ : ∃ n1, l1.length = n1 := ⟨_, rfl⟩
  rw [hn1] at h11 h12 ho2 ⊢
  have hg2 := (ho2.lt g2 rfl).1
  go_wp2_with fail
  refine (pick_any w2 bc A n c _ 12 hc2 (by omega) (by omega) hn).mono ?_
  rintro e w3 ⟨r, rfl, hr, hc3, hk3⟩
  have ho3 := Lib.hid (Kp.own ho2 hk3 (by omega))
  have hk03 := hk02.trans hk3
  have hs3 := hk03.size
  clear hk3 hc2 hk02 ho2 hc
  by_cases r0 : r = 0
  · subst r0
    go_wp2_with fail
    refine (pick_any w3 bc A n c _ n1 hc3 (by omega) (by omega) hn).mono ?_
    rintro e w4 ⟨i, rfl, hi4, hc4, hk4⟩
    have hi1 : i < n1 := by omega
    have hii : (i : Int) < (n1 : Int) := by omega
    have ho4 := Lib.hid (Kp.own ho3.out hk4 (by omega))
    have hk04 := hk03.trans hk4
    clear hk4 hc3 hk03 ho3 hi4
    go_wp2_with fail
    refine (raw_any w4 bc A n c _ hc4 (by omega) hn).mono ?_
    rintro e w5 ⟨v, rfl, hc5, hk5⟩
    have ho5 := Lib.hid (Kp.own ho4.out hk5 (by omega))
    have hk05 := hk04.trans hk5
    have hs5 := hk05.size
    clear hk5 hc4 hk04 ho4
    go_wp2_with fail
    refine (pick_any _ bc A n c _ 4 (hc5.alloc _) (by omega) (by omega) hn).mono ?_
    rintro e w6 ⟨j, rfl, hj, hc6, hk6⟩
    have hbk := Kp.blk (Blk.made w5 _ _) hk6 (by omega)
    obtain ⟨u, hu⟩ : ∃ u, w6.cell? ⟨w5.heap.size, j, none⟩ = some (.int .i64 u) := by
      rcases (show j = 0 ∨ j = 1 ∨ j = 2 ∨ j = 3 by omega) with rfl | rfl | rfl | rfl <;> exact ⟨_, hbk.cell _⟩
    have hj1 : j < 4 := by omega
    have hjj : (j : Int) < 4 := by omega
    have ho6 := Kp.own (ho5.out.alloc _) hk6 (by omega)
    have hk06 := (hk05.alloc _).trans hk6
    obtain ⟨⟨v6, e6⟩, f6⟩ := own_spotA (j := i * 2 + 1) ho6 (by omega)
    obtain ⟨l', hl', ho7⟩ := own_putA (j := i * 2 + 1) ho6 (by omega) u
    have HO7 := Lib.hid ho7
    have HC := Lib.hid (hc6.grown (Kp.put w6 g2 (i * 2 + 1) (.int .i64 u)) (fun k h => by injection h with h; omega))
    have HK := Lib.hid (hk06.more (Kp.put w6 g2 (i * 2 + 1) (.int .i64 u)) (fun k h => by injection h with h; omega))
    clear hbk hk6 hc6 ho6 ho5 hk06 hk05 hc5 ho7 hj
    go_wp2
    go_ret
    exact ⟨g2, cap2, l', by rw [hl', hn1]; rfl, by omega, by omega, by rw [hl', hn1]; exact HO7.out, HC.out.more (by omega), HK.out⟩
  · by_cases r1 : r = 1
    · subst r1
      go_wp2_with fail
      refine (pick_any w3 bc A n c _ n1 hc3 (by omega) (by omega) hn).mono ?_
      rintro e w4 ⟨i, rfl, hi4, hc4, hk4⟩
      have hi1 : i < n1 := by omega
      have hii : (i : Int) < (n1 : Int) := by omega
      have ho4 := Lib.hid (Kp.own ho3.out hk4 (by omega))
      have hk04 := hk03.trans hk4
      clear hk4 hc3 hk03 ho3 hi4
      go_wp2_with fail
      refine (raw_any w4 bc A n c _ hc4 (by omega) hn).mono ?_
      rintro e w5 ⟨v, rfl, hc5, hk5⟩
      have ho5 := Lib.hid (Kp.own ho4.out hk5 (by omega))
      have hk05 := hk04.trans hk5
      have hs5 := hk05.size
      clear hk5 hc4 hk04 ho4
      go_wp2_with fail
      refine (pick_any _ bc A n c _ 4 (hc5.alloc _) (by omega) (by omega) hn).mono ?_
      rintro e w6 ⟨j, rfl, hj, hc6, hk6⟩
      have hbk := Kp.blk (Blk.made w5 _ _) hk6 (by omega)
      obtain ⟨u, hu⟩ : ∃ u, w6.cell? ⟨w5.heap.size, j, none⟩ = some (.int .i64 u) := by
        rcases (show j = 0 ∨ j = 1 ∨ j = 2 ∨ j = 3 by omega) with rfl | rfl | rfl | rfl <;> exact ⟨_, hbk.cell _⟩
      have hj1 : j < 4 := by omega
      have hjj : (j : Int) < 4 := by omega
      have ho6 := Kp.own (ho5.out.alloc _) hk6 (by omega)
      have hk06 := (hk05.alloc _).trans hk6
      obtain ⟨⟨v6, e6⟩, f6⟩ := own_spotA (j := i * 2) ho6 (by omega)
      obtain ⟨l', hl', ho7⟩ := own_putA (j := i * 2) ho6 (by omega) u
      have HO7 := Lib.hid ho7
      have HC := Lib.hid (hc6.grown (Kp.put w6 g2 (i * 2) (.int .i64 u)) (fun k h => by injection h with h; omega))
      have HK := Lib.hid (hk06.more (Kp.put w6 g2 (i * 2) (.int .i64 u)) (fun k h => by injection h with h; omega))
      clear hbk hk6 hc6 ho6 ho5 hk06 hk05 hc5 ho7 hj
      go_wp2
      go_ret
      exact ⟨g2, cap2, l', by rw [hl', hn1]; rfl, by omega, by omega, by rw [hl', hn1]; exact HO7.out, HC.out.more (by omega), HK.out⟩
    · by_cases r2 : r = 2
      · subst r2
        have ho3' := ho3.out
        go_wp2_with fail
        refine (atom_any w3 bc A n c _ hc3 (by omega) hn).mono ?_
        rintro e w4 ⟨p3, x3, rfl, hpx, hc4, hk4⟩
        have ho4 := Kp.own ho3' hk4 (by omega)
        have hk04 := hk03.trans hk4
        have hs4 := hk04.size
        clear hk4 hc3 hk03 ho3 ho3' hpx
        go_wp2_with (at_builtin; first
          | (refine wpList_append_own _ rfl (.tmp 42) (.tmp 45) 24 rfl w.heap.size 32 i0 (.agg #[.int .i64 0, .int .i64 0]) 2 16 Try.underlying24 hi hz0 hz1 hz2 rfl (by decide) (.slice (some ⟨g2, 0, none⟩) n1 cap2) n1 (tokCells l1) rfl (ho4.alloc _) ⟨w4.heap.size, 0, none⟩ 1 1 [.int .i64 p3, .int .i64 x3] rfl rfl (World.news_of_block (cs := #[.int .i64 p3, .int .i64 x3]) (t := 32) (fr := (0, 0)) (heap_alloc_new w4 _)) (by intro v hv; simp at hv; rcases hv with rfl | rfl <;> rfl) (by unfold maxLen; omega) (by omega) (by simp; omega) ?_
             intro v' w5 hown' hgrow _
             obtain ⟨g5, cap5, rfl⟩ : ∃ g' cap', v' = .slice (some ⟨g', 0, none⟩) (n1 + 1) cap' := by
               rcases hown'.2 with ⟨_, h⟩ | ⟨g', cap', _, h, _⟩
               · omega
               · exact ⟨g', cap', h⟩
             have HLN : Hid ((l1 ++ [(p3, x3)]).length = n1 + 1) := by show _ = _; rw [List.length_append, hn1]; rfl
             have HW5 : Hid (OwnA w5 w.heap.size (some ⟨g5, 0, none⟩) (n1 + 1) cap5 (l1 ++ [(p3, x3)])) := by
               show OwnA _ _ _ _ _ _
               unfold OwnA
               rw [tokCells_append]
               exact hown'
             have HC5 := Lib.hid ((hc4.alloc _).grown hgrow (fun k h => by have := (ho4.lt k h).1; omega))
             have HK5 := Lib.hid ((hk04.alloc _).more hgrow (fun k h => (ho4.lt k h).1))
             clear hown' hgrow ho4 hc4 hk04))
        go_wp2
        go_ret
        exact ⟨g5, cap5, l1 ++ [(p3, x3)], by rw [HLN.out]; rfl, by omega, by rw [HLN.out]; omega, by rw [HLN.out]; exact HW5.out, HC5.out.more (by omega), HK5.out⟩
      · by_cases r3 : r = 3
        · subst r3
          have HZ : Hid (OwnA w3 w.heap.size (some ⟨g2, 0, none⟩) 0 cap2 []) := by
            have h := ho3.out
            rcases h.2 with ⟨h0, _⟩ | ⟨g', cap, cur, hv, hb, hh, hnc, hm, hs, ht⟩
            · cases h0
            · injection hv with hv1 hv2 hv3
              injection hv1 with hv1
              injection hv1 with hv1
              subst hv1; subst hv3
              exact ⟨rfl, .inr ⟨g2, cap2, cur, rfl, hb, hh, Nat.zero_le _, hm, hs, rfl⟩⟩
          have HC := Lib.hid hc3
          clear hc3
          go_wp2
          go_ret
          exact ⟨g2, cap2, [], rfl, by simp, by simp, HZ.out, HC.out.more (by omega), hk03⟩
        · have d0 : ((r : Int) == 0) = false := by simp; omega
          have d1 : ((r : Int) == 1) = false := by simp; omega
          have d2 : ((r : Int) == 2) = false := by simp; omega
          have d3 : ((r : Int) == 3) = false := by simp; omega
          have HC := Lib.hid hc3
          clear hc3 r0 r1 r2 r3
          go_wp2
          go_ret
          exact ⟨g2, cap2, l1, by rw [hn1]; rfl, by omega, by omega, by rw [hn1]; exact ho3.out, HC.out.more (by omega), hk03⟩
end Go.Proofs.Ytgbdojenenfgfaa
