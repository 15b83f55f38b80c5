/- The model's cursor: levels that may be bad. -/
import Derived.Test.YtijiohdddfdjfaaDoorCur3
namespace Go.Proofs.YtijiohdddfdjfaaDoor
open Go.RowKit

theorem tokCells_setC (l : List (Int × Int)) : ∀ (i : Nat) (v : Int), i < l.length →
    tokCells (l.set i (v, (l.getD i (0, 0)).2)) = (tokCells l).set (i * 2) (.int .i64 v) ∧ tokCells (l.set i ((l.getD i (0, 0)).1, v)) = (tokCells l).set (i * 2 + 1) (.int .i64 v) := by
  induction l with
  | nil => intro i v h; simp at h
  | cons t r ih =>
    intro i v h
    cases i with
    | zero => simp [tokCells_cons]
    | succ i =>
      have := ih i v (by simpa using h)
      rw [show (i + 1) * 2 = i * 2 + 1 + 1 by omega]
      simp only [List.set_cons_succ, tokCells_cons, List.getD_cons_succ, this.1, this.2]
      exact ⟨trivial, trivial⟩

theorem own_putC {w : World} {base g n c j : Nat} {l : List (Int × Int)} (h : OwnT w base (some ⟨g, 0, none⟩) n c l) (hj : j < n * 2) (v : Int) :
    ∃ l' : List (Int × Int), l'.length = l.length ∧ OwnT (w.setCell ⟨g, j, none⟩ (.int .i64 v)) base (some ⟨g, 0, none⟩) n c l' := by
  obtain ⟨hlen, hc⟩ := h
  have hl : l.length = n := by rw [tokCells_len] at hlen; omega
  rcases hc with ⟨h0, _⟩ | ⟨g', cap, cur, hv, hb, hh, hnc, hm, hs, ht⟩
  · cases h0
  · injection hv with hv1 hv2 hv3
    injection hv1 with hv1
    injection hv1 with hv1
    subst hv1 hv3
    have hblk : Blk w g 66 cur := hh
    have key : ∀ l' : List (Int × Int), l'.length = n → tokCells l' = (tokCells l).set j (.int .i64 v) → OwnT (w.setCell ⟨g, j, none⟩ (.int .i64 v)) base (some ⟨g, 0, none⟩) n c l' := by
      intro l' hl' ht'
      refine ⟨by rw [tokCells_len, hl'], .inr ⟨g, c, _, rfl, hb, hblk.put j _, hnc, hm, by simp [hs], ?_⟩⟩
      rw [Array.toList_setIfInBounds, List.take_set, ht, ht']
    rcases Nat.mod_two_eq_zero_or_one j with h0 | h0
    · obtain ⟨k, rfl⟩ : ∃ k, j = k * 2 := ⟨j / 2, by omega⟩
      exact ⟨l.set k (v, (l.getD k (0, 0)).2), by simp, key _ (by simp [hl]) (tokCells_setC l k v (by omega)).1⟩
    · obtain ⟨k, rfl⟩ : ∃ k, j = k * 2 + 1 := ⟨j / 2, by omega⟩
      exact ⟨l.set k ((l.getD k (0, 0)).1, v), by simp, key _ (by simp [hl]) (tokCells_setC l k v (by omega)).2⟩
theorem own_spotC {w : World} {base g n c j : Nat} {l : List (Int × Int)} (h : OwnT w base (some ⟨g, 0, none⟩) n c l) (hj : j < n * 2) : (∃ v, w.cell? ⟨g, j, none⟩ = some v) ∧ w.frozen? ⟨g, j, none⟩ = false := by
  obtain ⟨_, hc⟩ := h
  rcases hc with ⟨h0, _⟩ | ⟨g', cap, cur, hv, hb, hh, hnc, hm, hs, ht⟩
  · cases h0
  · injection hv with hv1 hv2 hv3
    injection hv1 with hv1
    injection hv1 with hv1
    subst hv1
    have hblk : Blk w g 66 cur := hh
    have : n * 2 ≤ cap * 2 := Nat.mul_le_mul_right 2 hnc
    exact ⟨⟨_, (hblk.cell j).trans (Array.getElem?_eq_getElem (by omega))⟩, hblk.thawed j⟩
def lenOf : Value → Nat
  | .slice _ n _ => n
  | _ => 0
/-- what a draw gives that may be bad -/
def DrewB (bc : Nat) (A : Option Addr) (n c K : Nat) (w : World) (e : Ending) (w' : World) : Prop :=
  ∃ g cap l, e = .returned (.slice (some ⟨g, 0, none⟩) l.length cap) ∧ 1 ≤ l.length ∧ l.length ≤ 25 ∧ OwnT w' w.heap.size (some ⟨g, 0, none⟩) l.length cap l ∧ Cur w' bc A n c K ∧ Kp bc w w'

set_option maxRecDepth 100000 in
set_option maxHeartbeats 4000000 in
theorem badLevel_any (w : World) (bc : Nat) (A : Option Addr) (n c K : Nat) (hc : Cur w bc A n c K) (hK : K ≤ 700000) (hn : n ≤ 1048576) :
    Calls Tryd.prog 37 #[.pointer (some ⟨bc, 0, none⟩)] w (DrewB bc A n c (K + 200) w) := by
  obtain ⟨i0, hi, hz0, hz1, hz2⟩ := info_parts info_tok
  have hlt := hc.lt
  have hcost : cost 3 = 88 := rfl
  have hlv := level_any bc A n c hn 3 (w.alloc (.cells #[] 66)) K (by omega) (hc.alloc _) (by omega)
  rw [hcost] at hlv
  have ho0 : OwnT (w.alloc (.cells #[] 66)) w.heap.size (some ⟨w.heap.size, 0, none⟩) 0 0 [] := World.ownsRow_made w #[] 0 (Nat.le_refl _) (by simp [maxLen]) (by simp)
  have HO0 := Lib.hid ho0
  clear ho0 hcost
  go_enter Tryd.func37, Tryd.ntmps37
  go_wp2_with fail
  refine hlv.mono ?_
  rintro e w1 ⟨g1, cap1, l1, rfl, h11, h12, ho1, hc1, hk1⟩
  have hs1 := hk1.size
  simp only [World.size_alloc] at hs1
  have ho01 := Lib.hid (Kp.own HO0.out hk1 (by omega))
  have hk01 : Kp bc w w1 := ((Kp.refl bc w).alloc _).trans hk1
  have ha1 : TokA w1 w1.heap.size ⟨g1, 0, none⟩ l1 := OwnT.tokA ho1
  have hcl := tokCells_len l1
  obtain ⟨n1, hn1⟩ : ∃ n1, l1.length = n1 := ⟨_, rfl⟩
  rw [hn1] at hcl h11 h12 ⊢
  have HCL := Lib.hid hcl
  clear hcl HO0 hk1 hlv ho1
  go_wp2_with (at_builtin; refine wpList_append_own _ rfl (.tmp 4) (.tmp 6) 24 rfl w.heap.size 66 i0 (.agg #[.int .i64 0, .int .i64 0]) 2 16 Tryd.underlying24 hi hz0 hz1 hz2 rfl (by decide) (.slice (some ⟨w.heap.size, 0, none⟩) 0 0) 0 (tokCells []) rfl ho01.out ⟨g1, 0, none⟩ n1 cap1 (tokCells l1) rfl HCL.out ha1.2 (tokCells_one l1) (by unfold maxLen; omega) (by omega) (by omega) ?_; intro v' w2 hown' hgrow hnil)
  obtain ⟨g2, cap2, rfl⟩ : ∃ g' cap', v' = .slice (some ⟨g', 0, none⟩) n1 cap' := by
    rcases hown'.2 with ⟨h0, _⟩ | ⟨g', cap', _, h0, _⟩
    · have := (hnil.1 h0).1
      cases this
    · rw [Nat.zero_add] at h0; exact ⟨g', cap', h0⟩
  have ho2 : OwnT w2 w.heap.size (some ⟨g2, 0, none⟩) n1 cap2 l1 := by
    have h := hown'
    rw [tokCells_nil, List.nil_append, Nat.zero_add] at h
    exact h
  have hc2 := hc1.grown hgrow (fun k h => by have h' : w.heap.size = k := (by simpa [Value.ownBlock] using h); omega)
  have hk02 := hk01.more hgrow (fun k h => by have h' : w.heap.size = k := (by simpa [Value.ownBlock] using h); omega)
  have hg2 := (ho2.lt g2 rfl).1
  clear hown' hgrow hnil hc1 hk01 ho01 ha1 HCL
  refine (pick_any w2 bc A n c _ 14 hc2 (by omega) (by omega) hn).mono ?_
  rintro e w3 ⟨r, rfl, hr, hc3, hk3⟩
  have ho3 := Lib.hid (Kp.own ho2 hk3 (by omega))
  have hk03 := hk02.trans hk3
  have hs3 := hk03.size
  clear hk3 hc2 hk02 ho2 hc
  by_cases r0 : r = 0
  · subst r0
    go_wp2_with fail
    refine (pick_any w3 bc A n c _ n1 hc3 (by omega) (by omega) hn).mono ?_
    rintro e w4 ⟨i, rfl, hi4, hc4, hk4⟩
    have hi1 : i < n1 := by omega
    have ho4 := Lib.hid (Kp.own ho3.out hk4 (by omega))
    have hk04 := hk03.trans hk4
    clear hk4 hc3 hk03 ho3 hi4
    go_wp2_with fail
    refine (raw_any w4 bc A n c _ hc4 (by omega) hn).mono ?_
    rintro e w5 ⟨v, rfl, hc5, hk5⟩
    have ho5 := Lib.hid (Kp.own ho4.out hk5 (by omega))
    have hk05 := hk04.trans hk5
    have hs5 := hk05.size
    clear hk5 hc4 hk04 ho4
    go_wp2_with fail
    refine (pick_any _ bc A n c _ 3 (hc5.alloc _) (by omega) (by omega) hn).mono ?_
    rintro e w6 ⟨j, rfl, hj, hc6, hk6⟩
    have hbk := Kp.blk (Blk.made w5 _ _) hk6 (by omega)
    obtain ⟨u, hu⟩ : ∃ u, w6.cell? ⟨w5.heap.size, j, none⟩ = some (.int .i64 u) := by
      rcases (show j = 0 ∨ j = 1 ∨ j = 2 by omega) with rfl | rfl | rfl <;> exact ⟨_, hbk.cell _⟩
    have hj1 : j < 3 := by omega
    have ho6 := Kp.own (ho5.out.alloc _) hk6 (by omega)
    have hk06 := (hk05.alloc _).trans hk6
    obtain ⟨⟨v6, e6⟩, f6⟩ := own_spotC (j := i * 2) ho6 (by omega)
    obtain ⟨l', hl', ho7⟩ := own_putC (j := i * 2) ho6 (by omega) u
    have HO7 := Lib.hid ho7
    have HC := Lib.hid (hc6.grown (Kp.put w6 g2 (i * 2) (.int .i64 u)) (fun k h => by injection h with h; omega))
    have HK := Lib.hid (hk06.more (Kp.put w6 g2 (i * 2) (.int .i64 u)) (fun k h => by injection h with h; omega))
    clear hbk hk6 hc6 ho6 ho5 hk06 hk05 hc5 ho7 hj
    go_wp2
    go_ret
    exact ⟨g2, cap2, l', by rw [hl', hn1]; rfl, by omega, by omega, by rw [hl', hn1]; exact HO7.out, HC.out.more (by omega), HK.out⟩
  · by_cases r1 : r = 1
    · subst r1
      go_wp2_with fail
      refine (pick_any w3 bc A n c _ n1 hc3 (by omega) (by omega) hn).mono ?_
      rintro e w4 ⟨i, rfl, hi4, hc4, hk4⟩
      have hi1 : i < n1 := by omega
      have ho4 := Lib.hid (Kp.own ho3.out hk4 (by omega))
      have hk04 := hk03.trans hk4
      clear hk4 hc3 hk03 ho3 hi4
      go_wp2_with fail
      refine (raw_any w4 bc A n c _ hc4 (by omega) hn).mono ?_
      rintro e w5 ⟨v, rfl, hc5, hk5⟩
      have ho5 := Lib.hid (Kp.own ho4.out hk5 (by omega))
      have hk05 := hk04.trans hk5
      have hs5 := hk05.size
      clear hk5 hc4 hk04 ho4
      go_wp2_with fail
      refine (pick_any _ bc A n c _ 4 (hc5.alloc _) (by omega) (by omega) hn).mono ?_
      rintro e w6 ⟨j, rfl, hj, hc6, hk6⟩
      have hbk := Kp.blk (Blk.made w5 _ _) hk6 (by omega)
      obtain ⟨u, hu⟩ : ∃ u, w6.cell? ⟨w5.heap.size, j, none⟩ = some (.int .i64 u) := by
        rcases (show j = 0 ∨ j = 1 ∨ j = 2 ∨ j = 3 by omega) with rfl | rfl | rfl | rfl <;> exact ⟨_, hbk.cell _⟩
      have hj1 : j < 4 := by omega
      have ho6 := Kp.own (ho5.out.alloc _) hk6 (by omega)
      have hk06 := (hk05.alloc _).trans hk6
      obtain ⟨⟨v6, e6⟩, f6⟩ := own_spotC (j := i * 2 + 1) ho6 (by omega)
      obtain ⟨l', hl', ho7⟩ := own_putC (j := i * 2 + 1) ho6 (by omega) u
      have HO7 := Lib.hid ho7
      have HC := Lib.hid (hc6.grown (Kp.put w6 g2 (i * 2 + 1) (.int .i64 u)) (fun k h => by injection h with h; omega))
      have HK := Lib.hid (hk06.more (Kp.put w6 g2 (i * 2 + 1) (.int .i64 u)) (fun k h => by injection h with h; omega))
      clear hbk hk6 hc6 ho6 ho5 hk06 hk05 hc5 ho7 hj
      go_wp2
      go_ret
      exact ⟨g2, cap2, l', by rw [hl', hn1]; rfl, by omega, by omega, by rw [hl', hn1]; exact HO7.out, HC.out.more (by omega), HK.out⟩
    · have e0 : ¬ ((r : Int) = 0) := by omega
      have e1 : ¬ ((r : Int) = 1) := by omega
      by_cases r2 : r = 2
      · subst r2
        go_wp2_with fail
        refine (pick_any w3 bc A n c _ 5 hc3 (by omega) (by omega) hn).mono ?_
        rintro e w4 ⟨x, rfl, hx, hc4, hk4⟩
        have ho4 := Kp.own ho3.out hk4 (by omega)
        have hk04 := hk03.trans hk4
        have hs4 := hk04.size
        clear hk4 hc3 hk03 ho3
        go_wp2_with (at_builtin; refine wpList_append_own _ rfl (.tmp 44) (.tmp 48) 24 rfl w.heap.size 66 i0 (.agg #[.int .i64 0, .int .i64 0]) 2 16 Tryd.underlying24 hi hz0 hz1 hz2 rfl (by decide) (.slice (some ⟨g2, 0, none⟩) n1 cap2) n1 (tokCells l1) rfl (ho4.alloc _) ⟨w4.heap.size, 0, none⟩ 1 1 (tokCells [((x : Int), 0)]) rfl rfl (Blk.tokA2 _ _ _) (tokCells_one _) (by unfold maxLen; omega) (by omega) (by simp; omega) ?_; intro v' w5 hown' hgrow hnil)
        obtain ⟨g3, cap3, rfl⟩ : ∃ g' cap', v' = .slice (some ⟨g', 0, none⟩) (n1 + 1) cap' := by
          rcases hown'.2 with ⟨h0, _⟩ | ⟨g', cap', _, h0, _⟩
          · have := (hnil.1 h0).1
            cases this
          · exact ⟨g', cap', h0⟩
        have HLn : Hid ((l1 ++ [((x : Int), (0 : Int))]).length = n1 + 1) := by show _ = _; simp [hn1]
        have HW : Hid (OwnT w5 w.heap.size (some ⟨g3, 0, none⟩) (l1 ++ [((x : Int), 0)]).length cap3 (l1 ++ [((x : Int), 0)])) := by
          show OwnT _ _ _ _ _ _
          rw [HLn.out]
          unfold OwnT
          rw [tokCells_append]
          exact hown'
        have HC := Lib.hid ((hc4.alloc _).grown hgrow (fun k h => by have := (ho4.lt k h).1; omega))
        have HK := Lib.hid ((hk04.alloc _).more hgrow (fun k h => (ho4.lt k h).1))
        clear hown' hgrow hnil ho4 hc4 hk04
        go_wp2
        go_ret
        exact ⟨g3, cap3, _, by rw [HLn.out]; rfl, by rw [HLn.out]; omega, by rw [HLn.out]; omega, HW.out, HC.out.more (by omega), HK.out⟩
      · have e2 : ¬ ((r : Int) = 2) := by omega
        by_cases r3 : r = 3
        · subst r3
          have ho3' : OwnT w3 w.heap.size (some ⟨g2, 0, none⟩) l1.length cap2 l1 := by rw [hn1]; exact ho3.out
          have HO3 := Lib.hid ho3'
          clear ho3'
          go_wp2
          go_loopw [3] (fun v wr => ∃ (g cap : Nat) (l : List (Int × Int)), v = .slice (some ⟨g, 0, none⟩) l.length cap ∧ 1 ≤ l.length ∧ l.length ≤ 25 ∧ OwnT wr w.heap.size (some ⟨g, 0, none⟩) l.length cap l ∧ Cur wr bc A n c (K + 100 + l.length) ∧ Kp bc w wr) (fun v _ => 25 - lenOf v)
          case atStart => exact ⟨g2, cap2, l1, by rw [hn1], by omega, by omega, HO3.out, hc3.more (by omega), hk03⟩
          case round =>
            obtain ⟨g, cap, l, rfl, hl1, hl25, hown, hcr, hkr⟩ := hrel
            have hszr := hkr.size
            obtain ⟨L, hL⟩ : ∃ L, l.length = L := ⟨_, rfl⟩
            rw [hL] at hown hl1 hl25 hcr ⊢
            go_wp2_with fail
            refine (pick_any wr bc A n c _ 2 hcr (by omega) (by omega) hn).mono ?_
            rintro e w4 ⟨x, rfl, hx, hc4, hk4⟩
            have ho4 := Kp.own hown hk4 (by omega)
            have hk04 := hkr.trans hk4
            have hs4 := hk04.size
            clear hk4 hcr hkr hown
            by_cases hgo : (L : Int) < 24 + (x : Int)
            · go_wp2_with (at_builtin; refine wpList_append_own _ rfl (.tmp 58) (.tmp 60) 24 rfl w.heap.size 66 i0 (.agg #[.int .i64 0, .int .i64 0]) 2 16 Tryd.underlying24 hi hz0 hz1 hz2 rfl (by decide) (.slice (some ⟨g, 0, none⟩) L cap) L (tokCells l) rfl (ho4.alloc _) ⟨w4.heap.size, 0, none⟩ 1 1 (tokCells [(1, 0)]) rfl rfl (Blk.tokA2 _ _ _) (tokCells_one _) (by unfold maxLen; omega) (by omega) (by simp; omega) ?_; intro v' w5 hown' hgrow hnil)
              obtain ⟨g3, cap3, rfl⟩ : ∃ g' cap', v' = .slice (some ⟨g', 0, none⟩) (L + 1) cap' := by
                rcases hown'.2 with ⟨h0, _⟩ | ⟨g', cap', _, h0, _⟩
                · have := (hnil.1 h0).1
                  cases this
                · exact ⟨g', cap', h0⟩
              have HLn : Hid ((l ++ [((1 : Int), (0 : Int))]).length = L + 1) := by show _ = _; simp [hL]
              have HW : Hid (OwnT w5 w.heap.size (some ⟨g3, 0, none⟩) (l ++ [(1, 0)]).length cap3 (l ++ [(1, 0)])) := by
                show OwnT _ _ _ _ _ _
                rw [HLn.out]
                unfold OwnT
                rw [tokCells_append]
                exact hown'
              have HC := Lib.hid ((hc4.alloc _).grown hgrow (fun k h => by have := (ho4.lt k h).1; omega))
              have HK := Lib.hid ((hk04.alloc _).more hgrow (fun k h => (ho4.lt k h).1))
              clear hown' hgrow hnil ho4 hc4 hk04 hL
              go_wp2
              go_roundw
              case rel => exact ⟨g3, cap3, l ++ [(1, 0)], by rw [HLn.out], by rw [HLn.out]; omega, by rw [HLn.out]; omega, HW.out, by rw [HLn.out]; exact HC.out.more (by omega), HK.out⟩
              case measure => simp [lenOf]; omega
            · have HO4 := Lib.hid ho4
              clear ho4
              go_wp2
              go_ret
              exact ⟨g, cap, l, by rw [hL]; rfl, by omega, by omega, by rw [hL]; exact HO4.out, hc4.more (by omega), hk04⟩
        · have e3 : ¬ ((r : Int) = 3) := by omega
          go_wp2
          go_ret
          exact ⟨g2, cap2, l1, by rw [hn1]; rfl, by omega, by omega, by rw [hn1]; exact ho3.out, hc3.more (by omega), hk03⟩
end Go.Proofs.YtijiohdddfdjfaaDoor
