/- The model's cursor: levels that may be bad. -/
/- What the laws draw: a number, an environment, a copy; the draw of LevelParams. -/
import Derived.Test.YtfmhmnpmdjpmeaaDoorCur3
import Derived.Test.YtfmhmnpmdjpmeaaDoorCsMath3

namespace Go.Proofs.YtfmhmnpmdjpmeaaDoor
open Go.RowKit

theorem tokCells_setC (l : List (Int × Int)) : ∀ (i : Nat) (v : Int), i < l.length →
    tokCells (l.set i (v, (l.getD i (0, 0)).2)) = (tokCells l).set (i * 2) (.int .i64 v) ∧ tokCells (l.set i ((l.getD i (0, 0)).1, v)) = (tokCells l).set (i * 2 + 1) (.int .i64 v) := by
  induction l with
  | nil => intro i v h; simp at h
  | cons t r ih =>
    intro i v h
    cases i with
    | zero => simp [tokCells_cons]
    | succ i =>
      have := ih i v (by simpa using h)
      rw [show (i + 1) * 2 = i * 2 + 1 + 1 by omega]
      simp only [List.set_cons_succ, tokCells_cons, List.getD_cons_succ, this.1, this.2]
      exact ⟨trivial, trivial⟩

theorem own_putC {w : World} {base g n c j : Nat} {l : List (Int × Int)} (h : OwnT w base (some ⟨g, 0, none⟩) n c l) (hj : j < n * 2) (v : Int) :
    ∃ l' : List (Int × Int), l'.length = l.length ∧ OwnT (w.setCell ⟨g, j, none⟩ (.int .i64 v)) base (some ⟨g, 0, none⟩) n c l' := by
  obtain ⟨hlen, hc⟩ := h
  have hl : l.length = n := by rw [tokCells_len] at hlen; omega
  rcases hc with ⟨h0, _⟩ | ⟨g', cap, cur, hv, hb, hh, hnc, hm, hs, ht⟩
  · cases h0
  · injection hv with hv1 hv2 hv3
    injection hv1 with hv1
    injection hv1 with hv1
    subst hv1 hv3
    have hblk : Blk w g 70 cur := hh
    have key : ∀ l' : List (Int × Int), l'.length = n → tokCells l' = (tokCells l).set j (.int .i64 v) → OwnT (w.setCell ⟨g, j, none⟩ (.int .i64 v)) base (some ⟨g, 0, none⟩) n c l' := by
      intro l' hl' ht'
      refine ⟨by rw [tokCells_len, hl'], .inr ⟨g, c, _, rfl, hb, hblk.put j _, hnc, hm, by simp [hs], ?_⟩⟩
      rw [Array.toList_setIfInBounds, List.take_set, ht, ht']
    rcases Nat.mod_two_eq_zero_or_one j with h0 | h0
    · obtain ⟨k, rfl⟩ : ∃ k, j = k * 2 := ⟨j / 2, by omega⟩
      exact ⟨l.set k (v, (l.getD k (0, 0)).2), by simp, key _ (by simp [hl]) (tokCells_setC l k v (by omega)).1⟩
    · obtain ⟨k, rfl⟩ : ∃ k, j = k * 2 + 1 := ⟨j / 2, by omega⟩
      exact ⟨l.set k ((l.getD k (0, 0)).1, v), by simp, key _ (by simp [hl]) (tokCells_setC l k v (by omega)).2⟩
theorem own_spotC {w : World} {base g n c j : Nat} {l : List (Int × Int)} (h : OwnT w base (some ⟨g, 0, none⟩) n c l) (hj : j < n * 2) : (∃ v, w.cell? ⟨g, j, none⟩ = some v) ∧ w.frozen? ⟨g, j, none⟩ = false := by
  obtain ⟨_, hc⟩ := h
  rcases hc with ⟨h0, _⟩ | ⟨g', cap, cur, hv, hb, hh, hnc, hm, hs, ht⟩
  · cases h0
  · injection hv with hv1 hv2 hv3
    injection hv1 with hv1
    injection hv1 with hv1
    subst hv1
    have hblk : Blk w g 70 cur := hh
    have : n * 2 ≤ cap * 2 := Nat.mul_le_mul_right 2 hnc
    exact ⟨⟨_, (hblk.cell j).trans (Array.getElem?_eq_getElem (by omega))⟩, hblk.thawed j⟩
def lenOf : Value → Nat
  | .slice _ n _ => n
  | _ => 0
/-- what a draw gives that may be bad -/
def DrewB (bc : Nat) (A : Option Addr) (n c K : Nat) (w : World) (e : Ending) (w' : World) : Prop :=
  ∃ g cap l, e = .returned (.slice (some ⟨g, 0, none⟩) l.length cap) ∧ 1 ≤ l.length ∧ l.length ≤ 25 ∧ OwnT w' w.heap.size (some ⟨g, 0, none⟩) l.length cap l ∧ Cur w' bc A n c K ∧ Kp bc w w'

set_option maxRecDepth 100000 in
set_option maxHeartbeats 4000000 in
theorem badLevel_any (w : World) (bc : Nat) (A : Option Addr) (n c K : Nat) (hc : Cur w bc A n c K) (hK : K ≤ 700000) (hn : n ≤ 1048576) :
    Calls Tryd.prog 75 #[.pointer (some ⟨bc, 0, none⟩)] w (DrewB bc A n c (K + 200) w) := by
  obtain ⟨i0, hi, hz0, hz1, hz2⟩ := info_parts info_tok
  have hlt := hc.lt
  have hcost : cost 3 = 88 := rfl
  have hlv := level_any bc A n c hn 3 (w.alloc (.cells #[] 70)) K (by omega) (hc.alloc _) (by omega)
  rw [hcost] at hlv
  have ho0 : OwnT (w.alloc (.cells #[] 70)) w.heap.size (some ⟨w.heap.size, 0, none⟩) 0 0 [] := World.ownsRow_made w #[] 0 (Nat.le_refl _) (by simp [maxLen]) (by simp)
  have HO0 := Lib.hid ho0
  clear ho0 hcost
  go_enter Tryd.func75, Tryd.ntmps75
  go_wp2_with fail
  refine hlv.mono ?_
  rintro e w1 ⟨g1, cap1, l1, rfl, h11, h12, ho1, hc1, hk1⟩
  have hs1 := hk1.size
  simp only [World.size_alloc] at hs1
  have ho01 := Lib.hid (Kp.own HO0.out hk1 (by omega))
  have hk01 : Kp bc w w1 := ((Kp.refl bc w).alloc _).trans hk1
  have ha1 : TokA w1 w1.heap.size ⟨g1, 0, none⟩ l1 := OwnT.tokA ho1
  have hcl := tokCells_len l1
  obtain ⟨n1, hn1⟩ : ∃ n1, l1.length = n1 := ⟨_, rfl⟩
  rw [hn1] at hcl h11 h12 ⊢
  have HCL := Lib.hid hcl
  clear hcl HO0 hk1 hlv ho1
  go_wp2_with (at_builtin; refine wpList_append_own _ rfl (.tmp 4) (.tmp 6) 30 rfl w.heap.size 70 i0 (.agg #[.int .i64 0, .int .i64 0]) 2 16 Tryd.underlying30 hi hz0 hz1 hz2 rfl (by decide) (.slice (some ⟨w.heap.size, 0, none⟩) 0 0) 0 (tokCells []) rfl ho01.out ⟨g1, 0, none⟩ n1 cap1 (tokCells l1) rfl HCL.out ha1.2 (tokCells_one l1) (by unfold maxLen; omega) (by omega) (by omega) ?_; intro v' w2 hown' hgrow hnil)
  obtain ⟨g2, cap2, rfl⟩ : ∃ g' cap', v' = .slice (some ⟨g', 0, none⟩) n1 cap' := by
    rcases hown'.2 with ⟨h0, _⟩ | ⟨g', cap', _, h0, _⟩
    · have := (hnil.1 h0).1
      cases this
    · rw [Nat.zero_add] at h0; exact ⟨g', cap', h0⟩
  have ho2 : OwnT w2 w.heap.size (some ⟨g2, 0, none⟩) n1 cap2 l1 := by
    have h := hown'
    rw [tokCells_nil, List.nil_append, Nat.zero_add] at h
    exact h
  have hc2 := hc1.grown hgrow (fun k h => by have h' : w.heap.size = k := (by simpa [Value.ownBlock] using h); omega)
  have hk02 := hk01.more hgrow (fun k h => by have h' : w.heap.size = k := (by simpa [Value.ownBlock] using h); omega)
  have hg2 := (ho2.lt g2 rfl).1
  clear hown' hgrow hnil hc1 hk01 ho01 ha1 HCL
  refine (pick_any w2 bc A n c _ 14 hc2 (by omega) (by omega) hn).mono ?_
  rintro e w3 ⟨r, rfl, hr, hc3, hk3⟩
  have ho3 := Lib.hid (Kp.own ho2 hk3 (by omega))
  have hk03 := hk02.trans hk3
  have hs3 := hk03.size
  clear hk3 hc2 hk02 ho2 hc
  by_cases r0 : r = 0
  · subst r0
    go_wp2_with fail
    refine (pick_any w3 bc A n c _ n1 hc3 (by omega) (by omega) hn).mono ?_
    rintro e w4 ⟨i, rfl, hi4, hc4, hk4⟩
    have hi1 : i < n1 := by omega
    have ho4 := Lib.hid (Kp.own ho3.out hk4 (by omega))
    have hk04 := hk03.trans hk4
    clear hk4 hc3 hk03 ho3 hi4
    go_wp2_with fail
    refine (raw_any w4 bc A n c _ hc4 (by omega) hn).mono ?_
    rintro e w5 ⟨v, rfl, hc5, hk5⟩
    have ho5 := Lib.hid (Kp.own ho4.out hk5 (by omega))
    have hk05 := hk04.trans hk5
    have hs5 := hk05.size
    clear hk5 hc4 hk04 ho4
    go_wp2_with fail
    refine (pick_any _ bc A n c _ 3 (hc5.alloc _) (by omega) (by omega) hn).mono ?_
    rintro e w6 ⟨j, rfl, hj, hc6, hk6⟩
    have hbk := Kp.blk (Blk.made w5 _ _) hk6 (by omega)
    obtain ⟨u, hu⟩ : ∃ u, w6.cell? ⟨w5.heap.size, j, none⟩ = some (.int .i64 u) := by
      rcases (show j = 0 ∨ j = 1 ∨ j = 2 by omega) with rfl | rfl | rfl <;> exact ⟨_, hbk.cell _⟩
    have hj1 : j < 3 := by omega
    have ho6 := Kp.own (ho5.out.alloc _) hk6 (by omega)
    have hk06 := (hk05.alloc _).trans hk6
    obtain ⟨⟨v6, e6⟩, f6⟩ := own_spotC (j := i * 2) ho6 (by omega)
    obtain ⟨l', hl', ho7⟩ := own_putC (j := i * 2) ho6 (by omega) u
    have HO7 := Lib.hid ho7
    have HC := Lib.hid (hc6.grown (Kp.put w6 g2 (i * 2) (.int .i64 u)) (fun k h => by injection h with h; omega))
    have HK := Lib.hid (hk06.more (Kp.put w6 g2 (i * 2) (.int .i64 u)) (fun k h => by injection h with h; omega))
    clear hbk hk6 hc6 ho6 ho5 hk06 hk05 hc5 ho7 hj
    go_wp2
    go_ret
    exact ⟨g2, cap2, l', by rw [hl', hn1]; rfl, by omega, by omega, by rw [hl', hn1]; exact HO7.out, HC.out.more (by omega), HK.out⟩
  · by_cases r1 : r = 1
    · subst r1
      go_wp2_with fail
      refine (pick_any w3 bc A n c _ n1 hc3 (by omega) (by omega) hn).mono ?_
      rintro e w4 ⟨i, rfl, hi4, hc4, hk4⟩
      have hi1 : i < n1 := by omega
      have ho4 := Lib.hid (Kp.own ho3.out hk4 (by omega))
      have hk04 := hk03.trans hk4
      clear hk4 hc3 hk03 ho3 hi4
      go_wp2_with fail
      refine (raw_any w4 bc A n c _ hc4 (by omega) hn).mono ?_
      rintro e w5 ⟨v, rfl, hc5, hk5⟩
      have ho5 := Lib.hid (Kp.own ho4.out hk5 (by omega))
      have hk05 := hk04.trans hk5
      have hs5 := hk05.size
      clear hk5 hc4 hk04 ho4
      go_wp2_with fail
      refine (pick_any _ bc A n c _ 4 (hc5.alloc _) (by omega) (by omega) hn).mono ?_
      rintro e w6 ⟨j, rfl, hj, hc6, hk6⟩
      have hbk := Kp.blk (Blk.made w5 _ _) hk6 (by omega)
      obtain ⟨u, hu⟩ : ∃ u, w6.cell? ⟨w5.heap.size, j, none⟩ = some (.int .i64 u) := by
        rcases (show j = 0 ∨ j = 1 ∨ j = 2 ∨ j = 3 by omega) with rfl | rfl | rfl | rfl <;> exact ⟨_, hbk.cell _⟩
      have hj1 : j < 4 := by omega
      have ho6 := Kp.own (ho5.out.alloc _) hk6 (by omega)
      have hk06 := (hk05.alloc _).trans hk6
      obtain ⟨⟨v6, e6⟩, f6⟩ := own_spotC (j := i * 2 + 1) ho6 (by omega)
      obtain ⟨l', hl', ho7⟩ := own_putC (j := i * 2 + 1) ho6 (by omega) u
      have HO7 := Lib.hid ho7
      have HC := Lib.hid (hc6.grown (Kp.put w6 g2 (i * 2 + 1) (.int .i64 u)) (fun k h => by injection h with h; omega))
      have HK := Lib.hid (hk06.more (Kp.put w6 g2 (i * 2 + 1) (.int .i64 u)) (fun k h => by injection h with h; omega))
      clear hbk hk6 hc6 ho6 ho5 hk06 hk05 hc5 ho7 hj
      go_wp2
      go_ret
      exact ⟨g2, cap2, l', by rw [hl', hn1]; rfl, by omega, by omega, by rw [hl', hn1]; exact HO7.out, HC.out.more (by omega), HK.out⟩
    · have e0 : ¬ ((r : Int) = 0) := by omega
      have e1 : ¬ ((r : Int) = 1) := by omega
      by_cases r2 : r = 2
      · subst r2
        go_wp2_with fail
        refine (pick_any w3 bc A n c _ 5 hc3 (by omega) (by omega) hn).mono ?_
        rintro e w4 ⟨x, rfl, hx, hc4, hk4⟩
        have ho4 := Kp.own ho3.out hk4 (by omega)
        have hk04 := hk03.trans hk4
        have hs4 := hk04.size
        clear hk4 hc3 hk03 ho3
        go_wp2_with (at_builtin; refine wpList_append_own _ rfl (.tmp 44) (.tmp 48) 30 rfl w.heap.size 70 i0 (.agg #[.int .i64 0, .int .i64 0]) 2 16 Tryd.underlying30 hi hz0 hz1 hz2 rfl (by decide) (.slice (some ⟨g2, 0, none⟩) n1 cap2) n1 (tokCells l1) rfl (ho4.alloc _) ⟨w4.heap.size, 0, none⟩ 1 1 (tokCells [((x : Int), 0)]) rfl rfl (Blk.tokA2 _ _ _) (tokCells_one _) (by unfold maxLen; omega) (by omega) (by simp; omega) ?_; intro v' w5 hown' hgrow hnil)
        obtain ⟨g3, cap3, rfl⟩ : ∃ g' cap', v' = .slice (some ⟨g', 0, none⟩) (n1 + 1) cap' := by
          rcases hown'.2 with ⟨h0, _⟩ | ⟨g', cap', _, h0, _⟩
          · have := (hnil.1 h0).1
            cases this
          · exact ⟨g', cap', h0⟩
        have HLn : Hid ((l1 ++ [((x : Int), (0 : Int))]).length = n1 + 1) := by show _ = _; simp [hn1]
        have HW : Hid (OwnT w5 w.heap.size (some ⟨g3, 0, none⟩) (l1 ++ [((x : Int), 0)]).length cap3 (l1 ++ [((x : Int), 0)])) := by
          show OwnT _ _ _ _ _ _
          rw [HLn.out]
          unfold OwnT
          rw [tokCells_append]
          exact hown'
        have HC := Lib.hid ((hc4.alloc _).grown hgrow (fun k h => by have := (ho4.lt k h).1; omega))
        have HK := Lib.hid ((hk04.alloc _).more hgrow (fun k h => (ho4.lt k h).1))
        clear hown' hgrow hnil ho4 hc4 hk04
        go_wp2
        go_ret
        exact ⟨g3, cap3, _, by rw [HLn.out]; rfl, by rw [HLn.out]; omega, by rw [HLn.out]; omega, HW.out, HC.out.more (by omega), HK.out⟩
      · have e2 : ¬ ((r : Int) = 2) := by omega
        by_cases r3 : r = 3
        · subst r3
          have ho3' : OwnT w3 w.heap.size (some ⟨g2, 0, none⟩) l1.length cap2 l1 := by rw [hn1]; exact ho3.out
          have HO3 := Lib.hid ho3'
          clear ho3'
          go_wp2
          go_loopw [3] (fun v wr => ∃ (g cap : Nat) (l : List (Int × Int)), v = .slice (some ⟨g, 0, none⟩) l.length cap ∧ 1 ≤ l.length ∧ l.length ≤ 25 ∧ OwnT wr w.heap.size (some ⟨g, 0, none⟩) l.length cap l ∧ Cur wr bc A n c (K + 100 + l.length) ∧ Kp bc w wr) (fun v _ => 25 - lenOf v)
          case atStart => exact ⟨g2, cap2, l1, by rw [hn1], by omega, by omega, HO3.out, hc3.more (by omega), hk03⟩
          case round =>
            obtain ⟨g, cap, l, rfl, hl1, hl25, hown, hcr, hkr⟩ := hrel
            have hszr := hkr.size
            obtain ⟨L, hL⟩ : ∃ L, l.length = L := ⟨_, rfl⟩
            rw [hL] at hown hl1 hl25 hcr ⊢
            go_wp2_with fail
            refine (pick_any wr bc A n c _ 2 hcr (by omega) (by omega) hn).mono ?_
            rintro e w4 ⟨x, rfl, hx, hc4, hk4⟩
            have ho4 := Kp.own hown hk4 (by omega)
            have hk04 := hkr.trans hk4
            have hs4 := hk04.size
            clear hk4 hcr hkr hown
            by_cases hgo : (L : Int) < 24 + (x : Int)
            · go_wp2_with (at_builtin; refine wpList_append_own _ rfl (.tmp 58) (.tmp 60) 30 rfl w.heap.size 70 i0 (.agg #[.int .i64 0, .int .i64 0]) 2 16 Tryd.underlying30 hi hz0 hz1 hz2 rfl (by decide) (.slice (some ⟨g, 0, none⟩) L cap) L (tokCells l) rfl (ho4.alloc _) ⟨w4.heap.size, 0, none⟩ 1 1 (tokCells [(1, 0)]) rfl rfl (Blk.tokA2 _ _ _) (tokCells_one _) (by unfold maxLen; omega) (by omega) (by simp; omega) ?_; intro v' w5 hown' hgrow hnil)
              obtain ⟨g3, cap3, rfl⟩ : ∃ g' cap', v' = .slice (some ⟨g', 0, none⟩) (L + 1) cap' := by
                rcases hown'.2 with ⟨h0, _⟩ | ⟨g', cap', _, h0, _⟩
                · have := (hnil.1 h0).1
                  cases this
                · exact ⟨g', cap', h0⟩
              have HLn : Hid ((l ++ [((1 : Int), (0 : Int))]).length = L + 1) := by show _ = _; simp [hL]
              have HW : Hid (OwnT w5 w.heap.size (some ⟨g3, 0, none⟩) (l ++ [(1, 0)]).length cap3 (l ++ [(1, 0)])) := by
                show OwnT _ _ _ _ _ _
                rw [HLn.out]
                unfold OwnT
                rw [tokCells_append]
                exact hown'
              have HC := Lib.hid ((hc4.alloc _).grown hgrow (fun k h => by have := (ho4.lt k h).1; omega))
              have HK := Lib.hid ((hk04.alloc _).more hgrow (fun k h => (ho4.lt k h).1))
              clear hown' hgrow hnil ho4 hc4 hk04 hL
              go_wp2
              go_roundw
              case rel => exact ⟨g3, cap3, l ++ [(1, 0)], by rw [HLn.out], by rw [HLn.out]; omega, by rw [HLn.out]; omega, HW.out, by rw [HLn.out]; exact HC.out.more (by omega), HK.out⟩
              case measure => simp [lenOf]; omega
            · have HO4 := Lib.hid ho4
              clear ho4
              go_wp2
              go_ret
              exact ⟨g, cap, l, by rw [hL]; rfl, by omega, by omega, by rw [hL]; exact HO4.out, hc4.more (by omega), hk04⟩
        · have e3 : ¬ ((r : Int) = 3) := by omega
          go_wp2
          go_ret
          exact ⟨g2, cap2, l1, by rw [hn1]; rfl, by omega, by omega, by rw [hn1]; exact ho3.out, hc3.more (by omega), hk03⟩
end Go.Proofs.YtfmhmnpmdjpmeaaDoor

namespace Go.Proofs.YtfmhmnpmdjpmeaaDoor
open Go.RowKit

set_option maxRecDepth 100000 in
set_option maxHeartbeats 1000000 in
theorem same_any (w : World) (B : Nat) (A1 A2 : Option Addr) (n1 n2 c1 c2 : Nat) (l m : List Int) (hB : B ≤ w.heap.size) (hl : IntR w B A1 n1 l) (hm : IntR w B A2 n2 m)
    (hn1 : (n1 : Int) ≤ 140737488355328) (hn2 : (n2 : Int) ≤ 140737488355328) :
    Calls Tryd.prog 38 #[.slice A1 n1 c1, .slice A2 n2 c2] w fun e w' => e = .returned (.bool (decide (l = m))) ∧ Below w.heap.size w w' := by
  by_cases hne : n1 = n2
  · subst hne
    have en : ((n1 : Int) != (n1 : Int)) = false := by simp
    go_enter Tryd.func38, Tryd.ntmps38
    go_wp2
    go_loopw [5] (fun i wr => ∃ k : Nat, k ≤ n1 ∧ i = .int .i64 k ∧ Agree 0 k l m ∧ Below w.heap.size w wr) (fun i _ => n1 - (intOf i).toNat)
    case atStart => exact ⟨0, Nat.zero_le _, rfl, (fun j hj => absurd hj (by omega)), Below.refl _ _⟩
    case round =>
      obtain ⟨k, hk, rfl, hag, hbel⟩ := hrel
      have HG := Lib.hid hag
      clear hag
      by_cases hlt : k < n1
      · obtain ⟨b, off, rfl, hb, hc⟩ := hl.2 (by omega)
        have x1 := hc k hlt
        obtain ⟨b', off', rfl, hb', hc'⟩ := hm.2 (by omega)
        have y1 := hc' k hlt
        obtain ⟨t, ht⟩ : ∃ t, l.getD k 0 = t := ⟨_, rfl⟩
        obtain ⟨u, hu⟩ : ∃ u, m.getD k 0 = u := ⟨_, rfl⟩
        rw [ht] at x1
        rw [hu] at y1
        have HT := Lib.hid ht
        have HU := Lib.hid hu
        have k1 := (hbel.cell (p := ⟨b, off + k, none⟩) (by show b < _; omega)).trans x1
        have k3 := (hbel.cell (p := ⟨b', off' + k, none⟩) (by show b' < _; omega)).trans y1
        have HB := Lib.hid hbel.drew
        clear x1 y1 hc hc' ht hu hl hm
        by_cases heq : t = u
        · subst heq
          have HA : Hid (Agree 0 (k + 1) l m) := agree_step HG.out (by rw [HT.out, HU.out])
          go_wp2_with fail
          refine region_tail 8 (by kernel_rfl) (by kernel_rfl) ?_
          simp only [List.take_succ_cons, List.take_zero, List.drop_succ_cons, List.drop_zero]
          repeat still_step
          refine wpStill_nil ?_
          go_wp2
          go_roundw
          case rel => exact ⟨k + 1, by omega, by go_num, HA.out, HB.out⟩
          case measure => simp [intOf]; omega
        · have dne : (t != u) = true := by simpa using heq
          have HF : Hid (decide (l = m) = false) := by
            show _ = _
            rw [decide_eq_false_iff_not]
            intro h
            apply heq
            rw [← HT.out, ← HU.out, h]
          clear heq
          go_wp2_with fail
          refine region_tail 8 (by kernel_rfl) (by kernel_rfl) ?_
          simp only [List.take_succ_cons, List.take_zero, List.drop_succ_cons, List.drop_zero]
          repeat still_step
          refine wpStill_nil ?_
          go_wp2
          go_ret
          exact ⟨by rw [HF.out]; rfl, HB.out⟩
      · obtain rfl : k = n1 := by omega
        have HF : Hid (decide (l = m) = true) := by
          show _ = _
          rw [decide_eq_true_eq]
          exact agree_all hl.1 hm.1 HG.out
        clear hl hm
        go_wp2
        go_ret
        exact ⟨by rw [HF.out]; rfl, hbel⟩
  · have HF : Hid (decide (l = m) = false) := by
      show _ = _
      rw [decide_eq_false_iff_not]
      intro h
      apply hne
      rw [← hl.1, ← hm.1, h]
    have en : ((n1 : Int) != (n2 : Int)) = true := by simp; omega
    clear hl hm hne
    go_enter Tryd.func38, Tryd.ntmps38
    go_wp2
    go_ret
    exact ⟨by rw [HF.out]; rfl, Below.refl _ _⟩

set_option maxHeartbeats 800000 in
theorem big_any (w : World) (A : Option Addr) (n c : Nat) :
    Calls Tryd.prog 29 #[.slice A n c] w fun e w' => e = .returned (.bool (decide (1048576 < (n : Int)))) ∧ w = w' := by
  go_enter Tryd.func29, Tryd.ntmps29
  go_wp2
  go_ret
  exact ⟨ret_bool (by simp), rfl⟩

set_option maxRecDepth 100000 in
set_option maxHeartbeats 1600000 in
theorem lawPick_any (w : World) (B : Nat) (A : Option Addr) (n c s m : Nat) (hb : BytR w B A n) (hn : n ≤ 1048576) (hs : s ≤ 1000) (hm : m ≤ 1000) :
    Calls Tryd.prog 76 #[.slice A n c, .int .i64 s, .int .i64 m] w fun e w' => ∃ r : Nat, e = .returned (.int .i64 r) ∧ (r = 0 ∨ r < m) ∧ w = w' := by
  by_cases hz : n = 0
  · subst hz
    go_enter Tryd.func76, Tryd.ntmps76
    go_wp2
    go_ret
    exact ⟨0, rfl, .inl rfl, rfl⟩
  · have hz' : ¬ ((n : Int) = 0) := by omega
    by_cases hm2 : m < 2
    · go_enter Tryd.func76, Tryd.ntmps76
      go_wp2
      go_ret
      exact ⟨0, rfl, .inl rfl, rfl⟩
    · have hm2' : ¬ ((m : Int) < 2) := by omega
      obtain ⟨b, off, rfl, hbB, hcs⟩ := hb (by omega)
      go_enter Tryd.func76, Tryd.ntmps76
      go_wp2
      go_loop [7, 8] (fun x i => ∃ k y : Nat, i = .int .i64 k ∧ x = .int .i64 y ∧ ((k = 0 ∧ y = 0) ∨ (k = 1 ∧ y ≤ 255) ∨ (k = 2 ∧ y ≤ 8160) ∨ (k = 3 ∧ y ≤ 253215))) (fun _ i => 3 - (intOf i).toNat)
      case atStart => exact ⟨0, 0, rfl, rfl, .inl ⟨rfl, rfl⟩⟩
      case round =>
        obtain ⟨k, y, rfl, rfl, hky⟩ := hrel
        by_cases hk3 : k < 3
        · have hk3' : (k : Int) < 3 := by omega
          have hpm : (s + k) % n < n := Nat.mod_lt _ (by omega)
          obtain ⟨x, hx, y1⟩ := hcs ((s + k) % n) hpm
          have hcast : ((s : Int) + (k : Int)) % (n : Int) = (((s + k) % n : Nat) : Int) := by simp
          generalize (s + k) % n = q at hpm y1 hcast
          have hyb : y ≤ 8160 := by omega
          go_wp2
          go_round
          case rel => exact ⟨k + 1, 31 * y + x, by go_num, by go_num, by omega⟩
          case measure => simp [intOf]; omega
        · have hk3' : ¬ ((k : Int) < 3) := by omega
          have hyb : y ≤ 253215 := by omega
          go_wp2
          go_ret
          exact ⟨(y + s) % m, ret_int (by simp), .inr (Nat.mod_lt _ (by omega)), rfl⟩

/-- an environment of five numbers of its own, each at most m -/
def EnvOut (m : Nat) (w : World) (e : Ending) (w' : World) : Prop :=
  ∃ g cap env, e = .returned (.slice (some ⟨g, 0, none⟩) 5 cap) ∧ env.length = 5 ∧ (∀ x ∈ env, 0 ≤ x ∧ x ≤ (m : Int)) ∧ OwnI w' w.heap.size (some ⟨g, 0, none⟩) 5 cap env ∧ Below w.heap.size w w'

set_option maxRecDepth 100000 in
set_option maxHeartbeats 1600000 in
theorem envs_any (w : World) (B : Nat) (A : Option Addr) (n c s m : Nat) (hB : B ≤ w.heap.size) (hb : BytR w B A n) (hn : n ≤ 1048576) (hs : s ≤ 900) (hm : m ≤ 900) :
    Calls Tryd.prog 32 #[.slice A n c, .int .i64 s, .int .i64 m] w (EnvOut m w) := by
  obtain ⟨i0, hi, hz0, hz1, hz2⟩ := info_parts info_int
  have ho0 : OwnI (w.alloc (.cells #[] 3)) w.heap.size (some ⟨w.heap.size, 0, none⟩) 0 0 [] := World.ownsRow_made w #[] 0 (Nat.le_refl _) (by simp [maxLen]) (by simp)
  have HO0 := Lib.hid ho0
  have HB0 := Lib.hid ((Below.refl w.heap.size w).alloc (Nat.le_refl _) (.cells #[] 3))
  clear ho0
  go_enter Tryd.func32, Tryd.ntmps32
  go_wp2
  go_loopw [7, 8] (fun v i wr => ∃ (k g cap : Nat) (env : List Int), k ≤ 5 ∧ i = .int .i64 k ∧ v = .slice (some ⟨g, 0, none⟩) k cap ∧ env.length = k ∧ (∀ x ∈ env, 0 ≤ x ∧ x ≤ (m : Int)) ∧ OwnI wr w.heap.size (some ⟨g, 0, none⟩) k cap env ∧ Below w.heap.size w wr) (fun _ i _ => 5 - (intOf i).toNat)
  case atStart => exact ⟨0, _, 0, [], by omega, rfl, rfl, rfl, (fun x hx => by cases hx), HO0.out, HB0.out⟩
  case round =>
    obtain ⟨k, g, cap, env, hk, rfl, rfl, hel, henv, hown, hbel⟩ := hrel
    have hszr := hbel.size
    have HE := Lib.hid henv
    clear henv
    by_cases hk5 : k < 5
    · have hk5' : (k : Int) < 5 := by omega
      have hcast : (s : Int) + 7 * (k : Int) = ((s + 7 * k : Nat) : Int) := by omega
      have hp := lawPick_any wr B A n c (s + 7 * k) (m + 1) (hb.below (hbel.mono hB)) hn (by omega) (by omega)
      have e1 : ((s + 7 * k : Nat) : Int) = (s : Int) + 7 * (k : Int) := by omega
      have e2 : ((m + 1 : Nat) : Int) = (m : Int) + 1 := by omega
      rw [e1, e2] at hp
      have HP := Lib.hid hp
      clear hcast e1 e2 hp
      go_wp2_with fail
      refine HP.out.mono ?_
      rintro e w1 ⟨r, rfl, hr, rfl⟩
      have hrm : r ≤ m := by omega
      go_wp2_with (at_builtin; refine wpList_append_own _ rfl (.tmp 14) (.tmp 23) 40 rfl w.heap.size 3 i0 (.int .i64 0) 1 8 Tryd.underlying40 hi hz0 hz1 hz2 rfl (by decide) (.slice (some ⟨g, 0, none⟩) k cap) k (env.map (Value.int .i64)) rfl (hown.alloc _) ⟨wr.heap.size, 0, none⟩ 1 1 [.int .i64 r] rfl rfl (cell_one_new _ _ _) (fun u hu => by simp at hu; subst hu; rfl) (by unfold maxLen; omega) (by omega) (by simp; omega) ?_; intro v' w3 hown' hgrow hnil)
      obtain ⟨g2, cap2, rfl⟩ : ∃ g' cap', v' = .slice (some ⟨g', 0, none⟩) (k + 1) cap' := by
        rcases hown'.2 with ⟨h0, _⟩ | ⟨g', cap', _, h0, _⟩
        · have := (hnil.1 h0).1
          cases this
        · exact ⟨g', cap', h0⟩
      have HB1 : Hid (Below w.heap.size w w3) := (hbel.alloc hszr _).grown hgrow (by simp; omega) (fun k h => (hown.lt k h).1)
      have HW : Hid (OwnI w3 w.heap.size (some ⟨g2, 0, none⟩) (k + 1) cap2 (env ++ [(r : Int)])) := by
        show OwnI _ _ _ _ _ _
        simpa [OwnI] using hown'
      clear hown hown' hgrow hbel hnil HP
      go_wp2
      go_roundw
      case rel =>
        refine ⟨k + 1, g2, cap2, env ++ [(r : Int)], by omega, by go_num, rfl, by simp [hel], fun x hx => ?_, HW.out, HB1.out⟩
        rcases List.mem_append.1 hx with h | h
        · exact HE.out x h
        · obtain rfl : x = (r : Int) := by simpa using h
          omega
      case measure => simp [intOf]; omega
    · obtain rfl : k = 5 := by omega
      go_wp2
      go_ret
      exact ⟨g, cap, env, rfl, hel, HE.out, hown, hbel⟩

set_option maxHeartbeats 800000 in
theorem open_any (w : World) (B : Nat) (A : Option Addr) (n c : Nat) (hB : B ≤ w.heap.size) (hb : BytR w B A n) (hn : n ≤ 1048576) :
    Calls Tryd.prog 73 #[.slice A n c] w fun e w' => e = .returned (.pointer (some ⟨w.heap.size, 0, none⟩)) ∧ Below w.heap.size w w' ∧ Cur w' w.heap.size A n c 0 := by
  have hcast : (n : Int) % 1000 = ((n % 1000 : Nat) : Int) := by omega
  have hlt : n % 1000 < 1000 := Nat.mod_lt _ (by omega)
  generalize n % 1000 = q at hcast hlt
  have hb1 : Below w.heap.size w (w.alloc (.cells #[.slice A n c, .int .i64 0, .int .i64 (109 + (q : Int))] 139)) := (Below.refl _ _).alloc (Nat.le_refl _) _
  have HC : Hid (Cur (w.alloc (.cells #[.slice A n c, .int .i64 0, .int .i64 (109 + (q : Int))] 139)) w.heap.size A n c 0) := by
    refine ⟨fun h0 => ?_, 0, 109 + q, ?_, Nat.le_refl _, by omega⟩
    · obtain ⟨b, off, rfl, hbb, hcs⟩ := (hb.below (hb1.mono hB)) h0
      exact ⟨b, off, rfl, by omega, hcs⟩
    · have := Blk.made w 139 #[.slice A n c, .int .i64 0, .int .i64 (109 + (q : Int))]
      rw [show ((109 + q : Nat) : Int) = 109 + (q : Int) by omega]
      exact this
  have HB := Lib.hid hb1
  clear hb1
  go_enter Tryd.func73, Tryd.ntmps73
  go_wp2
  go_ret
  exact ⟨rfl, HB.out, HC.out⟩

end Go.Proofs.YtfmhmnpmdjpmeaaDoor

/- Plain functions on norms as lists of pairs of numbers (Param, Off): validity index by index, the norm of a list of atoms, values. Nothing of the program is imported. -/
namespace Go.Proofs.YtfmhmnpmdjpmeaaDoor.Nm

abbrev At := Int × Int

def atOk (a : At) : Bool := decide (-1 ≤ a.1) && decide (a.1 < 5) && decide (0 ≤ a.2) && decide (a.2 ≤ 1000)
theorem atOk_iff (a : At) : atOk a = true ↔ -1 ≤ a.1 ∧ a.1 < 5 ∧ 0 ≤ a.2 ∧ a.2 ≤ 1000 := by simp [atOk, and_assoc]

def AllOk (l : List At) : Prop := ∀ k, k < l.length → atOk (l.getD k (0, 0)) = true
def Incr (l : List At) : Prop := ∀ k, 0 < k → k < l.length → (l.getD (k - 1) (0, 0)).1 < (l.getD k (0, 0)).1
def Exceeds (x : Int) (l : List At) : Prop := ∀ k, k < l.length → (l.getD k (0, 0)).2 < x
def Ok (l : List At) : Prop := 1 ≤ l.length ∧ AllOk l ∧ Incr l ∧ ((l.getD 0 (0, 0)).1 = -1 → Exceeds (l.getD 0 (0, 0)).2 (l.drop 1))

theorem getD_drop1 (l : List At) (k : Nat) : (l.drop 1).getD k (0, 0) = l.getD (k + 1) (0, 0) := by
  simp [List.getD_eq_getElem?_getD]

/-- strictly increasing params: of any two the later one is greater -/
theorem Incr.lt {l : List At} (h : Incr l) {i j : Nat} (hij : i < j) (hj : j < l.length) : (l.getD i (0, 0)).1 < (l.getD j (0, 0)).1 := by
  induction j with
  | zero => omega
  | succ j ih =>
    have h1 := h (j + 1) (by omega) hj
    simp only [Nat.add_sub_cancel] at h1
    by_cases e : i = j
    · subst e; exact h1
    · have := ih (by omega) (by omega); omega
theorem Ok.len {l : List At} (h : Ok l) : l.length ≤ 6 := by
  have H : ∀ k, k < l.length → (k : Int) - 1 ≤ (l.getD k (0, 0)).1 := by
    intro k
    induction k with
    | zero => intro hk; have := (atOk_iff _).1 (h.2.1 0 hk); omega
    | succ k ih =>
      intro hk
      have h1 := ih (by omega)
      have h2 := h.2.2.1 (k + 1) (by omega) hk
      simp only [Nat.add_sub_cancel] at h2
      omega
  by_cases hl : l.length ≤ 6
  · exact hl
  · have h1 := H 6 (by omega)
    have h2 := (atOk_iff _).1 (h.2.1 6 (by omega))
    omega

/-- the greatest Off of the atoms with that Param; -1 if there is none -/
def best (p : Int) : List At → Int
  | [] => -1
  | a :: r => if a.1 = p then max a.2 (best p r) else best p r
/-- the atoms with params 0 .. n - 1 of the norm -/
def pars (l : List At) : Nat → List At
  | 0 => []
  | n + 1 => pars l n ++ if 0 ≤ best n l then [((n : Int), best n l)] else []
/-- the greatest Off among params 0 .. n - 1; -1 if there is none -/
def most (l : List At) : Nat → Int
  | 0 => -1
  | n + 1 => max (most l n) (best n l)
/-- the norm -/
def norm (l : List At) : List At := (if most l 5 < best (-1) l then [((-1 : Int), best (-1) l)] else []) ++ pars l 5
end Go.Proofs.YtfmhmnpmdjpmeaaDoor.Nm
