/- The model's cursor: levels. -/
import Derived.Test.YtijiohdddfdjfaaDoorCur2
namespace Go.Proofs.YtijiohdddfdjfaaDoor
open Go.RowKit

def cost : Nat → Nat
  | 0 => 4
  | d + 1 => 8 + 2 * cost d

theorem Drew.more {bc : Nat} {A : Option Addr} {n c K K' : Nat} {w0 w : World} {e : Ending} {w' : World} (h : Drew bc A n c K w e w') (hK : K ≤ K') (h0 : Kp bc w0 w) : Drew bc A n c K' w0 e w' := by
  obtain ⟨g, cap, l, he, h1, h2, ho, hc, hk⟩ := h
  exact ⟨g, cap, l, he, h1, h2, own_base ho h0.size, hc.more hK, h0.trans hk⟩
theorem own_addr {w : World} {base : Nat} {A : Option Addr} {n c : Nat} {l : List (Int × Int)} (h : OwnT w base A n c l) (hn : 1 ≤ n) : ∃ g, A = some ⟨g, 0, none⟩ := by
  rcases h.2 with ⟨_, h0⟩ | ⟨g, cap, _, h0, _⟩
  · omega
  · injection h0 with h0
    exact ⟨g, h0⟩
theorem joinR_some {op : Int} {a b l : List (Int × Int)} (h : joinR op a b = some l) : 1 ≤ l.length ∧ l.length ≤ 24 ∧ Lv.levelOk l = true := by
  unfold joinR at h
  split at h
  · unfold ifR at h
    split at h
    · rename_i hk
      injection h with h
      rw [← h]
      exact ⟨(ok_len hk rfl).1, (ok_len hk rfl).2, hk⟩
    · cases h
  · cases h
theorem succR_some {a l : List (Int × Int)} {k : Int} (h : succR a k = some l) (ha : 1 ≤ a.length) : 1 ≤ l.length ∧ l.length ≤ 24 := by
  unfold succR at h
  split at h
  · rename_i hk
    injection h with h
    rw [← h]
    simp [sxs]
    omega
  · cases h

set_option maxRecDepth 100000 in
set_option maxHeartbeats 4000000 in
theorem level_any (bc : Nat) (A : Option Addr) (n c : Nat) (hn : n ≤ 1048576) : ∀ (d : Nat) (w : World) (K : Nat), d ≤ 10 → Cur w bc A n c K → K + cost d ≤ 800000 →
    Calls Tryd.prog 72 #[.pointer (some ⟨bc, 0, none⟩), .int .i64 (d : Int)] w (Drew bc A n c (K + cost d) w)
  | 0, w, K, _, hc, hK => by
    simp only [cost] at hK
    show Calls Tryd.prog 72 #[.pointer (some ⟨bc, 0, none⟩), .int .i64 0] w (Drew bc A n c (K + 4) w)
    go_enter Tryd.func72, Tryd.ntmps72
    go_wp2_with fail
    refine (leaf_any w bc A n c K hc (by omega) hn).mono ?_
    rintro e w1 ⟨g, cap, l, rfl, h1, h2, ho, hc1, hk1⟩
    go_wp2
    go_ret
    exact ⟨g, cap, l, rfl, h1, h2, ho, hc1, hk1⟩
  | d + 1, w, K, hd, hc, hK => by
    have ih := level_any bc A n c hn d
    have hcost : cost (d + 1) = 8 + 2 * cost d := rfl
    rw [hcost] at hK ⊢
    obtain ⟨C, hC⟩ : ∃ C, cost d = C := ⟨_, rfl⟩
    rw [hC] at hK ih ⊢
    obtain ⟨x, hx⟩ : ∃ x : Int, ((d + 1 : Nat) : Int) = x := ⟨_, rfl⟩
    rw [hx]
    have hx0 : ¬ (x = 0) := by omega
    have hx1 : x - 1 = (d : Int) := by omega
    have hxb : x ≤ 11 := by omega
    have hxp : 1 ≤ x := by omega
    have hlt := hc.lt
    clear hx hC hcost
    go_enter Tryd.func72, Tryd.ntmps72
    go_wp2_with fail
    refine (once_any w bc A n c K 3 hc (by omega) (by omega) hn).mono ?_
    rintro e w1 ⟨b, rfl, hc1, hk1⟩
    cases b with
    | true =>
      go_wp2_with fail
      refine (leaf_any w1 bc A n c (K + 1) hc1 (by omega) hn).mono ?_
      rintro e w2 hD
      have hD' := hD.more (K' := K + (8 + 2 * C)) (by omega) hk1
      obtain ⟨g, cap, l, rfl, h1, h2, ho, hc2, hk2⟩ := hD'
      clear hD
      go_wp2
      go_ret
      exact ⟨g, cap, l, rfl, h1, h2, ho, hc2, hk2⟩
    | false =>
      go_wp2_with fail
      refine (pick_any w1 bc A n c (K + 1) 2 hc1 (by omega) (by omega) hn).mono ?_
      rintro e w2 ⟨r, rfl, hr, hc2, hk2⟩
      have hk02 := hk1.trans hk2
      clear hk1 hk2 hc1
      go_wp2_with fail
      refine (ih w2 (K + 2) (by omega) hc2 (by omega)).mono ?_
      rintro e w3 ⟨g1, cap1, l1, rfl, h11, h12, ho1, hc3, hk3⟩
      have hk03 := hk02.trans hk3
      have ho1' := Lib.hid (own_base ho1 hk02.size)
      clear hk02 hk3 hc2 ho1
      go_wp2_with fail
      refine (ih w3 (K + 2 + C) (by omega) hc3 (by omega)).mono ?_
      rintro e w4 ⟨g2, cap2, l2, rfl, h21, h22, ho2, hc4, hk4⟩
      have hk04 := hk03.trans hk4
      have ho14 := Lib.hid (Kp.own ho1'.out hk4 (by omega))
      have ho24 := Lib.hid ho2
      clear hk03 hk4 hc3 ho1' ho2 ih
      obtain ⟨n1, hn1⟩ : ∃ n1, l1.length = n1 := ⟨_, rfl⟩
      obtain ⟨n2, hn2⟩ : ∃ n2, l2.length = n2 := ⟨_, rfl⟩
      rw [hn1] at h11 h12 ho14 ⊢
      rw [hn2] at h21 h22 ho24 ⊢
      clear hn1 hn2
      go_wp2_with fail
      refine (specJoin_any w4 w4.heap.size _ _ n1 cap1 l1 _ n2 cap2 l2 (Nat.le_refl _) (OwnT.reads ho14.out) (by omega) (OwnT.reads ho24.out) (by omega)).mono ?_
      rintro e w5 ⟨A5, c5, rfl, ho5, hb5⟩
      have hk05 := hk04.trans (Kp.of_below hb5)
      have hc5 := hc4.below hb5
      have s4 := hk04.size
      clear ho14 ho24 hk04 hc4
      cases hJ : joinR (2 + (r : Int)) l1 l2 with
      | none =>
        rw [hJ] at ho5
        clear hb5 ho5 hJ
        simp only [Option.getD_none, Option.isSome_none, List.length_nil]
        go_wp2_with fail
        refine (leaf_any w5 bc A n c _ hc5 (by omega) hn).mono ?_
        rintro e w6 hD
        have hD' := hD.more (K' := K + (8 + 2 * C)) (by omega) hk05
        obtain ⟨g, cap, l, rfl, h1, h2, ho, hc6, hk6⟩ := hD'
        clear hD
        go_wp2
        go_ret
        exact ⟨g, cap, l, rfl, h1, h2, ho, hc6, hk6⟩
      | some l =>
        obtain ⟨hl1, hl24, hlk⟩ := joinR_some hJ
        rw [hJ] at ho5
        simp only [Option.getD_some] at ho5
        simp only [Option.getD_some, Option.isSome_some]
        obtain ⟨g5, rfl⟩ := own_addr ho5 hl1
        have ho5' := Lib.hid (own_base (base' := w.heap.size) ho5 s4)
        have hs5 := hb5.size
        clear ho5 hb5 hJ
        go_wp2_with fail
        refine (once_any w5 bc A n c _ 3 hc5 (by omega) (by omega) hn).mono ?_
        rintro e w6 ⟨b6, rfl, hc6, hk6⟩
        have hk06 := hk05.trans hk6
        have ho6 := Lib.hid (Kp.own ho5'.out hk6 (by omega))
        clear hk05 hk6 hc5 ho5'
        cases b6 with
        | false =>
          go_wp2
          go_ret
          exact ⟨g5, c5, l, rfl, hl1, hl24, ho6.out, hc6.more (by omega), hk06⟩
        | true =>
          go_wp2_with fail
          refine (pick_any w6 bc A n c _ 2 hc6 (by omega) (by omega) hn).mono ?_
          rintro e w7 ⟨r7, rfl, hr7, hc7, hk7⟩
          have hk07 := hk06.trans hk7
          have ho7 := Lib.hid (Kp.own ho6.out hk7 (by omega))
          have hs7 := hk07.size
          clear hk06 hk7 hc6 ho6
          obtain ⟨L, hL⟩ : ∃ L, l.length = L := ⟨_, rfl⟩
          rw [hL] at ho7 hl1 hl24 ⊢
          go_wp2_with fail
          refine (specSucc_any w7 w7.heap.size _ L c5 l _ (Nat.le_refl _) (OwnT.reads ho7.out) (by omega)).mono ?_
          rintro e w8 ⟨A8, c8, rfl, ho8, hb8⟩
          have hk08 := hk07.trans (Kp.of_below hb8)
          have hc8 := hc7.below hb8
          have ho78 := Lib.hid (own_below' ho7.out hb8)
          clear ho7 hk07 hc7 hb8
          cases hS : succR l (1 + (r7 : Int)) with
          | none =>
            rw [hS] at ho8
            simp only [Option.getD_none, Option.isSome_none, List.length_nil]
            clear ho8 hS
            go_wp2
            go_ret
            exact ⟨g5, c5, l, by rw [hL]; rfl, by omega, by omega, by rw [hL]; exact ho78.out, hc8.more (by omega), hk08⟩
          | some l8 =>
            obtain ⟨h81, h824⟩ := succR_some hS (by omega)
            rw [hS] at ho8
            simp only [Option.getD_some] at ho8
            simp only [Option.getD_some, Option.isSome_some]
            obtain ⟨g8, rfl⟩ := own_addr ho8 h81
            have HO8 := Lib.hid (own_base (base' := w.heap.size) ho8 hs7)
            clear ho8 hS
            go_wp2
            go_ret
            exact ⟨g8, c8, l8, rfl, h81, h824, HO8.out, hc8.more (by omega), hk08⟩
end Go.Proofs.YtijiohdddfdjfaaDoor
