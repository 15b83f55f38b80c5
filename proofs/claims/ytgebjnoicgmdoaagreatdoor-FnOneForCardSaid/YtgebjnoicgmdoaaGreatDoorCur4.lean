/- Facts for the cursor's draw of a constraint. -/
/- The model's cursor: levels. -/
/- The model's cursor: levels that may be bad. -/
import Derived.Test.YtgebjnoicgmdoaaGreatDoorCsMath
import Derived.Test.YtgebjnoicgmdoaaGreatDoorCoMem
import Derived.Deep.RegionHeld3

namespace Go.Proofs.YtgebjnoicgmdoaaGreatDoor
open Go.RowKit
open Cs (Cn)

/-- the six relations that con draws from -/
def rel6 (i : Nat) : Int := if i < 3 then 0 else if i < 5 then 1 else 2
theorem pick3_any (w : World) (bc : Nat) (A : Option Addr) (n c K : Nat) (hc : Cur w bc A n c K) (hK : K ≤ 1000000) (hn : n ≤ 1048576) :
    Calls Tryz.prog 86 #[.pointer (some ⟨bc, 0, none⟩), .int .i64 3] w fun e w' => ∃ r : Nat, e = .returned (.int .i64 r) ∧ r < 3 ∧ Cur w' bc A n c (K + 1) ∧ Kp bc w w' := by
  refine (pick_any w bc A n c K 3 hc hK (by omega) hn).mono ?_
  rintro e w' ⟨r, rfl, hr, h1, h2⟩
  exact ⟨r, rfl, by omega, h1, h2⟩
theorem pick4_any (w : World) (bc : Nat) (A : Option Addr) (n c K : Nat) (hc : Cur w bc A n c K) (hK : K ≤ 1000000) (hn : n ≤ 1048576) :
    Calls Tryz.prog 86 #[.pointer (some ⟨bc, 0, none⟩), .int .i64 4] w fun e w' => ∃ r : Nat, e = .returned (.int .i64 r) ∧ r < 4 ∧ Cur w' bc A n c (K + 1) ∧ Kp bc w w' := by
  refine (pick_any w bc A n c K 4 hc hK (by omega) hn).mono ?_
  rintro e w' ⟨r, rfl, hr, h1, h2⟩
  exact ⟨r, rfl, by omega, h1, h2⟩
theorem pick5_any (w : World) (bc : Nat) (A : Option Addr) (n c K : Nat) (hc : Cur w bc A n c K) (hK : K ≤ 1000000) (hn : n ≤ 1048576) :
    Calls Tryz.prog 86 #[.pointer (some ⟨bc, 0, none⟩), .int .i64 5] w fun e w' => ∃ r : Nat, e = .returned (.int .i64 r) ∧ r < 5 ∧ Cur w' bc A n c (K + 1) ∧ Kp bc w w' := by
  refine (pick_any w bc A n c K 5 hc hK (by omega) hn).mono ?_
  rintro e w' ⟨r, rfl, hr, h1, h2⟩
  exact ⟨r, rfl, by omega, h1, h2⟩
theorem pick6_any (w : World) (bc : Nat) (A : Option Addr) (n c K : Nat) (hc : Cur w bc A n c K) (hK : K ≤ 1000000) (hn : n ≤ 1048576) :
    Calls Tryz.prog 86 #[.pointer (some ⟨bc, 0, none⟩), .int .i64 6] w fun e w' => ∃ r : Nat, e = .returned (.int .i64 r) ∧ r < 6 ∧ Cur w' bc A n c (K + 1) ∧ Kp bc w w' := by
  refine (pick_any w bc A n c K 6 hc hK (by omega) hn).mono ?_
  rintro e w' ⟨r, rfl, hr, h1, h2⟩
  exact ⟨r, rfl, by omega, h1, h2⟩
theorem pick9_any (w : World) (bc : Nat) (A : Option Addr) (n c K : Nat) (hc : Cur w bc A n c K) (hK : K ≤ 1000000) (hn : n ≤ 1048576) :
    Calls Tryz.prog 86 #[.pointer (some ⟨bc, 0, none⟩), .int .i64 9] w fun e w' => ∃ r : Nat, e = .returned (.int .i64 r) ∧ r < 9 ∧ Cur w' bc A n c (K + 1) ∧ Kp bc w w' := by
  refine (pick_any w bc A n c K 9 hc hK (by omega) hn).mono ?_
  rintro e w' ⟨r, rfl, hr, h1, h2⟩
  exact ⟨r, rfl, by omega, h1, h2⟩

end Go.Proofs.YtgebjnoicgmdoaaGreatDoor

namespace Go.Proofs.YtgebjnoicgmdoaaGreatDoor
open Go.RowKit

def cost : Nat → Nat
  | 0 => 4
  | d + 1 => 8 + 2 * cost d

theorem Drew.more {bc : Nat} {A : Option Addr} {n c K K' : Nat} {w0 w : World} {e : Ending} {w' : World} (h : Drew bc A n c K w e w') (hK : K ≤ K') (h0 : Kp bc w0 w) : Drew bc A n c K' w0 e w' := by
  obtain ⟨g, cap, l, he, h1, h2, ho, hc, hk⟩ := h
  exact ⟨g, cap, l, he, h1, h2, own_base ho h0.size, hc.more hK, h0.trans hk⟩
theorem own_addr {w : World} {base : Nat} {A : Option Addr} {n c : Nat} {l : List (Int × Int)} (h : OwnT w base A n c l) (hn : 1 ≤ n) : ∃ g, A = some ⟨g, 0, none⟩ := by
  rcases h.2 with ⟨_, h0⟩ | ⟨g, cap, _, h0, _⟩
  · omega
  · injection h0 with h0
    exact ⟨g, h0⟩
theorem joinR_some {op : Int} {a b l : List (Int × Int)} (h : joinR op a b = some l) : 1 ≤ l.length ∧ l.length ≤ 24 ∧ Lv.levelOk l = true := by
  unfold joinR at h
  split at h
  · unfold ifR at h
    split at h
    · rename_i hk
      injection h with h
      rw [← h]
      exact ⟨(ok_len hk rfl).1, (ok_len hk rfl).2, hk⟩
    · cases h
  · cases h
theorem succR_some {a l : List (Int × Int)} {k : Int} (h : succR a k = some l) (ha : 1 ≤ a.length) : 1 ≤ l.length ∧ l.length ≤ 24 := by
  unfold succR at h
  split at h
  · rename_i hk
    injection h with h
    rw [← h]
    simp [sxs]
    omega
  · cases h

set_option maxRecDepth 100000 in
set_option maxHeartbeats 4000000 in
theorem level_any (bc : Nat) (A : Option Addr) (n c : Nat) (hn : n ≤ 1048576) : ∀ (d : Nat) (w : World) (K : Nat), d ≤ 10 → Cur w bc A n c K → K + cost d ≤ 800000 →
    Calls Tryz.prog 89 #[.pointer (some ⟨bc, 0, none⟩), .int .i64 (d : Int)] w (Drew bc A n c (K + cost d) w)
  | 0, w, K, _, hc, hK => by
    simp only [cost] at hK
    show Calls Tryz.prog 89 #[.pointer (some ⟨bc, 0, none⟩), .int .i64 0] w (Drew bc A n c (K + 4) w)
    go_enter Tryz.func89, Tryz.ntmps89
    go_wp2_with fail
    refine (leaf_any w bc A n c K hc (by omega) hn).mono ?_
    rintro e w1 ⟨g, cap, l, rfl, h1, h2, ho, hc1, hk1⟩
    go_wp2
    go_ret
    exact ⟨g, cap, l, rfl, h1, h2, ho, hc1, hk1⟩
  | d + 1, w, K, hd, hc, hK => by
    have ih := level_any bc A n c hn d
    have hcost : cost (d + 1) = 8 + 2 * cost d := rfl
    rw [hcost] at hK ⊢
    obtain ⟨C, hC⟩ : ∃ C, cost d = C := ⟨_, rfl⟩
    rw [hC] at hK ih ⊢
    obtain ⟨x, hx⟩ : ∃ x : Int, ((d + 1 : Nat) : Int) = x := ⟨_, rfl⟩
    rw [hx]
    have hx0 : ¬ (x = 0) := by omega
    have hx1 : x - 1 = (d : Int) := by omega
    have hxb : x ≤ 11 := by omega
    have hxp : 1 ≤ x := by omega
    have hlt := hc.lt
    clear hx hC hcost
    go_enter Tryz.func89, Tryz.ntmps89
    go_wp2_with fail
    refine (once_any w bc A n c K 3 hc (by omega) (by omega) hn).mono ?_
    rintro e w1 ⟨b, rfl, hc1, hk1⟩
    cases b with
    | true =>
      go_wp2_with fail
      refine (leaf_any w1 bc A n c (K + 1) hc1 (by omega) hn).mono ?_
      rintro e w2 hD
      have hD' := hD.more (K' := K + (8 + 2 * C)) (by omega) hk1
      obtain ⟨g, cap, l, rfl, h1, h2, ho, hc2, hk2⟩ := hD'
      clear hD
      go_wp2
      go_ret
      exact ⟨g, cap, l, rfl, h1, h2, ho, hc2, hk2⟩
    | false =>
      go_wp2_with fail
      refine (pick_any w1 bc A n c (K + 1) 2 hc1 (by omega) (by omega) hn).mono ?_
      rintro e w2 ⟨r, rfl, hr, hc2, hk2⟩
      have hk02 := hk1.trans hk2
      clear hk1 hk2 hc1
      go_wp2_with fail
      refine (ih w2 (K + 2) (by omega) hc2 (by omega)).mono ?_
      rintro e w3 ⟨g1, cap1, l1, rfl, h11, h12, ho1, hc3, hk3⟩
      have hk03 := hk02.trans hk3
      have ho1' := Lib.hid (own_base ho1 hk02.size)
      clear hk02 hk3 hc2 ho1
      go_wp2_with fail
      refine (ih w3 (K + 2 + C) (by omega) hc3 (by omega)).mono ?_
      rintro e w4 ⟨g2, cap2, l2, rfl, h21, h22, ho2, hc4, hk4⟩
      have hk04 := hk03.trans hk4
      have ho14 := Lib.hid (Kp.own ho1'.out hk4 (by omega))
      have ho24 := Lib.hid ho2
      clear hk03 hk4 hc3 ho1' ho2 ih
      obtain ⟨n1, hn1⟩ : ∃ n1, l1.length = n1 := ⟨_, rfl⟩
      obtain ⟨n2, hn2⟩ : ∃ n2, l2.length = n2 := ⟨_, rfl⟩
      rw [hn1] at h11 h12 ho14 ⊢
      rw [hn2] at h21 h22 ho24 ⊢
      clear hn1 hn2
      go_wp2_with fail
      refine (specJoin_any w4 w4.heap.size _ _ n1 cap1 l1 _ n2 cap2 l2 (Nat.le_refl _) (OwnT.reads ho14.out) (by omega) (OwnT.reads ho24.out) (by omega)).mono ?_
      rintro e w5 ⟨A5, c5, rfl, ho5, hb5⟩
      have hk05 := hk04.trans (Kp.of_below hb5)
      have hc5 := hc4.below hb5
      have s4 := hk04.size
      clear ho14 ho24 hk04 hc4
      cases hJ : joinR (2 + (r : Int)) l1 l2 with
      | none =>
        rw [hJ] at ho5
        clear hb5 ho5 hJ
        simp only [Option.getD_none, Option.isSome_none, List.length_nil]
        go_wp2_with fail
        refine (leaf_any w5 bc A n c _ hc5 (by omega) hn).mono ?_
        rintro e w6 hD
        have hD' := hD.more (K' := K + (8 + 2 * C)) (by omega) hk05
        obtain ⟨g, cap, l, rfl, h1, h2, ho, hc6, hk6⟩ := hD'
        clear hD
        go_wp2
        go_ret
        exact ⟨g, cap, l, rfl, h1, h2, ho, hc6, hk6⟩
      | some l =>
        obtain ⟨hl1, hl24, hlk⟩ := joinR_some hJ
        rw [hJ] at ho5
        simp only [Option.getD_some] at ho5
        simp only [Option.getD_some, Option.isSome_some]
        obtain ⟨g5, rfl⟩ := own_addr ho5 hl1
        have ho5' := Lib.hid (own_base (base' := w.heap.size) ho5 s4)
        have hs5 := hb5.size
        clear ho5 hb5 hJ
        go_wp2_with fail
        refine (once_any w5 bc A n c _ 3 hc5 (by omega) (by omega) hn).mono ?_
        rintro e w6 ⟨b6, rfl, hc6, hk6⟩
        have hk06 := hk05.trans hk6
        have ho6 := Lib.hid (Kp.own ho5'.out hk6 (by omega))
        clear hk05 hk6 hc5 ho5'
        cases b6 with
        | false =>
          go_wp2
          go_ret
          exact ⟨g5, c5, l, rfl, hl1, hl24, ho6.out, hc6.more (by omega), hk06⟩
        | true =>
          go_wp2_with fail
          refine (pick_any w6 bc A n c _ 2 hc6 (by omega) (by omega) hn).mono ?_
          rintro e w7 ⟨r7, rfl, hr7, hc7, hk7⟩
          have hk07 := hk06.trans hk7
          have ho7 := Lib.hid (Kp.own ho6.out hk7 (by omega))
          have hs7 := hk07.size
          clear hk06 hk7 hc6 ho6
          obtain ⟨L, hL⟩ : ∃ L, l.length = L := ⟨_, rfl⟩
          rw [hL] at ho7 hl1 hl24 ⊢
          go_wp2_with fail
          refine (specSucc_any w7 w7.heap.size _ L c5 l _ (Nat.le_refl _) (OwnT.reads ho7.out) (by omega)).mono ?_
          rintro e w8 ⟨A8, c8, rfl, ho8, hb8⟩
          have hk08 := hk07.trans (Kp.of_below hb8)
          have hc8 := hc7.below hb8
          have ho78 := Lib.hid (own_below' ho7.out hb8)
          clear ho7 hk07 hc7 hb8
          cases hS : succR l (1 + (r7 : Int)) with
          | none =>
            rw [hS] at ho8
            simp only [Option.getD_none, Option.isSome_none, List.length_nil]
            clear ho8 hS
            go_wp2
            go_ret
            exact ⟨g5, c5, l, by rw [hL]; rfl, by omega, by omega, by rw [hL]; exact ho78.out, hc8.more (by omega), hk08⟩
          | some l8 =>
            obtain ⟨h81, h824⟩ := succR_some hS (by omega)
            rw [hS] at ho8
            simp only [Option.getD_some] at ho8
            simp only [Option.getD_some, Option.isSome_some]
            obtain ⟨g8, rfl⟩ := own_addr ho8 h81
            have HO8 := Lib.hid (own_base (base' := w.heap.size) ho8 hs7)
            clear ho8 hS
            go_wp2
            go_ret
            exact ⟨g8, c8, l8, rfl, h81, h824, HO8.out, hc8.more (by omega), hk08⟩
end Go.Proofs.YtgebjnoicgmdoaaGreatDoor

namespace Go.Proofs.YtgebjnoicgmdoaaGreatDoor
open Go.RowKit

theorem tokCells_setC (l : List (Int × Int)) : ∀ (i : Nat) (v : Int), i < l.length →
    tokCells (l.set i (v, (l.getD i (0, 0)).2)) = (tokCells l).set (i * 2) (.int .i64 v) ∧ tokCells (l.set i ((l.getD i (0, 0)).1, v)) = (tokCells l).set (i * 2 + 1) (.int .i64 v) := by
  induction l with
  | nil => intro i v h; simp at h
  | cons t r ih =>
    intro i v h
    cases i with
    | zero => simp [tokCells_cons]
    | succ i =>
      have := ih i v (by simpa using h)
      rw [show (i + 1) * 2 = i * 2 + 1 + 1 by omega]
      simp only [List.set_cons_succ, tokCells_cons, List.getD_cons_succ, this.1, this.2]
      exact ⟨trivial, trivial⟩

theorem own_putC {w : World} {base g n c j : Nat} {l : List (Int × Int)} (h : OwnT w base (some ⟨g, 0, none⟩) n c l) (hj : j < n * 2) (v : Int) :
    ∃ l' : List (Int × Int), l'.length = l.length ∧ OwnT (w.setCell ⟨g, j, none⟩ (.int .i64 v)) base (some ⟨g, 0, none⟩) n c l' := by
  obtain ⟨hlen, hc⟩ := h
  have hl : l.length = n := by rw [tokCells_len] at hlen; omega
  rcases hc with ⟨h0, _⟩ | ⟨g', cap, cur, hv, hb, hh, hnc, hm, hs, ht⟩
  · cases h0
  · injection hv with hv1 hv2 hv3
    injection hv1 with hv1
    injection hv1 with hv1
    subst hv1 hv3
    have hblk : Blk w g 51 cur := hh
    have key : ∀ l' : List (Int × Int), l'.length = n → tokCells l' = (tokCells l).set j (.int .i64 v) → OwnT (w.setCell ⟨g, j, none⟩ (.int .i64 v)) base (some ⟨g, 0, none⟩) n c l' := by
      intro l' hl' ht'
      refine ⟨by rw [tokCells_len, hl'], .inr ⟨g, c, _, rfl, hb, hblk.put j _, hnc, hm, by simp [hs], ?_⟩⟩
      rw [Array.toList_setIfInBounds, List.take_set, ht, ht']
    rcases Nat.mod_two_eq_zero_or_one j with h0 | h0
    · obtain ⟨k, rfl⟩ : ∃ k, j = k * 2 := ⟨j / 2, by omega⟩
      exact ⟨l.set k (v, (l.getD k (0, 0)).2), by simp, key _ (by simp [hl]) (tokCells_setC l k v (by omega)).1⟩
    · obtain ⟨k, rfl⟩ : ∃ k, j = k * 2 + 1 := ⟨j / 2, by omega⟩
      exact ⟨l.set k ((l.getD k (0, 0)).1, v), by simp, key _ (by simp [hl]) (tokCells_setC l k v (by omega)).2⟩
theorem own_spotC {w : World} {base g n c j : Nat} {l : List (Int × Int)} (h : OwnT w base (some ⟨g, 0, none⟩) n c l) (hj : j < n * 2) : (∃ v, w.cell? ⟨g, j, none⟩ = some v) ∧ w.frozen? ⟨g, j, none⟩ = false := by
  obtain ⟨_, hc⟩ := h
  rcases hc with ⟨h0, _⟩ | ⟨g', cap, cur, hv, hb, hh, hnc, hm, hs, ht⟩
  · cases h0
  · injection hv with hv1 hv2 hv3
    injection hv1 with hv1
    injection hv1 with hv1
    subst hv1
    have hblk : Blk w g 51 cur := hh
    have : n * 2 ≤ cap * 2 := Nat.mul_le_mul_right 2 hnc
    exact ⟨⟨_, (hblk.cell j).trans (Array.getElem?_eq_getElem (by omega))⟩, hblk.thawed j⟩
def lenOf : Value → Nat
  | .slice _ n _ => n
  | _ => 0
/-- what a draw gives that may be bad -/
def DrewB (bc : Nat) (A : Option Addr) (n c K : Nat) (w : World) (e : Ending) (w' : World) : Prop :=
  ∃ g cap l, e = .returned (.slice (some ⟨g, 0, none⟩) l.length cap) ∧ 1 ≤ l.length ∧ l.length ≤ 25 ∧ OwnT w' w.heap.size (some ⟨g, 0, none⟩) l.length cap l ∧ Cur w' bc A n c K ∧ Kp bc w w'

set_option maxRecDepth 100000 in
set_option maxHeartbeats 4000000 in
theorem badLevel_any (w : World) (bc : Nat) (A : Option Addr) (n c K : Nat) (hc : Cur w bc A n c K) (hK : K ≤ 700000) (hn : n ≤ 1048576) :
    Calls Tryz.prog 88 #[.pointer (some ⟨bc, 0, none⟩)] w (DrewB bc A n c (K + 200) w) := by
  obtain ⟨i0, hi, hz0, hz1, hz2⟩ := info_parts info_tok
  have hlt := hc.lt
  have hcost : cost 3 = 88 := rfl
  have hlv := level_any bc A n c hn 3 (w.alloc (.cells #[] 51)) K (by omega) (hc.alloc _) (by omega)
  rw [hcost] at hlv
  have ho0 : OwnT (w.alloc (.cells #[] 51)) w.heap.size (some ⟨w.heap.size, 0, none⟩) 0 0 [] := World.ownsRow_made w #[] 0 (Nat.le_refl _) (by simp [maxLen]) (by simp)
  have HO0 := Lib.hid ho0
  clear ho0 hcost
  go_enter Tryz.func88, Tryz.ntmps88
  go_wp2_with fail
  refine hlv.mono ?_
  rintro e w1 ⟨g1, cap1, l1, rfl, h11, h12, ho1, hc1, hk1⟩
  have hs1 := hk1.size
  simp only [World.size_alloc] at hs1
  have ho01 := Lib.hid (Kp.own HO0.out hk1 (by omega))
  have hk01 : Kp bc w w1 := ((Kp.refl bc w).alloc _).trans hk1
  have ha1 : TokA w1 w1.heap.size ⟨g1, 0, none⟩ l1 := OwnT.tokA ho1
  have hcl := tokCells_len l1
  obtain ⟨n1, hn1⟩ : ∃ n1, l1.length = n1 := ⟨_, rfl⟩
  rw [hn1] at hcl h11 h12 ⊢
  have HCL := Lib.hid hcl
  clear hcl HO0 hk1 hlv ho1
  go_wp2_with (at_builtin; refine wpList_append_own _ rfl (.tmp 4) (.tmp 6) 25 rfl w.heap.size 51 i0 (.agg #[.int .i64 0, .int .i64 0]) 2 16 Tryz.underlying25 hi hz0 hz1 hz2 rfl (by decide) (.slice (some ⟨w.heap.size, 0, none⟩) 0 0) 0 (tokCells []) rfl ho01.out ⟨g1, 0, none⟩ n1 cap1 (tokCells l1) rfl HCL.out ha1.2 (tokCells_one l1) (by unfold maxLen; omega) (by omega) (by omega) ?_; intro v' w2 hown' hgrow hnil)
  obtain ⟨g2, cap2, rfl⟩ : ∃ g' cap', v' = .slice (some ⟨g', 0, none⟩) n1 cap' := by
    rcases hown'.2 with ⟨h0, _⟩ | ⟨g', cap', _, h0, _⟩
    · have := (hnil.1 h0).1
      cases this
    · rw [Nat.zero_add] at h0; exact ⟨g', cap', h0⟩
  have ho2 : OwnT w2 w.heap.size (some ⟨g2, 0, none⟩) n1 cap2 l1 := by
    have h := hown'
    rw [tokCells_nil, List.nil_append, Nat.zero_add] at h
    exact h
  have hc2 := hc1.grown hgrow (fun k h => by have h' : w.heap.size = k := (by simpa [Value.ownBlock] using h); omega)
  have hk02 := hk01.more hgrow (fun k h => by have h' : w.heap.size = k := (by simpa [Value.ownBlock] using h); omega)
  have hg2 := (ho2.lt g2 rfl).1
  clear hown' hgrow hnil hc1 hk01 ho01 ha1 HCL
  refine (pick_any w2 bc A n c _ 14 hc2 (by omega) (by omega) hn).mono ?_
  rintro e w3 ⟨r, rfl, hr, hc3, hk3⟩
  have ho3 := Lib.hid (Kp.own ho2 hk3 (by omega))
  have hk03 := hk02.trans hk3
  have hs3 := hk03.size
  clear hk3 hc2 hk02 ho2 hc
  by_cases r0 : r = 0
  · subst r0
    go_wp2_with fail
    refine (pick_any w3 bc A n c _ n1 hc3 (by omega) (by omega) hn).mono ?_
    rintro e w4 ⟨i, rfl, hi4, hc4, hk4⟩
    have hi1 : i < n1 := by omega
    have ho4 := Lib.hid (Kp.own ho3.out hk4 (by omega))
    have hk04 := hk03.trans hk4
    clear hk4 hc3 hk03 ho3 hi4
    go_wp2_with fail
    refine (raw_any w4 bc A n c _ hc4 (by omega) hn).mono ?_
    rintro e w5 ⟨v, rfl, hc5, hk5⟩
    have ho5 := Lib.hid (Kp.own ho4.out hk5 (by omega))
    have hk05 := hk04.trans hk5
    have hs5 := hk05.size
    clear hk5 hc4 hk04 ho4
    go_wp2_with fail
    refine (pick_any _ bc A n c _ 3 (hc5.alloc _) (by omega) (by omega) hn).mono ?_
    rintro e w6 ⟨j, rfl, hj, hc6, hk6⟩
    have hbk := Kp.blk (Blk.made w5 _ _) hk6 (by omega)
    obtain ⟨u, hu⟩ : ∃ u, w6.cell? ⟨w5.heap.size, j, none⟩ = some (.int .i64 u) := by
      rcases (show j = 0 ∨ j = 1 ∨ j = 2 by omega) with rfl | rfl | rfl <;> exact ⟨_, hbk.cell _⟩
    have hj1 : j < 3 := by omega
    have ho6 := Kp.own (ho5.out.alloc _) hk6 (by omega)
    have hk06 := (hk05.alloc _).trans hk6
    obtain ⟨⟨v6, e6⟩, f6⟩ := own_spotC (j := i * 2) ho6 (by omega)
    obtain ⟨l', hl', ho7⟩ := own_putC (j := i * 2) ho6 (by omega) u
    have HO7 := Lib.hid ho7
    have HC := Lib.hid (hc6.grown (Kp.put w6 g2 (i * 2) (.int .i64 u)) (fun k h => by injection h with h; omega))
    have HK := Lib.hid (hk06.more (Kp.put w6 g2 (i * 2) (.int .i64 u)) (fun k h => by injection h with h; omega))
    clear hbk hk6 hc6 ho6 ho5 hk06 hk05 hc5 ho7 hj
    go_wp2
    go_ret
    exact ⟨g2, cap2, l', by rw [hl', hn1]; rfl, by omega, by omega, by rw [hl', hn1]; exact HO7.out, HC.out.more (by omega), HK.out⟩
  · by_cases r1 : r = 1
    · subst r1
      go_wp2_with fail
      refine (pick_any w3 bc A n c _ n1 hc3 (by omega) (by omega) hn).mono ?_
      rintro e w4 ⟨i, rfl, hi4, hc4, hk4⟩
      have hi1 : i < n1 := by omega
      have ho4 := Lib.hid (Kp.own ho3.out hk4 (by omega))
      have hk04 := hk03.trans hk4
      clear hk4 hc3 hk03 ho3 hi4
      go_wp2_with fail
      refine (raw_any w4 bc A n c _ hc4 (by omega) hn).mono ?_
      rintro e w5 ⟨v, rfl, hc5, hk5⟩
      have ho5 := Lib.hid (Kp.own ho4.out hk5 (by omega))
      have hk05 := hk04.trans hk5
      have hs5 := hk05.size
      clear hk5 hc4 hk04 ho4
      go_wp2_with fail
      refine (pick_any _ bc A n c _ 4 (hc5.alloc _) (by omega) (by omega) hn).mono ?_
      rintro e w6 ⟨j, rfl, hj, hc6, hk6⟩
      have hbk := Kp.blk (Blk.made w5 _ _) hk6 (by omega)
      obtain ⟨u, hu⟩ : ∃ u, w6.cell? ⟨w5.heap.size, j, none⟩ = some (.int .i64 u) := by
        rcases (show j = 0 ∨ j = 1 ∨ j = 2 ∨ j = 3 by omega) with rfl | rfl | rfl | rfl <;> exact ⟨_, hbk.cell _⟩
      have hj1 : j < 4 := by omega
      have ho6 := Kp.own (ho5.out.alloc _) hk6 (by omega)
      have hk06 := (hk05.alloc _).trans hk6
      obtain ⟨⟨v6, e6⟩, f6⟩ := own_spotC (j := i * 2 + 1) ho6 (by omega)
      obtain ⟨l', hl', ho7⟩ := own_putC (j := i * 2 + 1) ho6 (by omega) u
      have HO7 := Lib.hid ho7
      have HC := Lib.hid (hc6.grown (Kp.put w6 g2 (i * 2 + 1) (.int .i64 u)) (fun k h => by injection h with h; omega))
      have HK := Lib.hid (hk06.more (Kp.put w6 g2 (i * 2 + 1) (.int .i64 u)) (fun k h => by injection h with h; omega))
      clear hbk hk6 hc6 ho6 ho5 hk06 hk05 hc5 ho7 hj
      go_wp2
      go_ret
      exact ⟨g2, cap2, l', by rw [hl', hn1]; rfl, by omega, by omega, by rw [hl', hn1]; exact HO7.out, HC.out.more (by omega), HK.out⟩
    · have e0 : ¬ ((r : Int) = 0) := by omega
      have e1 : ¬ ((r : Int) = 1) := by omega
      by_cases r2 : r = 2
      · subst r2
        go_wp2_with fail
        refine (pick_any w3 bc A n c _ 5 hc3 (by omega) (by omega) hn).mono ?_
        rintro e w4 ⟨x, rfl, hx, hc4, hk4⟩
        have ho4 := Kp.own ho3.out hk4 (by omega)
        have hk04 := hk03.trans hk4
        have hs4 := hk04.size
        clear hk4 hc3 hk03 ho3
        go_wp2_with (at_builtin; refine wpList_append_own _ rfl (.tmp 44) (.tmp 48) 25 rfl w.heap.size 51 i0 (.agg #[.int .i64 0, .int .i64 0]) 2 16 Tryz.underlying25 hi hz0 hz1 hz2 rfl (by decide) (.slice (some ⟨g2, 0, none⟩) n1 cap2) n1 (tokCells l1) rfl (ho4.alloc _) ⟨w4.heap.size, 0, none⟩ 1 1 (tokCells [((x : Int), 0)]) rfl rfl (Blk.tokA2 _ _ _) (tokCells_one _) (by unfold maxLen; omega) (by omega) (by simp; omega) ?_; intro v' w5 hown' hgrow hnil)
        obtain ⟨g3, cap3, rfl⟩ : ∃ g' cap', v' = .slice (some ⟨g', 0, none⟩) (n1 + 1) cap' := by
          rcases hown'.2 with ⟨h0, _⟩ | ⟨g', cap', _, h0, _⟩
          · have := (hnil.1 h0).1
            cases this
          · exact ⟨g', cap', h0⟩
        have HLn : Hid ((l1 ++ [((x : Int), (0 : Int))]).length = n1 + 1) := by show _ = _; simp [hn1]
        have HW : Hid (OwnT w5 w.heap.size (some ⟨g3, 0, none⟩) (l1 ++ [((x : Int), 0)]).length cap3 (l1 ++ [((x : Int), 0)])) := by
          show OwnT _ _ _ _ _ _
          rw [HLn.out]
          unfold OwnT
          rw [tokCells_append]
          exact hown'
        have HC := Lib.hid ((hc4.alloc _).grown hgrow (fun k h => by have := (ho4.lt k h).1; omega))
        have HK := Lib.hid ((hk04.alloc _).more hgrow (fun k h => (ho4.lt k h).1))
        clear hown' hgrow hnil ho4 hc4 hk04
        go_wp2
        go_ret
        exact ⟨g3, cap3, _, by rw [HLn.out]; rfl, by rw [HLn.out]; omega, by rw [HLn.out]; omega, HW.out, HC.out.more (by omega), HK.out⟩
      · have e2 : ¬ ((r : Int) = 2) := by omega
        by_cases r3 : r = 3
        · subst r3
          have ho3' : OwnT w3 w.heap.size (some ⟨g2, 0, none⟩) l1.length cap2 l1 := by rw [hn1]; exact ho3.out
          have HO3 := Lib.hid ho3'
          clear ho3'
          go_wp2
          go_loopw [3] (fun v wr => ∃ (g cap : Nat) (l : List (Int × Int)), v = .slice (some ⟨g, 0, none⟩) l.length cap ∧ 1 ≤ l.length ∧ l.length ≤ 25 ∧ OwnT wr w.heap.size (some ⟨g, 0, none⟩) l.length cap l ∧ Cur wr bc A n c (K + 100 + l.length) ∧ Kp bc w wr) (fun v _ => 25 - lenOf v)
          case atStart => exact ⟨g2, cap2, l1, by rw [hn1], by omega, by omega, HO3.out, hc3.more (by omega), hk03⟩
          case round =>
            obtain ⟨g, cap, l, rfl, hl1, hl25, hown, hcr, hkr⟩ := hrel
            have hszr := hkr.size
            obtain ⟨L, hL⟩ : ∃ L, l.length = L := ⟨_, rfl⟩
            rw [hL] at hown hl1 hl25 hcr ⊢
            go_wp2_with fail
            refine (pick_any wr bc A n c _ 2 hcr (by omega) (by omega) hn).mono ?_
            rintro e w4 ⟨x, rfl, hx, hc4, hk4⟩
            have ho4 := Kp.own hown hk4 (by omega)
            have hk04 := hkr.trans hk4
            have hs4 := hk04.size
            clear hk4 hcr hkr hown
            by_cases hgo : (L : Int) < 24 + (x : Int)
            · go_wp2_with (at_builtin; refine wpList_append_own _ rfl (.tmp 58) (.tmp 60) 25 rfl w.heap.size 51 i0 (.agg #[.int .i64 0, .int .i64 0]) 2 16 Tryz.underlying25 hi hz0 hz1 hz2 rfl (by decide) (.slice (some ⟨g, 0, none⟩) L cap) L (tokCells l) rfl (ho4.alloc _) ⟨w4.heap.size, 0, none⟩ 1 1 (tokCells [(1, 0)]) rfl rfl (Blk.tokA2 _ _ _) (tokCells_one _) (by unfold maxLen; omega) (by omega) (by simp; omega) ?_; intro v' w5 hown' hgrow hnil)
              obtain ⟨g3, cap3, rfl⟩ : ∃ g' cap', v' = .slice (some ⟨g', 0, none⟩) (L + 1) cap' := by
                rcases hown'.2 with ⟨h0, _⟩ | ⟨g', cap', _, h0, _⟩
                · have := (hnil.1 h0).1
                  cases this
                · exact ⟨g', cap', h0⟩
              have HLn : Hid ((l ++ [((1 : Int), (0 : Int))]).length = L + 1) := by show _ = _; simp [hL]
              have HW : Hid (OwnT w5 w.heap.size (some ⟨g3, 0, none⟩) (l ++ [(1, 0)]).length cap3 (l ++ [(1, 0)])) := by
                show OwnT _ _ _ _ _ _
                rw [HLn.out]
                unfold OwnT
                rw [tokCells_append]
                exact hown'
              have HC := Lib.hid ((hc4.alloc _).grown hgrow (fun k h => by have := (ho4.lt k h).1; omega))
              have HK := Lib.hid ((hk04.alloc _).more hgrow (fun k h => (ho4.lt k h).1))
              clear hown' hgrow hnil ho4 hc4 hk04 hL
              go_wp2
              go_roundw
              case rel => exact ⟨g3, cap3, l ++ [(1, 0)], by rw [HLn.out], by rw [HLn.out]; omega, by rw [HLn.out]; omega, HW.out, by rw [HLn.out]; exact HC.out.more (by omega), HK.out⟩
              case measure => simp [lenOf]; omega
            · have HO4 := Lib.hid ho4
              clear ho4
              go_wp2
              go_ret
              exact ⟨g, cap, l, by rw [hL]; rfl, by omega, by omega, by rw [hL]; exact HO4.out, hc4.more (by omega), hk04⟩
        · have e3 : ¬ ((r : Int) = 3) := by omega
          go_wp2
          go_ret
          exact ⟨g2, cap2, l1, by rw [hn1]; rfl, by omega, by omega, by rw [hn1]; exact ho3.out, hc3.more (by omega), hk03⟩
end Go.Proofs.YtgebjnoicgmdoaaGreatDoor
