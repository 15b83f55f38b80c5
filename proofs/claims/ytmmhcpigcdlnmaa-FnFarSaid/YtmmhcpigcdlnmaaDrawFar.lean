/- DrawConsFar: a list of constraints and two numbers, from bytes. -/
import Derived.Test.YtmmhcpigcdlnmaaDrawC

namespace Go.Proofs.Ytmmhcpigcdlnmaa
open Go.RowKit
open Cs (Cn)

/-- what lies in the slot of each operation once it has come up -/
def DfC (bc g cap m : Nat) (i : Nat) (v : Value) (w : World) : Prop :=
  match i with
  | 0 | 27 => v = .slice (some ⟨g, 0, none⟩) m cap
  | 1 | 4 | 7 | 10 | 14 | 17 | 20 | 23 => v = .pointer (some ⟨bc, 0, none⟩)
  | 2 | 5 | 15 | 18 | 3 | 6 | 8 | 13 | 16 | 19 | 21 | 26 | 28 | 29 => ∃ x : Int, v = .int .i64 x
  | 11 | 24 => ∃ r : Nat, v = .int .i64 r ∧ r < 3
  | 9 | 22 => ∃ h, v = .slice (some ⟨h, 0, none⟩) 3 3 ∧ h ≠ bc ∧ Lit3 w h
  | 12 | 25 => ∃ h r : Nat, v = .pointer (some ⟨h, r, none⟩) ∧ h ≠ bc ∧ r < 3 ∧ Lit3 w h
  | _ => True
theorem DfC.keep {bc g cap m i : Nat} {v : Value} {w w' : World} (hk : ConK2 bc bc w w') (h : DfC bc g cap m i v w) : DfC bc g cap m i v w' := by
  unfold DfC at h ⊢
  split at h
  all_goals first
    | exact h
    | (obtain ⟨g, h1, h2, h3⟩ := h; exact ⟨g, h1, h2, (hk.2 g h2).1 h3⟩)
    | (obtain ⟨g, r, h1, h2, h3, h4⟩ := h; exact ⟨g, r, h1, h2, h3, (hk.2 g h2).1 h4⟩)
    | trivial
/-- what goes along -/
structure DfG (bc : Nat) (A : Option Addr) (n c K base : Nat) (w0 : World) (g cap m : Nat) (l : List Cn) (k : Nat) (w : World) : Prop where
  cur : Cur w bc A n c (K + 2 * k)
  kp : Kp bc w0 w
  own : OwnC w base (some ⟨g, 0, none⟩) m cap l
section
variable {bc n c K g cap m k base : Nat} {A : Option Addr} {w0 w w' : World} {l : List Cn}
theorem DfG.step (hlt : bc < base) (h : DfG bc A n c K base w0 g cap m l k w) (hc : Cur w' bc A n c (K + 2 * k + 2)) (hk : Kp bc w w') : DfG bc A n c K base w0 g cap m l (k + 1) w' := ⟨hc.more (by omega), h.kp.trans hk, Kp.own h.own hk hlt⟩
theorem DfG.same (h : DfG bc A n c K base w0 g cap m l k w) : DfG bc A n c K base w0 g cap m l (k + 1) w := ⟨h.cur.more (by omega), h.kp, h.own⟩
theorem DfG.alloc (hlt : bc < base) (h : DfG bc A n c K base w0 g cap m l k w) (o : Obj) : DfG bc A n c K base w0 g cap m l (k + 1) (w.alloc o) := h.step hlt ((h.cur.alloc o).more (by omega)) ((Kp.refl _ _).alloc o)
end
theorem tm38 (f : Nat → Value) : tm 38 f = { tmps := #[f 0, f 1, f 2, f 3, f 4, f 5, f 6, f 7, f 8, f 9, f 10, f 11, f 12, f 13, f 14, f 15, f 16, f 17, f 18, f 19, f 20, f 21, f 22, f 23, f 24, f 25, f 26, f 27, f 28, f 29, f 30, f 31, f 32, f 33, f 34, f 35, f 36, f 37], defers := [] } := rfl

set_option maxRecDepth 100000 in
set_option maxHeartbeats 16000000 in
theorem drawFar_any (w : World) (B : Nat) (A : Option Addr) (n c : Nat) (hB : B ≤ w.heap.size) (hb : BytR w B A n) (hn : n ≤ 1048576) :
    Calls Try.prog 20 #[.slice A n c] w fun e w' => (∃ (g cap m : Nat) (l : List Cn) (x y : Int), e = .returned (.tuple #[.slice (some ⟨g, 0, none⟩) m cap, .int .i64 x, .int .i64 y]) ∧ m ≤ 60 ∧ OwnC w' w.heap.size (some ⟨g, 0, none⟩) m cap l) ∧ Below w.heap.size w w' := by
  obtain ⟨bc, hbc⟩ : ∃ bc, w.heap.size = bc := ⟨_, rfl⟩
  go_enter Try.func20, Try.ntmps20
  go_wp2_with fail
  refine (open_any w B A n c hB hb hn).mono ?_
  rintro e w1 ⟨rfl, hb1, hc1⟩
  have hs1 := hb1.size
  rw [hbc] at hc1 ⊢
  have hlt := hc1.lt
  go_wp2_with fail
  refine (cons_any w1 bc A n c 0 hc1 (by omega) hn).mono ?_
  rintro e w2 ⟨g, cap, m, rfl, hm, ⟨l, ho2⟩, hc2, hk2⟩
  go_wp2_with fail
  rw [act_tm _ 38 rfl]
  refine region_slots2 38 _ (fun k _ _ w' => DfG bc A n c 200 w1.heap.size w1 g cap m l k w') (DfC bc g cap m) (ConK2 bc bc) (by kernel_rfl) (by kernel_rfl) ⟨Cur.more (show Cur w2.drew bc A n c _ from hc2) (by omega), hk2.drew, ho2⟩ (fun _ _ _ _ hr hx => hx.keep hr) (AllFrom.all (AllFrom.cons ?o0 (AllFrom.cons ?o1 (AllFrom.cons ?o2 (AllFrom.cons ?o3 (AllFrom.cons ?o4 (AllFrom.cons ?o5 (AllFrom.cons ?o6 (AllFrom.cons ?o7 (AllFrom.cons ?o8 (AllFrom.cons ?o9 (AllFrom.cons ?o10 (AllFrom.cons ?o11 (AllFrom.cons ?o12 (AllFrom.cons ?o13 (AllFrom.cons ?o14 (AllFrom.cons ?o15 (AllFrom.cons ?o16 (AllFrom.cons ?o17 (AllFrom.cons ?o18 (AllFrom.cons ?o19 (AllFrom.cons ?o20 (AllFrom.cons ?o21 (AllFrom.cons ?o22 (AllFrom.cons ?o23 (AllFrom.cons ?o24 (AllFrom.cons ?o25 (AllFrom.cons ?o26 (AllFrom.cons ?o27 (AllFrom.cons ?o28 (AllFrom.cons ?o29 AllFrom.nil))))))))))))))))))))))))))))))) ?fin
  case o0 =>
    intro k d f w3 hk hun hcl hwt hG hf hC
    have hk30 : k < 30 := hk
    have e0 : (tm 38 f).tmps[6]?.getD undef = .slice (some ⟨g, 0, none⟩) m cap := (tm_get (by omega) f).trans (hf 6 (frame_of (by kernel_rfl)))
    refine op_wp rfl rfl fun K' hK' => ?_
    go_simp
    exact hK' _ _ ⟨_, rfl, ConK2.refl _ _ _, hG.same, rfl⟩
  case o1 =>
    intro k d f w3 hk hun hcl hwt hG hf hC
    have hk30 : k < 30 := hk
    have e0 : (tm 38 f).tmps[5]?.getD undef = .pointer (some ⟨bc, 0, none⟩) := (tm_get (by omega) f).trans (hf 5 (frame_of (by kernel_rfl)))
    refine op_wp rfl rfl fun K' hK' => ?_
    go_simp
    exact hK' _ _ ⟨_, rfl, ConK2.refl _ _ _, hG.same, rfl⟩
  case o4 =>
    intro k d f w3 hk hun hcl hwt hG hf hC
    have hk30 : k < 30 := hk
    have e0 : (tm 38 f).tmps[5]?.getD undef = .pointer (some ⟨bc, 0, none⟩) := (tm_get (by omega) f).trans (hf 5 (frame_of (by kernel_rfl)))
    refine op_wp rfl rfl fun K' hK' => ?_
    go_simp
    exact hK' _ _ ⟨_, rfl, ConK2.refl _ _ _, hG.same, rfl⟩
  case o7 =>
    intro k d f w3 hk hun hcl hwt hG hf hC
    have hk30 : k < 30 := hk
    have e0 : (tm 38 f).tmps[5]?.getD undef = .pointer (some ⟨bc, 0, none⟩) := (tm_get (by omega) f).trans (hf 5 (frame_of (by kernel_rfl)))
    refine op_wp rfl rfl fun K' hK' => ?_
    go_simp
    exact hK' _ _ ⟨_, rfl, ConK2.refl _ _ _, hG.same, rfl⟩
  case o10 =>
    intro k d f w3 hk hun hcl hwt hG hf hC
    have hk30 : k < 30 := hk
    have e0 : (tm 38 f).tmps[5]?.getD undef = .pointer (some ⟨bc, 0, none⟩) := (tm_get (by omega) f).trans (hf 5 (frame_of (by kernel_rfl)))
    refine op_wp rfl rfl fun K' hK' => ?_
    go_simp
    exact hK' _ _ ⟨_, rfl, ConK2.refl _ _ _, hG.same, rfl⟩
  case o14 =>
    intro k d f w3 hk hun hcl hwt hG hf hC
    have hk30 : k < 30 := hk
    have e0 : (tm 38 f).tmps[5]?.getD undef = .pointer (some ⟨bc, 0, none⟩) := (tm_get (by omega) f).trans (hf 5 (frame_of (by kernel_rfl)))
    refine op_wp rfl rfl fun K' hK' => ?_
    go_simp
    exact hK' _ _ ⟨_, rfl, ConK2.refl _ _ _, hG.same, rfl⟩
  case o17 =>
    intro k d f w3 hk hun hcl hwt hG hf hC
    have hk30 : k < 30 := hk
    have e0 : (tm 38 f).tmps[5]?.getD undef = .pointer (some ⟨bc, 0, none⟩) := (tm_get (by omega) f).trans (hf 5 (frame_of (by kernel_rfl)))
    refine op_wp rfl rfl fun K' hK' => ?_
    go_simp
    exact hK' _ _ ⟨_, rfl, ConK2.refl _ _ _, hG.same, rfl⟩
  case o20 =>
    intro k d f w3 hk hun hcl hwt hG hf hC
    have hk30 : k < 30 := hk
    have e0 : (tm 38 f).tmps[5]?.getD undef = .pointer (some ⟨bc, 0, none⟩) := (tm_get (by omega) f).trans (hf 5 (frame_of (by kernel_rfl)))
    refine op_wp rfl rfl fun K' hK' => ?_
    go_simp
    exact hK' _ _ ⟨_, rfl, ConK2.refl _ _ _, hG.same, rfl⟩
  case o23 =>
    intro k d f w3 hk hun hcl hwt hG hf hC
    have hk30 : k < 30 := hk
    have e0 : (tm 38 f).tmps[5]?.getD undef = .pointer (some ⟨bc, 0, none⟩) := (tm_get (by omega) f).trans (hf 5 (frame_of (by kernel_rfl)))
    refine op_wp rfl rfl fun K' hK' => ?_
    go_simp
    exact hK' _ _ ⟨_, rfl, ConK2.refl _ _ _, hG.same, rfl⟩
  case o2 =>
    intro k d f w3 hk hun hcl hwt hG hf hC
    have hk30 : k < 30 := hk
    have e4 : (tm 38 f).tmps[12]?.getD undef = .pointer (some ⟨bc, 0, none⟩) := (tm_get (by omega) f).trans (hC 1 (by kernel_rfl))
    refine op_wp rfl rfl fun K' hK' => ?_
    go_simp
    refine (pick6_any w3 bc A n c _ hG.cur (by omega) hn).mono ?_
    rintro e w4 ⟨q, rfl, hq, hc4, hk4⟩
    exact hK' _ _ ⟨_, rfl, ConK2.of_kp hk4, hG.step hlt (hc4.more (by omega)) hk4, q, rfl⟩
  case o5 =>
    intro k d f w3 hk hun hcl hwt hG hf hC
    have hk30 : k < 30 := hk
    have e4 : (tm 38 f).tmps[15]?.getD undef = .pointer (some ⟨bc, 0, none⟩) := (tm_get (by omega) f).trans (hC 4 (by kernel_rfl))
    refine op_wp rfl rfl fun K' hK' => ?_
    go_simp
    refine (pick5_any w3 bc A n c _ hG.cur (by omega) hn).mono ?_
    rintro e w4 ⟨q, rfl, hq, hc4, hk4⟩
    exact hK' _ _ ⟨_, rfl, ConK2.of_kp hk4, hG.step hlt (hc4.more (by omega)) hk4, q, rfl⟩
  case o15 =>
    intro k d f w3 hk hun hcl hwt hG hf hC
    have hk30 : k < 30 := hk
    have e4 : (tm 38 f).tmps[25]?.getD undef = .pointer (some ⟨bc, 0, none⟩) := (tm_get (by omega) f).trans (hC 14 (by kernel_rfl))
    refine op_wp rfl rfl fun K' hK' => ?_
    go_simp
    refine (pick6_any w3 bc A n c _ hG.cur (by omega) hn).mono ?_
    rintro e w4 ⟨q, rfl, hq, hc4, hk4⟩
    exact hK' _ _ ⟨_, rfl, ConK2.of_kp hk4, hG.step hlt (hc4.more (by omega)) hk4, q, rfl⟩
  case o18 =>
    intro k d f w3 hk hun hcl hwt hG hf hC
    have hk30 : k < 30 := hk
    have e4 : (tm 38 f).tmps[28]?.getD undef = .pointer (some ⟨bc, 0, none⟩) := (tm_get (by omega) f).trans (hC 17 (by kernel_rfl))
    refine op_wp rfl rfl fun K' hK' => ?_
    go_simp
    refine (pick5_any w3 bc A n c _ hG.cur (by omega) hn).mono ?_
    rintro e w4 ⟨q, rfl, hq, hc4, hk4⟩
    exact hK' _ _ ⟨_, rfl, ConK2.of_kp hk4, hG.step hlt (hc4.more (by omega)) hk4, q, rfl⟩
  case o11 =>
    intro k d f w3 hk hun hcl hwt hG hf hC
    have hk30 : k < 30 := hk
    have e4 : (tm 38 f).tmps[21]?.getD undef = .pointer (some ⟨bc, 0, none⟩) := (tm_get (by omega) f).trans (hC 10 (by kernel_rfl))
    refine op_wp rfl rfl fun K' hK' => ?_
    go_simp
    refine (pick3_any w3 bc A n c _ hG.cur (by omega) hn).mono ?_
    rintro e w4 ⟨q, rfl, hq, hc4, hk4⟩
    exact hK' _ _ ⟨_, rfl, ConK2.of_kp hk4, hG.step hlt (hc4.more (by omega)) hk4, q, rfl, hq⟩
  case o24 =>
    intro k d f w3 hk hun hcl hwt hG hf hC
    have hk30 : k < 30 := hk
    have e4 : (tm 38 f).tmps[34]?.getD undef = .pointer (some ⟨bc, 0, none⟩) := (tm_get (by omega) f).trans (hC 23 (by kernel_rfl))
    refine op_wp rfl rfl fun K' hK' => ?_
    go_simp
    refine (pick3_any w3 bc A n c _ hG.cur (by omega) hn).mono ?_
    rintro e w4 ⟨q, rfl, hq, hc4, hk4⟩
    exact hK' _ _ ⟨_, rfl, ConK2.of_kp hk4, hG.step hlt (hc4.more (by omega)) hk4, q, rfl, hq⟩
  case o8 =>
    intro k d f w3 hk hun hcl hwt hG hf hC
    have hk30 : k < 30 := hk
    have e4 : (tm 38 f).tmps[18]?.getD undef = .pointer (some ⟨bc, 0, none⟩) := (tm_get (by omega) f).trans (hC 7 (by kernel_rfl))
    refine op_wp rfl rfl fun K' hK' => ?_
    go_simp
    refine (raw_any w3 bc A n c _ hG.cur (by omega) hn).mono ?_
    rintro e w4 ⟨x, rfl, hc4, hk4⟩
    exact hK' _ _ ⟨_, rfl, ConK2.of_kp hk4, hG.step hlt (hc4.more (by omega)) hk4, x, rfl⟩
  case o21 =>
    intro k d f w3 hk hun hcl hwt hG hf hC
    have hk30 : k < 30 := hk
    have e4 : (tm 38 f).tmps[31]?.getD undef = .pointer (some ⟨bc, 0, none⟩) := (tm_get (by omega) f).trans (hC 20 (by kernel_rfl))
    refine op_wp rfl rfl fun K' hK' => ?_
    go_simp
    refine (raw_any w3 bc A n c _ hG.cur (by omega) hn).mono ?_
    rintro e w4 ⟨x, rfl, hc4, hk4⟩
    exact hK' _ _ ⟨_, rfl, ConK2.of_kp hk4, hG.step hlt (hc4.more (by omega)) hk4, x, rfl⟩
  case o3 =>
    intro k d f w3 hk hun hcl hwt hG hf hC
    have hk30 : k < 30 := hk
    obtain ⟨x, hx⟩ := hC 2 (by kernel_rfl)
    have e4 : (tm 38 f).tmps[13]?.getD undef = .int .i64 x := (tm_get (by omega) f).trans hx
    clear hx
    refine op_wp rfl rfl fun K' hK' => ?_
    go_simp
    exact hK' _ _ ⟨_, rfl, ConK2.refl _ _ _, hG.same, _, rfl⟩
  case o6 =>
    intro k d f w3 hk hun hcl hwt hG hf hC
    have hk30 : k < 30 := hk
    obtain ⟨x, hx⟩ := hC 5 (by kernel_rfl)
    have e4 : (tm 38 f).tmps[16]?.getD undef = .int .i64 x := (tm_get (by omega) f).trans hx
    clear hx
    refine op_wp rfl rfl fun K' hK' => ?_
    go_simp
    exact hK' _ _ ⟨_, rfl, ConK2.refl _ _ _, hG.same, _, rfl⟩
  case o16 =>
    intro k d f w3 hk hun hcl hwt hG hf hC
    have hk30 : k < 30 := hk
    obtain ⟨x, hx⟩ := hC 15 (by kernel_rfl)
    have e4 : (tm 38 f).tmps[26]?.getD undef = .int .i64 x := (tm_get (by omega) f).trans hx
    clear hx
    refine op_wp rfl rfl fun K' hK' => ?_
    go_simp
    exact hK' _ _ ⟨_, rfl, ConK2.refl _ _ _, hG.same, _, rfl⟩
  case o19 =>
    intro k d f w3 hk hun hcl hwt hG hf hC
    have hk30 : k < 30 := hk
    obtain ⟨x, hx⟩ := hC 18 (by kernel_rfl)
    have e4 : (tm 38 f).tmps[29]?.getD undef = .int .i64 x := (tm_get (by omega) f).trans hx
    clear hx
    refine op_wp rfl rfl fun K' hK' => ?_
    go_simp
    exact hK' _ _ ⟨_, rfl, ConK2.refl _ _ _, hG.same, _, rfl⟩
  case o9 =>
    intro k d f w3 hk hun hcl hwt hG hf hC
    have hk30 : k < 30 := hk
    obtain ⟨x, hx⟩ := hC 3 (by kernel_rfl)
    obtain ⟨y, hy⟩ := hC 6 (by kernel_rfl)
    obtain ⟨z, hz⟩ := hC 8 (by kernel_rfl)
    have e1 : (tm 38 f).tmps[14]?.getD undef = .int .i64 x := (tm_get (by omega) f).trans hx
    have e2 : (tm 38 f).tmps[17]?.getD undef = .int .i64 y := (tm_get (by omega) f).trans hy
    have e3 : (tm 38 f).tmps[19]?.getD undef = .int .i64 z := (tm_get (by omega) f).trans hz
    clear hx hy hz
    refine op_wp rfl rfl fun K' hK' => ?_
    go_simp
    exact hK' _ _ ⟨_, rfl, ConK2.alloc _ _ _ _, hG.alloc hlt _, w3.heap.size, rfl, by have := hG.cur.lt; omega, x, y, z, Blk.made _ _ _⟩
  case o22 =>
    intro k d f w3 hk hun hcl hwt hG hf hC
    have hk30 : k < 30 := hk
    obtain ⟨x, hx⟩ := hC 16 (by kernel_rfl)
    obtain ⟨y, hy⟩ := hC 19 (by kernel_rfl)
    obtain ⟨z, hz⟩ := hC 21 (by kernel_rfl)
    have e1 : (tm 38 f).tmps[27]?.getD undef = .int .i64 x := (tm_get (by omega) f).trans hx
    have e2 : (tm 38 f).tmps[30]?.getD undef = .int .i64 y := (tm_get (by omega) f).trans hy
    have e3 : (tm 38 f).tmps[32]?.getD undef = .int .i64 z := (tm_get (by omega) f).trans hz
    clear hx hy hz
    refine op_wp rfl rfl fun K' hK' => ?_
    go_simp
    exact hK' _ _ ⟨_, rfl, ConK2.alloc _ _ _ _, hG.alloc hlt _, w3.heap.size, rfl, by have := hG.cur.lt; omega, x, y, z, Blk.made _ _ _⟩
  case o12 =>
    intro k d f w3 hk hun hcl hwt hG hf hC
    have hk30 : k < 30 := hk
    obtain ⟨h, hh, hne, hl⟩ := hC 9 (by kernel_rfl)
    obtain ⟨q, hq, hq3⟩ := hC 11 (by kernel_rfl)
    have e7 : (tm 38 f).tmps[20]?.getD undef = .slice (some ⟨h, 0, none⟩) 3 3 := (tm_get (by omega) f).trans hh
    have e9 : (tm 38 f).tmps[22]?.getD undef = .int .i64 (q : Int) := (tm_get (by omega) f).trans hq
    clear hh hq
    have hri : (q : Int) < 3 := by omega
    refine op_wp rfl rfl fun K' hK' => ?_
    go_simp
    exact hK' _ _ ⟨_, rfl, ConK2.refl _ _ _, hG.same, h, q, rfl, hne, hq3, hl⟩
  case o25 =>
    intro k d f w3 hk hun hcl hwt hG hf hC
    have hk30 : k < 30 := hk
    obtain ⟨h, hh, hne, hl⟩ := hC 22 (by kernel_rfl)
    obtain ⟨q, hq, hq3⟩ := hC 24 (by kernel_rfl)
    have e7 : (tm 38 f).tmps[33]?.getD undef = .slice (some ⟨h, 0, none⟩) 3 3 := (tm_get (by omega) f).trans hh
    have e9 : (tm 38 f).tmps[35]?.getD undef = .int .i64 (q : Int) := (tm_get (by omega) f).trans hq
    clear hh hq
    have hri : (q : Int) < 3 := by omega
    refine op_wp rfl rfl fun K' hK' => ?_
    go_simp
    exact hK' _ _ ⟨_, rfl, ConK2.refl _ _ _, hG.same, h, q, rfl, hne, hq3, hl⟩
  case o13 =>
    intro k d f w3 hk hun hcl hwt hG hf hC
    have hk30 : k < 30 := hk
    obtain ⟨h, q, hh, hne, hq3, hl⟩ := hC 12 (by kernel_rfl)
    have e10 : (tm 38 f).tmps[23]?.getD undef = .pointer (some ⟨h, q, none⟩) := (tm_get (by omega) f).trans hh
    obtain ⟨x, hcell⟩ := lit3_at hl hq3
    clear hh
    refine op_wp rfl rfl fun K' hK' => ?_
    go_simp
    exact hK' _ _ ⟨_, rfl, ConK2.refl _ _ _, hG.same, x, rfl⟩
  case o26 =>
    intro k d f w3 hk hun hcl hwt hG hf hC
    have hk30 : k < 30 := hk
    obtain ⟨h, q, hh, hne, hq3, hl⟩ := hC 25 (by kernel_rfl)
    have e10 : (tm 38 f).tmps[36]?.getD undef = .pointer (some ⟨h, q, none⟩) := (tm_get (by omega) f).trans hh
    obtain ⟨x, hcell⟩ := lit3_at hl hq3
    clear hh
    refine op_wp rfl rfl fun K' hK' => ?_
    go_simp
    exact hK' _ _ ⟨_, rfl, ConK2.refl _ _ _, hG.same, x, rfl⟩
  case o27 =>
    intro k d f w3 hk hun hcl hwt hG hf hC
    have hk30 : k < 30 := hk
    have e4 : (tm 38 f).tmps[11]?.getD undef = .slice (some ⟨g, 0, none⟩) m cap := (tm_get (by omega) f).trans (hC 0 (by kernel_rfl))
    refine op_wp rfl rfl fun K' hK' => ?_
    go_simp
    exact hK' _ _ ⟨_, rfl, ConK2.refl _ _ _, hG.same, rfl⟩
  case o28 =>
    intro k d f w3 hk hun hcl hwt hG hf hC
    have hk30 : k < 30 := hk
    obtain ⟨x, hx⟩ := hC 13 (by kernel_rfl)
    have e4 : (tm 38 f).tmps[24]?.getD undef = .int .i64 x := (tm_get (by omega) f).trans hx
    clear hx
    refine op_wp rfl rfl fun K' hK' => ?_
    go_simp
    exact hK' _ _ ⟨_, rfl, ConK2.refl _ _ _, hG.same, _, rfl⟩
  case o29 =>
    intro k d f w3 hk hun hcl hwt hG hf hC
    have hk30 : k < 30 := hk
    obtain ⟨x, hx⟩ := hC 26 (by kernel_rfl)
    have e4 : (tm 38 f).tmps[37]?.getD undef = .int .i64 x := (tm_get (by omega) f).trans hx
    clear hx
    refine op_wp rfl rfl fun K' hK' => ?_
    go_simp
    exact hK' _ _ ⟨_, rfl, ConK2.refl _ _ _, hG.same, _, rfl⟩
  case fin =>
    intro k d f w3 hk hall hG hf hC
    obtain ⟨x, hx⟩ := hC 28 (by decide)
    obtain ⟨y, hy⟩ := hC 29 (by decide)
    have e2 : f 2 = .slice (some ⟨g, 0, none⟩) m cap := hC 27 (by decide)
    have e3 : f 3 = .int .i64 x := hx
    have e4 : f 4 = .int .i64 y := hy
    have HB3 : Hid (Below w.heap.size w w3) := Kp.below hb1 hG.kp (by omega) (by omega)
    have HO3 : Hid (OwnC w3 w.heap.size (some ⟨g, 0, none⟩) m cap l) := own_base hG.own (by omega)
    clear hC hf hall hG hx hy hb1 hc1 hc2 hk2 ho2
    rw [tm38 f, e2, e3, e4]
    clear e2 e3 e4
    go_wp2
    refine bodyPost_ret (v := .tuple #[.slice (some ⟨g, 0, none⟩) m cap, .int .i64 x, .int .i64 y]) ?_ rfl ⟨⟨g, cap, m, l, x, y, rfl, by omega, HO3.out⟩, HB3.out⟩
    simp [results, Try.results20, go_sem]
end Go.Proofs.Ytmmhcpigcdlnmaa
