/- The cursor draws a constraint: con, by the operations one by one. -/
/- A region that draws its order, by an invariant that speaks of the slots, too. -/
import Derived.Test.YtgebjnoicgmdoaaGreatDoorRegInv

namespace Go.Proofs.YtgebjnoicgmdoaaGreatDoor
open Go.RowKit
open Cs (Cn)

/-- a block of three numbers, as a constraint is kept -/
def Con3 (w : World) (g : Nat) : Prop := ∃ U R V : Int, Blk w g 41 #[.int .i64 U, .int .i64 R, .int .i64 V]
/-- the literal of six numbers -/
def Lit6 (w : World) (g : Nat) : Prop := Blk w g 3 #[.int .i64 0, .int .i64 0, .int .i64 0, .int .i64 1, .int .i64 1, .int .i64 2]
/-- what each operation keeps -/
def ConK (bc : Nat) (w w' : World) : Prop := w.heap.size ≤ w'.heap.size ∧ ∀ g, g ≠ bc → (Lit6 w g → Lit6 w' g) ∧ (Con3 w g → Con3 w' g)
theorem ConK.of_kp {bc : Nat} {w w' : World} (h : Kp bc w w') : ConK bc w w' := ⟨h.size, fun _ hg => ⟨fun hl => Kp.blk hl h hg, fun ⟨U, R, V, hb⟩ => ⟨U, R, V, Kp.blk hb h hg⟩⟩⟩
theorem ConK.alloc (bc : Nat) (w : World) (o : Obj) : ConK bc w (w.alloc o) := ConK.of_kp ((Kp.refl bc w).alloc o)
theorem ConK.refl (bc : Nat) (w : World) : ConK bc w w := ConK.of_kp (Kp.refl bc w)
/-- what has come up -/
def upTo (d : Nat → Bool) : Nat := (if d 1 = true then 1 else 0) + (if d 5 = true then 1 else 0) + (if d 9 = true then 1 else 0)
/-- what lies in the slot of each operation of con once it has come up -/
def ConC (bc lo : Nat) (i : Nat) (v : Value) (w : World) : Prop :=
  match i with
  | 0 | 4 | 8 => v = .pointer (some ⟨bc, 0, none⟩)
  | 1 | 5 | 9 => ∃ r : Nat, v = .int .i64 r ∧ r < 6
  | 2 | 7 => ∃ x : Int, v = .int .i64 x
  | 3 => ∃ g, v = .slice (some ⟨g, 0, none⟩) 6 6 ∧ g ≠ bc ∧ Lit6 w g
  | 6 => ∃ g r : Nat, v = .pointer (some ⟨g, r, none⟩) ∧ g ≠ bc ∧ r < 6 ∧ Lit6 w g
  | 10 => ∃ U R V : Int, v = .agg #[.int .i64 U, .int .i64 R, .int .i64 V]
  | 11 => ∃ g, v = .pointer (some ⟨g, 0, none⟩) ∧ g ≠ bc ∧ lo < g ∧ Con3 w g
  | _ => True
theorem ConC.keep {bc lo i : Nat} {v : Value} {w w' : World} (hk : ConK bc w w') (h : ConC bc lo i v w) : ConC bc lo i v w' := by
  unfold ConC at h ⊢
  split at h
  all_goals first
    | exact h
    | (obtain ⟨g, h1, h2, h3⟩ := h; exact ⟨g, h1, h2, (hk.2 g h2).1 h3⟩)
    | (obtain ⟨g, r, h1, h2, h3, h4⟩ := h; exact ⟨g, r, h1, h2, h3, (hk.2 g h2).1 h4⟩)
    | (obtain ⟨g, h1, h2, h3, h4⟩ := h; exact ⟨g, h1, h2, h3, (hk.2 g h2).2 h4⟩)
    | trivial
theorem act_tm (a : Array Value) (N : Nat) (h : a.size = N) : ({ tmps := a, defers := [] } : Act) = tm N (fun t => a.getD t undef) := by
  subst h
  unfold tm
  congr 1
  apply Array.ext (by simp)
  intro i h1 h2
  simp [Array.getD, h1]

theorem tm19 (f : Nat → Value) : tm 19 f = { tmps := #[f 0, f 1, f 2, f 3, f 4, f 5, f 6, f 7, f 8, f 9, f 10, f 11, f 12, f 13, f 14, f 15, f 16, f 17, f 18], defers := [] } := rfl
theorem tm_get {N t : Nat} (h : t < N) (f : Nat → Value) : (tm N f).tmps[t]?.getD undef = f t := by simp [tm, h]
theorem upTo_le (d : Nat → Bool) : upTo d ≤ 3 := by unfold upTo; split <;> split <;> split <;> omega
theorem upTo_no {d : Nat → Bool} {i : Nat} (h1 : i ≠ 1) (h5 : i ≠ 5) (h9 : i ≠ 9) : upTo (mark d i) = upTo d := by simp [upTo, mark, h1.symm, h5.symm, h9.symm]
theorem upTo_one {d : Nat → Bool} {i : Nat} (hi : i = 1 ∨ i = 5 ∨ i = 9) (h : d i = false) : upTo (mark d i) = upTo d + 1 := by
  rcases hi with rfl | rfl | rfl <;> simp [upTo, mark, h] <;> omega
/-- what goes along with the operations of con -/
structure ConG (bc : Nat) (A : Option Addr) (n c K : Nat) (w0 : World) (d : Nat → Bool) (w : World) : Prop where
  cur : Cur w bc A n c (K + upTo d)
  kp : Kp bc w0 w
  res : Con3 w w0.heap.size
section
variable {bc n c K : Nat} {A : Option Addr} {w0 w w' : World} {d : Nat → Bool} {i : Nat}
theorem ConG.same (h : ConG bc A n c K w0 d w) (h1 : i ≠ 1) (h5 : i ≠ 5) (h9 : i ≠ 9) : ConG bc A n c K w0 (mark d i) w := ⟨by rw [upTo_no h1 h5 h9]; exact h.cur, h.kp, h.res⟩
theorem ConG.alloc (h : ConG bc A n c K w0 d w) (o : Obj) : ConG bc A n c K w0 d (w.alloc o) := ⟨h.cur.alloc o, h.kp.alloc o, by obtain ⟨U, R, V, hb⟩ := h.res; exact ⟨U, R, V, hb.alloc o⟩⟩
theorem ConG.pick (hlt : bc < w0.heap.size) (h : ConG bc A n c K w0 d w) (hi : i = 1 ∨ i = 5 ∨ i = 9) (hd : d i = false) (hc : Cur w' bc A n c (K + upTo d + 1)) (hk : Kp bc w w') : ConG bc A n c K w0 (mark d i) w' :=
  ⟨by rw [upTo_one hi hd]; exact hc, h.kp.trans hk, by obtain ⟨U, R, V, hb⟩ := h.res; exact ⟨U, R, V, Kp.blk hb hk (by omega)⟩⟩
/-- three cells of a block that is the call's own are written -/
theorem grown3 (w : World) (g : Nat) (a b e : Value) : w.grownBy (((w.setCell ⟨g, 0, none⟩ a).setCell ⟨g, 1, none⟩ b).setCell ⟨g, 2, none⟩ e) (some g) :=
  ⟨rfl, rfl, rfl, by simp [World.setCell], fun k _ hk => by
    have hk' : k ≠ g := fun e => hk (by rw [e])
    rw [Below.heap_setCell _ _ _ _ hk', Below.heap_setCell _ _ _ _ hk', Below.heap_setCell _ _ _ _ hk']⟩
theorem con3_put {g : Nat} (h : Con3 w g) (U R V : Int) : Blk (((w.setCell ⟨g, 0, none⟩ (.int .i64 U)).setCell ⟨g, 1, none⟩ (.int .i64 R)).setCell ⟨g, 2, none⟩ (.int .i64 V)) g 41 #[.int .i64 U, .int .i64 R, .int .i64 V] := by
  obtain ⟨a, b, e, hb⟩ := h
  have := ((hb.put 0 (.int .i64 U)).put 1 (.int .i64 R)).put 2 (.int .i64 V)
  simpa using this
theorem con3_apart {g k : Nat} (hl : Lit6 w g) (h : Con3 w k) : g ≠ k := fun e => by
  obtain ⟨a, b, e', hb⟩ := h
  subst e
  unfold Lit6 at hl
  have h1 : w.heap[g]? = _ := hl
  have h2 : w.heap[g]? = _ := hb
  rw [h1] at h2
  cases h2
end
theorem lit_at {w : World} {g r : Nat} (h : Lit6 w g) (hr : r < 6) : w.cell? ⟨g, r, none⟩ = some (.int .i64 (rel6 r)) := by
  have hb : Blk w g 3 #[.int .i64 0, .int .i64 0, .int .i64 0, .int .i64 1, .int .i64 1, .int .i64 2] := h
  rw [hb.cell]
  obtain rfl | rfl | rfl | rfl | rfl | rfl : r = 0 ∨ r = 1 ∨ r = 2 ∨ r = 3 ∨ r = 4 ∨ r = 5 := by omega
  all_goals rfl

set_option maxRecDepth 100000 in
set_option maxHeartbeats 8000000 in
theorem con_any : ConDraws := fun w bc A n c K hc hK hn => by
  have hlt := hc.lt
  obtain ⟨W0, hW0⟩ : ∃ W, w.alloc (.cells #[.int .i64 0, .int .i64 0, .int .i64 0] 41) = W := ⟨_, rfl⟩
  have hc0 : Cur W0.drew bc A n c K := by rw [← hW0]; exact hc.alloc _
  have hk0 : Kp bc w W0.drew := by rw [← hW0]; exact ((Kp.refl bc w).alloc _).drew
  have hb0 : Con3 W0.drew w.heap.size := by
    have : Blk W0 w.heap.size 41 #[.int .i64 0, .int .i64 0, .int .i64 0] := by rw [← hW0]; exact Blk.made _ _ _
    exact ⟨0, 0, 0, this⟩
  clear hc
  go_enter Tryz.func67, Tryz.ntmps67
  go_wp2_with fail
  clear hW0
  rw [act_tm _ 19 rfl]
  refine region_slots 19 _ (fun _ d w' => ConG bc A n c K w d w') (ConC bc w.heap.size) (ConK bc) (by kernel_rfl) (by kernel_rfl) ⟨hc0.more (by omega), hk0, hb0⟩ (fun _ _ _ _ hr hx => hx.keep hr) (AllFrom.all (AllFrom.cons ?o0 (AllFrom.cons ?o1 (AllFrom.cons ?o2 (AllFrom.cons ?o3 (AllFrom.cons ?o4 (AllFrom.cons ?o5 (AllFrom.cons ?o6 (AllFrom.cons ?o7 (AllFrom.cons ?o8 (AllFrom.cons ?o9 (AllFrom.cons ?o10 (AllFrom.cons ?o11 (AllFrom.cons ?o12 AllFrom.nil)))))))))))))) ?fin
  case o0 =>
    intro k d f w1 hk hun hcl hG hf hC
    have e0 : (tm 19 f).tmps[0]?.getD undef = .pointer (some ⟨bc, 0, none⟩) := (tm_get (by omega) f).trans (hf 0 (frame_of (by kernel_rfl)))
    refine op_wp rfl rfl fun K' hK' => ?_
    go_simp
    exact hK' _ _ ⟨_, rfl, ConK.refl _ _, hG.same (by decide) (by decide) (by decide), rfl⟩
  case o4 =>
    intro k d f w1 hk hun hcl hG hf hC
    have e0 : (tm 19 f).tmps[0]?.getD undef = .pointer (some ⟨bc, 0, none⟩) := (tm_get (by omega) f).trans (hf 0 (frame_of (by kernel_rfl)))
    refine op_wp rfl rfl fun K' hK' => ?_
    go_simp
    exact hK' _ _ ⟨_, rfl, ConK.refl _ _, hG.same (by decide) (by decide) (by decide), rfl⟩
  case o8 =>
    intro k d f w1 hk hun hcl hG hf hC
    have e0 : (tm 19 f).tmps[0]?.getD undef = .pointer (some ⟨bc, 0, none⟩) := (tm_get (by omega) f).trans (hf 0 (frame_of (by kernel_rfl)))
    refine op_wp rfl rfl fun K' hK' => ?_
    go_simp
    exact hK' _ _ ⟨_, rfl, ConK.refl _ _, hG.same (by decide) (by decide) (by decide), rfl⟩
  case o1 =>
    intro k d f w1 hk hun hcl hG hf hC
    have e4 : (tm 19 f).tmps[4]?.getD undef = .pointer (some ⟨bc, 0, none⟩) := (tm_get (by omega) f).trans (hC 0 (by kernel_rfl))
    have hu := upTo_le d
    refine op_wp rfl rfl fun K' hK' => ?_
    go_simp
    refine (pick5_any w1 bc A n c _ hG.cur (by omega) hn).mono ?_
    rintro e w2 ⟨r, rfl, hr, hc2, hk2⟩
    exact hK' _ _ ⟨_, rfl, ConK.of_kp hk2, hG.pick hlt (.inl rfl) hun hc2 hk2, r, rfl, by omega⟩
  case o5 =>
    intro k d f w1 hk hun hcl hG hf hC
    have e4 : (tm 19 f).tmps[8]?.getD undef = .pointer (some ⟨bc, 0, none⟩) := (tm_get (by omega) f).trans (hC 4 (by kernel_rfl))
    have hu := upTo_le d
    refine op_wp rfl rfl fun K' hK' => ?_
    go_simp
    refine (pick6_any w1 bc A n c _ hG.cur (by omega) hn).mono ?_
    rintro e w2 ⟨r, rfl, hr, hc2, hk2⟩
    exact hK' _ _ ⟨_, rfl, ConK.of_kp hk2, hG.pick hlt (.inr (.inl rfl)) hun hc2 hk2, r, rfl, by omega⟩
  case o9 =>
    intro k d f w1 hk hun hcl hG hf hC
    have e4 : (tm 19 f).tmps[12]?.getD undef = .pointer (some ⟨bc, 0, none⟩) := (tm_get (by omega) f).trans (hC 8 (by kernel_rfl))
    have hu := upTo_le d
    refine op_wp rfl rfl fun K' hK' => ?_
    go_simp
    refine (pick4_any w1 bc A n c _ hG.cur (by omega) hn).mono ?_
    rintro e w2 ⟨r, rfl, hr, hc2, hk2⟩
    exact hK' _ _ ⟨_, rfl, ConK.of_kp hk2, hG.pick hlt (.inr (.inr rfl)) hun hc2 hk2, r, rfl, by omega⟩
  case o2 =>
    intro k d f w1 hk hun hcl hG hf hC
    obtain ⟨r, hr, hr6⟩ := hC 1 (by kernel_rfl)
    have e5 : (tm 19 f).tmps[5]?.getD undef = .int .i64 (r : Int) := (tm_get (by omega) f).trans hr
    clear hr
    refine op_wp rfl rfl fun K' hK' => ?_
    go_simp
    exact hK' _ _ ⟨_, rfl, ConK.refl _ _, hG.same (by decide) (by decide) (by decide), _, rfl⟩
  case o3 =>
    intro k d f w1 hk hun hcl hG hf hC
    refine op_wp rfl rfl fun K' hK' => ?_
    go_simp
    exact hK' _ _ ⟨_, rfl, ConK.alloc _ _ _, (hG.alloc _).same (by decide) (by decide) (by decide), w1.heap.size, rfl, by have := hG.cur.lt; omega, Blk.made _ _ _⟩
  case o6 =>
    intro k d f w1 hk hun hcl hG hf hC
    obtain ⟨g, hg, hne, hl⟩ := hC 3 (by kernel_rfl)
    obtain ⟨r, hr, hr6⟩ := hC 5 (by kernel_rfl)
    have e7 : (tm 19 f).tmps[7]?.getD undef = .slice (some ⟨g, 0, none⟩) 6 6 := (tm_get (by omega) f).trans hg
    have e9 : (tm 19 f).tmps[9]?.getD undef = .int .i64 (r : Int) := (tm_get (by omega) f).trans hr
    clear hr hg
    have hri : (r : Int) < 6 := by omega
    refine op_wp rfl rfl fun K' hK' => ?_
    go_simp
    exact hK' _ _ ⟨_, rfl, ConK.refl _ _, hG.same (by decide) (by decide) (by decide), g, r, rfl, hne, hr6, hl⟩
  case o7 =>
    intro k d f w1 hk hun hcl hG hf hC
    obtain ⟨g, r, hg, hne, hr6, hl⟩ := hC 6 (by kernel_rfl)
    have e10 : (tm 19 f).tmps[10]?.getD undef = .pointer (some ⟨g, r, none⟩) := (tm_get (by omega) f).trans hg
    have hcell := lit_at hl hr6
    clear hg
    refine op_wp rfl rfl fun K' hK' => ?_
    go_simp
    exact hK' _ _ ⟨_, rfl, ConK.refl _ _, hG.same (by decide) (by decide) (by decide), _, rfl⟩
  case o10 =>
    intro k d f w1 hk hun hcl hG hf hC
    obtain ⟨U, hU⟩ := hC 2 (by kernel_rfl)
    obtain ⟨R, hR⟩ := hC 7 (by kernel_rfl)
    obtain ⟨V, hV, _⟩ := hC 9 (by kernel_rfl)
    have e6 : (tm 19 f).tmps[6]?.getD undef = .int .i64 U := (tm_get (by omega) f).trans hU
    have e11 : (tm 19 f).tmps[11]?.getD undef = .int .i64 R := (tm_get (by omega) f).trans hR
    have e13 : (tm 19 f).tmps[13]?.getD undef = .int .i64 (V : Int) := (tm_get (by omega) f).trans hV
    clear hU hR hV
    refine op_wp rfl rfl fun K' hK' => ?_
    go_simp
    exact hK' _ _ ⟨_, rfl, ConK.refl _ _, hG.same (by decide) (by decide) (by decide), _, _, _, rfl⟩
  case o11 =>
    intro k d f w1 hk hun hcl hG hf hC
    refine op_wp rfl rfl fun K' hK' => ?_
    go_simp
    exact hK' _ _ ⟨_, rfl, ConK.alloc _ _ _, (hG.alloc _).same (by decide) (by decide) (by decide), w1.heap.size, rfl, by have := hG.cur.lt; omega, by obtain ⟨_, _, _, hb⟩ := hG.res; exact hb.lt, 0, 0, 0, Blk.made _ _ _⟩
  case o12 =>
    intro k d f w1 hk hun hcl hG hf hC
    obtain ⟨g, hg, hne, hlo, h3⟩ := hC 11 (by kernel_rfl)
    obtain ⟨U, R, V, hv⟩ := hC 10 (by kernel_rfl)
    have e3 : (tm 19 f).tmps[3]?.getD undef = .pointer (some ⟨g, 0, none⟩) := (tm_get (by omega) f).trans hg
    have e14 : (tm 19 f).tmps[14]?.getD undef = .agg #[.int .i64 U, .int .i64 R, .int .i64 V] := (tm_get (by omega) f).trans hv
    clear hg hv
    have H3 := Lib.hid h3
    obtain ⟨a, b, e', hb⟩ := h3
    have c0 : w1.cell? ⟨g, 0, none⟩ = some (.int .i64 a) := hb.cell 0
    have c1 : w1.cell? ⟨g, 1, none⟩ = some (.int .i64 b) := hb.cell 1
    have c2 : w1.cell? ⟨g, 2, none⟩ = some (.int .i64 e') := hb.cell 2
    have f0 := hb.thawed 0
    have f1 := hb.thawed 1
    have f2 := hb.thawed 2
    refine op_wp rfl rfl fun K' hK' => ?_
    go_simp
    have hgr := grown3 w1 g (.int .i64 U) (.int .i64 R) (.int .i64 V)
    have hput := con3_put H3.out U R V
    refine hK' _ _ ⟨undef, rfl, ⟨hgr.size, fun q hq => ⟨fun hl => hl.grown hgr (fun he => con3_apart hl H3.out (Option.some.inj he)), fun h => ?_⟩⟩, ⟨?_, ?_, ?_⟩, trivial⟩
    · by_cases e : q = g
      · subst e; exact ⟨U, R, V, hput⟩
      · obtain ⟨a, b, e', hb⟩ := h; exact ⟨a, b, e', hb.grown hgr (fun he => e (Option.some.inj he))⟩
    · rw [upTo_no (by decide) (by decide) (by decide)]
      exact hG.cur.grown hgr (fun k hk => by injection hk with hk; omega)
    · exact hG.kp.more hgr (fun k hk => by injection hk with hk; omega)
    · obtain ⟨a, b, e', hb⟩ := hG.res; exact ⟨a, b, e', hb.grown hgr (fun he => by injection he with he; omega)⟩
  case fin =>
    intro k d f w1 hk hall hG hf hC
    obtain ⟨g, hg, hne, hlo, h3⟩ := hC 11 (by decide)
    have e0 := hf 0 (frame_of (by kernel_rfl))
    have e2 := hf 2 (frame_of (by kernel_rfl))
    have e3 : f 3 = .pointer (some ⟨g, 0, none⟩) := hg
    have hu := upTo_le d
    rename_i Q2 K2 hK2
    show K2 (tm 19 f) w1
    refine hK2 _ _ ?_
    rw [tm19 f, e0, e2, e3]
    simp only [Array.getD_eq_getD_getElem?, List.getElem?_toArray, List.getElem?_cons_zero, List.getElem?_cons_succ, Option.getD_some]
    clear e0 e2 e3 hg hC hf hall hK2 hc0 hk0 hb0
    generalize f 1 = v1
    generalize f 4 = v4
    generalize f 5 = v5
    generalize f 6 = v6
    generalize f 7 = v7
    generalize f 8 = v8
    generalize f 9 = v9
    generalize f 10 = v10
    generalize f 11 = v11
    generalize f 12 = v12
    generalize f 13 = v13
    generalize f 14 = v14
    generalize f 15 = v15
    generalize f 16 = v16
    generalize f 17 = v17
    generalize f 18 = v18
    go_wp2_with fail
    refine (once_any w1 bc A n c _ 9 hG.cur (by omega) (by omega) hn).mono ?_
    rintro e w2 ⟨r, rfl, hc2, hk2⟩
    have HC2 := Lib.hid hc2
    have HK2 := Lib.hid (hG.kp.trans hk2)
    have HG2 : Hid (Con3 w2 g) := by obtain ⟨U, R, V, hb⟩ := h3; exact ⟨U, R, V, Kp.blk hb hk2 hne⟩
    have HR2 : Hid (Con3 w2 w.heap.size) := by obtain ⟨U, R, V, hb⟩ := hG.res; exact ⟨U, R, V, Kp.blk hb hk2 (by omega)⟩
    obtain ⟨U, R, V, hb⟩ := HG2.out
    have c0 : w2.cell? ⟨g, 0, none⟩ = some (.int .i64 U) := hb.cell 0
    have c1 : w2.cell? ⟨g, 1, none⟩ = some (.int .i64 R) := hb.cell 1
    have c2 : w2.cell? ⟨g, 2, none⟩ = some (.int .i64 V) := hb.cell 2
    have f2 := hb.thawed 2
    obtain ⟨U', R', V', hb'⟩ := HR2.out
    have c0' : w2.cell? ⟨w.heap.size, 0, none⟩ = some (.int .i64 U') := hb'.cell 0
    have c1' : w2.cell? ⟨w.heap.size, 1, none⟩ = some (.int .i64 R') := hb'.cell 1
    have c2' : w2.cell? ⟨w.heap.size, 2, none⟩ = some (.int .i64 V') := hb'.cell 2
    have f0' := hb'.thawed 0
    have f1' := hb'.thawed 1
    have f2' := hb'.thawed 2
    have hgw : w.heap.size ≠ g := by omega
    have hK4 : K + upTo d + 1 ≤ K + 4 := by omega
    clear hb hb' hc2 hk2 h3 hG
    cases r with
    | true =>
      have hg1 : w2.grownBy (w2.setCell ⟨g, 2, none⟩ (.int .i64 (-1))) (some g) := (Wrote.set (g := g) 2 (.int .i64 (-1))).1
      have HC3 := Lib.hid (HC2.out.grown hg1 (fun k hk => by injection hk with hk; omega))
      have HK3 := Lib.hid (HK2.out.more hg1 (fun k hk => by injection hk with hk; omega))
      have hg2 := fun a b e => grown3 (w2.setCell ⟨g, 2, none⟩ (.int .i64 (-1))) w.heap.size a b e
      have HG3 := Lib.hid hg2
      clear hg1 hg2
      go_wp2
      refine bodyPost_ret (v := .agg #[.int .i64 U, .int .i64 R, .int .i64 (-1)]) ?_ rfl ⟨U, R, -1, rfl, (HC3.out.grown (HG3.out _ _ _) (fun k hk => by injection hk with hk; omega)).more hK4, HK3.out.more (HG3.out _ _ _) (fun k hk => by injection hk with hk; omega)⟩
      simp [results, Tryz.results67, go_sem, c0', c1', c2']
    | false =>
      have hg2 := fun a b e => grown3 w2 w.heap.size a b e
      have HG3 := Lib.hid hg2
      clear hg2
      go_wp2
      refine bodyPost_ret (v := .agg #[.int .i64 U, .int .i64 R, .int .i64 V]) ?_ rfl ⟨U, R, V, rfl, (HC2.out.grown (HG3.out _ _ _) (fun k hk => by injection hk with hk; omega)).more hK4, HK2.out.more (HG3.out _ _ _) (fun k hk => by injection hk with hk; omega)⟩
      simp [results, Tryz.results67, go_sem, c0', c1', c2']
end Go.Proofs.YtgebjnoicgmdoaaGreatDoor

namespace Go.Proofs.YtgebjnoicgmdoaaGreatDoor
open Go

section
variable {P : Program} {ops : Array Oper} {Q : Exit → Act → World → Prop}
theorem region_slots2 {id : Nat} (N : Nat) (f0 : Nat → Value) (G : Nat → (Nat → Bool) → (Nat → Value) → World → Prop) (C : Nat → Value → World → Prop) (R : World → World → Prop) {w : World}
    (hm : P.follows .mixedOrders = true) (hok : slotsOk ops = true) (h0 : G 0 (fun _ => false) f0 w.drew)
    (hkeep : ∀ i v w w', R w w' → C i v w → C i v w')
    (hstep : ∀ i o, ops[i]? = some o → ∀ k d f w, k < ops.size → d i = false → (∀ i j, d i = true → waitsFor ops i j = true → d j = true) → (∀ j, waitsFor ops i j = true → d j = true) → G k d f w → (∀ t, (∀ j, dstOf ops j = some t → d j = false) → f t = f0 t) → (∀ j, waitsFor ops i j = true → C j (slotV ops f j) w) →
      wpOp P ops Q i (fun a' w' => ∃ v, a' = (tm N f).put o.dst v ∧ R w w' ∧ G (k + 1) (mark d i) (upd f o.dst v) w' ∧ C i (match o.dst with | some _ => v | none => undef) w') (tm N f) w)
    (hend : ∀ k d f w, k ≤ ops.size → (∀ j, j < ops.size → d j = true) → G k d f w → (∀ t, (∀ j, dstOf ops j = some t → d j = false) → f t = f0 t) → (∀ j, j < ops.size → C j (slotV ops f j) w) → Q .normal (tm N f) w) :
    (Code.region id ops true).wp P Q (tm N f0) w := by
  refine wp_region_any hm ?_
  refine wpAny_inv (fun k listed a w => listed.size = ops.size ∧ ∃ f, a = tm N f ∧ G k (fun j => listed.getD j false) f w ∧ (∀ i j, listed.getD i false = true → waitsFor ops i j = true → listed.getD j false = true) ∧ (∀ t, (∀ j, dstOf ops j = some t → listed.getD j false = false) → f t = f0 t) ∧ ∀ j, listed.getD j false = true → C j (slotV ops f j) w) ?_ ?_ ops.size 0 _ _ _ (by omega) ?_ ?_
  · rintro k listed a w hk ⟨hs, f, rfl, hG, hcl, hf, hC⟩ i hi
    obtain ⟨hun, o, ho, hdep⟩ := mem_ready.1 hi
    have hi' : i < ops.size := (Array.getElem?_eq_some_iff.1 ho).1
    have hun' : listed.getD i false = false := by simpa [Array.getD, hs, hi'] using hun
    have hw : ∀ j, waitsFor ops i j = true → listed.getD j false = true := fun j hj => by
      unfold waitsFor at hj
      rw [ho] at hj
      obtain ⟨e, he, hb⟩ := Array.any_eq_true'.1 hj
      simp only [Bool.and_eq_true, beq_iff_eq] at hb
      rw [← hb.2]
      exact hdep e he hb.1
    refine wpOp_mono ?_ (hstep i o ho k _ f w hk hun' hcl hw hG hf fun j hj => hC j (hw j hj))
    · rintro a' w' ⟨v, rfl, hR, hG', hCi⟩
      have hmk : mark (fun j => listed.getD j false) i = fun j => (listed.setIfInBounds i true).getD j false := by
        funext j
        unfold mark
        by_cases e : j = i
        · subst e; rw [if_pos rfl]; simp [Array.getD, hs, hi']
        · rw [if_neg e, getD_set_ne false (Ne.symm e)]
      rw [hmk] at hG'
      refine ⟨by simpa using hs, upd f o.dst v, tm_put N f o.dst v, hG', fun i' j' h1 h2 => ?_, fun t ht => ?_, fun j hj => ?_⟩
      · refine getD_set_true ?_
        by_cases e : i' = i
        · subst e
          unfold waitsFor at h2
          rw [ho] at h2
          obtain ⟨e, he, hb⟩ := Array.any_eq_true'.1 h2
          simp only [Bool.and_eq_true, beq_iff_eq] at hb
          rw [← hb.2]
          exact hdep e he hb.1
        · rw [getD_set_ne false (Ne.symm e)] at h1
          exact hcl i' j' h1 h2
      · have hti : o.dst ≠ some t := fun e => by
          have h1 := ht i (by simp [dstOf, ho, e])
          rw [show (listed.setIfInBounds i true).getD i false = true by simp [Array.getD, hs, hi']] at h1
          cases h1
        refine (upd_other f v hti).trans (hf t fun j hj => ?_)
        have h1 := ht j hj
        by_cases e : j = i
        · subst e; exact hun'
        · rwa [getD_set_ne false (Ne.symm e)] at h1
      · by_cases e : j = i
        · subst e
          have : slotV ops (upd f o.dst v) j = (match o.dst with | some _ => v | none => undef) := by
            unfold slotV dstOf
            rw [ho]
            simp only [Option.bind_some]
            cases hd : o.dst with
            | none => rfl
            | some t => exact upd_same f t v
          rw [this]
          exact hCi
        · rw [getD_set_ne false (Ne.symm e)] at hj
          have hj' : j < ops.size := by
            rcases Nat.lt_or_ge j listed.size with h | h
            · omega
            · simp [Array.getD, Nat.not_lt.2 h] at hj
          have : slotV ops (upd f o.dst v) j = slotV ops f j := by
            unfold slotV
            cases hd : dstOf ops j with
            | none => rfl
            | some t =>
              refine upd_other f v fun e' => ?_
              exact slotsOk_apart hok hj' hi' e hd (by simp [dstOf, ho, e'])
          rw [this]
          exact hkeep j _ w w' hR (hC j hj)
  · rintro k listed a w hk ⟨hs, f, rfl, hG, _, hf, hC⟩ hr
    have hall := ready_none hok hs hr
    exact hend k _ f w hk hall hG hf fun j hj => hC j (hall j hj)
  · simp
  · have hrep : ∀ j, (Array.replicate ops.size false).getD j false = false := fun j => by
      rcases Nat.lt_or_ge j ops.size with h | h
      · simp [Array.getD, h]
      · simp [Array.getD, Nat.not_lt.2 h]
    refine ⟨by simp, f0, rfl, ?_, (fun i j hi _ => by rw [hrep i] at hi; cases hi), fun _ _ => rfl, fun j hj => ?_⟩
    · rw [show (fun j => (Array.replicate ops.size false).getD j false) = fun _ => false from funext hrep]
      exact h0
    · rw [hrep j] at hj
      cases hj

/-- all operations come up ahead of this one -/
def feeds (ops : Array Oper) (top : Nat) : Bool := (List.range top).all fun i => (List.range (top + 1)).any fun j => decide (i < j) && waitsFor ops j i
theorem feeds_all {top : Nat} {d : Nat → Bool} (h : feeds ops top = true) (hcl : ∀ i j, d i = true → waitsFor ops i j = true → d j = true) (ht : d top = true) : ∀ n i, top - i ≤ n → i ≤ top → d i = true := by
  intro n
  induction n with
  | zero => intro i h1 h2; rw [show i = top by omega]; exact ht
  | succ n ih =>
    intro i h1 h2
    by_cases e : i = top
    · rw [e]; exact ht
    · unfold feeds at h
      have h3 := List.all_eq_true.1 h i (List.mem_range.2 (by omega))
      obtain ⟨j, hj, hb⟩ := List.any_eq_true.1 h3
      rw [List.mem_range] at hj
      simp only [Bool.and_eq_true, decide_eq_true_eq] at hb
      exact hcl j i (ih j (by omega) (by omega)) hb.2
theorem not_fed {top i : Nat} {d : Nat → Bool} (h : feeds ops top = true) (hcl : ∀ i j, d i = true → waitsFor ops i j = true → d j = true) (hi : i ≤ top) (hun : d i = false) : d top = false := by
  cases e : d top with
  | false => rfl
  | true => rw [feeds_all h hcl e _ i (Nat.le_refl _) hi] at hun; cases hun
/-- a slot that one operation alone writes -/
def onlyDst (ops : Array Oper) (t j0 : Nat) : Bool := (List.range ops.size).all fun j => dstOf ops j != some t || j == j0
theorem only_dst {t j0 : Nat} {d : Nat → Bool} (h : onlyDst ops t j0 = true) (hd : d j0 = false) : ∀ j, dstOf ops j = some t → d j = false := fun j hj => by
  have hj' : j < ops.size := by
    rcases Nat.lt_or_ge j ops.size with q | q
    · exact q
    · simp [dstOf, Array.getElem?_eq_none q] at hj
  have h1 := List.all_eq_true.1 h j (List.mem_range.2 hj')
  rw [hj] at h1
  simp at h1
  rw [h1]
  exact hd
/-- the slots after a region, on the slots before it -/
theorem tm_frame (N : Nat) (f : Nat → Value) : ∀ (L : List Nat) (f0 : Nat → Value), (∀ t, t ∉ L → f t = f0 t) → tm N f = L.foldl (fun a t => a.put (some t) (f t)) (tm N f0)
  | [], f0, h => by
    have : f = f0 := funext fun t => h t (by simp)
    rw [this]
    rfl
  | x :: L, f0, h => by
    rw [List.foldl_cons, tm_put]
    refine tm_frame N f L (upd f0 (some x) (f x)) fun t ht => ?_
    by_cases e : t = x
    · subst e; exact (upd_same _ _ _).symm
    · rw [upd_other _ _ (fun q => e (Option.some.inj q).symm)]
      exact h t (by simp [e, ht])
/-- these are all slots that the region writes -/
def covers (ops : Array Oper) (L : List Nat) : Bool := (List.range ops.size).all fun j => match dstOf ops j with | some t => L.contains t | none => true
theorem covers_not {L : List Nat} {t : Nat} {d : Nat → Bool} (h : covers ops L = true) (ht : t ∉ L) : ∀ j, dstOf ops j = some t → d j = false := fun j hj => by
  have hj' : j < ops.size := by
    rcases Nat.lt_or_ge j ops.size with q | q
    · exact q
    · simp [dstOf, Array.getElem?_eq_none q] at hj
  have h1 := List.all_eq_true.1 h j (List.mem_range.2 hj')
  rw [hj] at h1
  simp at h1
  exact absurd h1 ht
theorem mark_eq {d : Nat → Bool} {i j : Nat} (h : i ≠ j) : mark d i j = d j := by unfold mark; rw [if_neg h.symm]
theorem mark_self (d : Nat → Bool) (i : Nat) : mark d i i = true := by unfold mark; rw [if_pos rfl]
end
end Go.Proofs.YtgebjnoicgmdoaaGreatDoor
