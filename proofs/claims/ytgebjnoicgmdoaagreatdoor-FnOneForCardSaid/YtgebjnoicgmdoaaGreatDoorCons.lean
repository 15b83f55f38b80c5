/- The cursor draws a list of constraints: cons. -/
import Derived.Test.YtgebjnoicgmdoaaGreatDoorRegInv2

namespace Go.Proofs.YtgebjnoicgmdoaaGreatDoor
open Go.RowKit
open Cs (Cn)

theorem goodC_any (w : World) (bc : Nat) (A : Option Addr) (n c K : Nat) (hc : Cur w bc A n c K) (hK : K ≤ 800000) (hn : n ≤ 1048576) :
    Calls Tryz.prog 85 #[.pointer (some ⟨bc, 0, none⟩)] w fun e w' => ∃ (g cap m : Nat), e = .returned (.slice (some ⟨g, 0, none⟩) m cap) ∧ m ≤ 8 ∧ (∃ l : List Cn, OwnC w' w.heap.size (some ⟨g, 0, none⟩) m cap l) ∧ Cur w' bc A n c (K + 33) ∧ Kp bc w w' := goodCons_any con_any w bc A n c K hc hK hn

/-- a literal of three numbers -/
def Lit3 (w : World) (g : Nat) : Prop := ∃ x y z : Int, Blk w g 3 #[.int .i64 x, .int .i64 y, .int .i64 z]
theorem lit3_at {w : World} {g r : Nat} (h : Lit3 w g) (hr : r < 3) : ∃ x : Int, w.cell? ⟨g, r, none⟩ = some (.int .i64 x) := by
  obtain ⟨x, y, z, hb⟩ := h
  have hc := hb.cell r
  obtain rfl | rfl | rfl : r = 0 ∨ r = 1 ∨ r = 2 := by omega
  · exact ⟨x, hc⟩
  · exact ⟨y, hc⟩
  · exact ⟨z, hc⟩
/-- what each operation keeps: literals and constraints -/
def ConK2 (bc gr : Nat) (w w' : World) : Prop := w.heap.size ≤ w'.heap.size ∧ ∀ g, g ≠ bc → (Lit3 w g → Lit3 w' g) ∧ (g ≠ gr → ∀ U R V, Blk w g 41 #[.int .i64 U, .int .i64 R, .int .i64 V] → Blk w' g 41 #[.int .i64 U, .int .i64 R, .int .i64 V])
theorem ConK2.of_kp {bc gr : Nat} {w w' : World} (h : Kp bc w w') : ConK2 bc gr w w' := ⟨h.size, fun _ hg => ⟨fun ⟨x, y, z, hb⟩ => ⟨x, y, z, Kp.blk hb h hg⟩, fun _ _ _ _ hb => Kp.blk hb h hg⟩⟩
theorem ConK2.refl (bc gr : Nat) (w : World) : ConK2 bc gr w w := ConK2.of_kp (Kp.refl bc w)
theorem ConK2.alloc (bc gr : Nat) (w : World) (o : Obj) : ConK2 bc gr w (w.alloc o) := ConK2.of_kp ((Kp.refl bc w).alloc o)
/-- what lies in the slot of each operation of the second case once it has come up -/
def CsC (bc g cap m : Nat) (i : Nat) (v : Value) (w : World) : Prop :=
  match i with
  | 0 => v = .slice (some ⟨g, 0, none⟩) m cap
  | 1 | 4 | 8 | 11 | 15 => v = .pointer (some ⟨bc, 0, none⟩)
  | 2 | 7 | 9 | 14 => ∃ x : Int, v = .int .i64 x
  | 5 | 12 | 16 => ∃ r : Nat, v = .int .i64 r ∧ r < 3
  | 3 | 10 => ∃ h, v = .slice (some ⟨h, 0, none⟩) 3 3 ∧ h ≠ bc ∧ Lit3 w h
  | 6 | 13 => ∃ h r : Nat, v = .pointer (some ⟨h, r, none⟩) ∧ h ≠ bc ∧ r < 3 ∧ Lit3 w h
  | 17 => ∃ U R V : Int, v = .agg #[.int .i64 U, .int .i64 R, .int .i64 V]
  | 18 => ∃ h U R V, v = .slice (some ⟨h, 0, none⟩) 1 1 ∧ h ≠ bc ∧ h ≠ g ∧ Blk w h 41 #[.int .i64 U, .int .i64 R, .int .i64 V]
  | _ => True
theorem CsC.keep {bc g cap m i : Nat} {v : Value} {w w' : World} (hk : ConK2 bc g w w') (h : CsC bc g cap m i v w) : CsC bc g cap m i v w' := by
  unfold CsC at h ⊢
  split at h
  all_goals first
    | exact h
    | (obtain ⟨g, h1, h2, h3⟩ := h; exact ⟨g, h1, h2, (hk.2 g h2).1 h3⟩)
    | (obtain ⟨g, r, h1, h2, h3, h4⟩ := h; exact ⟨g, r, h1, h2, h3, (hk.2 g h2).1 h4⟩)
    | (obtain ⟨q, U, R, V, h1, h2, h3, h4⟩ := h; exact ⟨q, U, R, V, h1, h2, h3, (hk.2 q h2).2 h3 _ _ _ h4⟩)
    | trivial
/-- what goes along -/
structure CsG (bc : Nat) (A : Option Addr) (n c K : Nat) (w0 : World) (g cap m : Nat) (l : List Cn) (k : Nat) (d : Nat → Bool) (f : Nat → Value) (w : World) : Prop where
  cur : Cur w bc A n c (K + 2 * k)
  kp : Kp bc w0 w
  own : d 19 = false → OwnC w w0.heap.size (some ⟨g, 0, none⟩) m cap l
  got : d 19 = true → ∃ g' c' l', f 38 = .slice (some ⟨g', 0, none⟩) (m + 1) c' ∧ OwnC w w0.heap.size (some ⟨g', 0, none⟩) (m + 1) c' l'
  fin : d 20 = true → f 3 = f 38
theorem mark_not {d : Nat → Bool} {i j : Nat} (h : i ≠ j) (hd : d j = false) (e : mark d i j = true) : False := by
  unfold mark at e
  rw [if_neg h.symm, hd] at e
  cases e
section
variable {bc n c K g cap m k i : Nat} {A : Option Addr} {w0 w w' : World} {d : Nat → Bool} {f : Nat → Value} {l : List Cn} {o : Option Nat} {v : Value}
/-- a step ahead of the append that makes memory or moves the cursor -/
theorem CsG.step (hlt : bc < w0.heap.size) (h : CsG bc A n c K w0 g cap m l k d f w) (h19 : i ≠ 19) (h20 : i ≠ 20) (hd : d 19 = false) (hd2 : d 20 = false) (hc : Cur w' bc A n c (K + 2 * k + 2)) (hk : Kp bc w w') : CsG bc A n c K w0 g cap m l (k + 1) (mark d i) (upd f o v) w' :=
  ⟨hc.more (by omega), h.kp.trans hk, fun _ => Kp.own (h.own hd) hk hlt, fun e => (mark_not h19 hd e).elim, fun e => (mark_not h20 hd2 e).elim⟩
theorem CsG.same (hlt : bc < w0.heap.size) (h : CsG bc A n c K w0 g cap m l k d f w) (h19 : i ≠ 19) (h20 : i ≠ 20) (hd : d 19 = false) (hd2 : d 20 = false) : CsG bc A n c K w0 g cap m l (k + 1) (mark d i) (upd f o v) w :=
  h.step hlt h19 h20 hd hd2 (h.cur.more (by omega)) (Kp.refl _ _)
theorem CsG.alloc (hlt : bc < w0.heap.size) (h : CsG bc A n c K w0 g cap m l k d f w) (h19 : i ≠ 19) (h20 : i ≠ 20) (hd : d 19 = false) (hd2 : d 20 = false) (ob : Obj) : CsG bc A n c K w0 g cap m l (k + 1) (mark d i) (upd f o v) (w.alloc ob) :=
  h.step hlt h19 h20 hd hd2 ((h.cur.alloc ob).more (by omega)) ((Kp.refl _ _).alloc ob)
end
/-- what cons gives back -/
def ConsOut (bc : Nat) (A : Option Addr) (n c K : Nat) (w : World) (e : Ending) (w' : World) : Prop :=
  ∃ (g cap m : Nat), e = .returned (.slice (some ⟨g, 0, none⟩) m cap) ∧ m ≤ 40 ∧ (∃ l : List Cn, OwnC w' w.heap.size (some ⟨g, 0, none⟩) m cap l) ∧ Cur w' bc A n c (K + 200) ∧ Kp bc w w'
theorem con_new2 (w : World) (U R V U2 R2 V2 : Int) : ∀ j u, (conCells [(U, R, V), (U2, R2, V2)])[j]? = some u → (w.alloc (.cells #[.int .i64 U, .int .i64 R, .int .i64 V, .int .i64 U2, .int .i64 R2, .int .i64 V2] 41)).cell? ((⟨w.heap.size, 0, none⟩ : Addr).add j) = some u :=
  World.news_of_block (cs := #[.int .i64 U, .int .i64 R, .int .i64 V, .int .i64 U2, .int .i64 R2, .int .i64 V2]) (t := 41) (fr := (0, 0)) (heap_alloc_new w _)
theorem con_at (w : World) (h : Nat) (U R V : Int) (hb : Blk w h 41 #[.int .i64 U, .int .i64 R, .int .i64 V]) : ∀ j u, (conCells [(U, R, V)])[j]? = some u → w.cell? ((⟨h, 0, none⟩ : Addr).add j) = some u :=
  World.news_of_block (cs := #[.int .i64 U, .int .i64 R, .int .i64 V]) (t := 41) (fr := (0, 0)) hb
theorem tm52 (f : Nat → Value) : tm 52 f = { tmps := #[f 0, f 1, f 2, f 3, f 4, f 5, f 6, f 7, f 8, f 9, f 10, f 11, f 12, f 13, f 14, f 15, f 16, f 17, f 18, f 19, f 20, f 21, f 22, f 23, f 24, f 25, f 26, f 27, f 28, f 29, f 30, f 31, f 32, f 33, f 34, f 35, f 36, f 37, f 38, f 39, f 40, f 41, f 42, f 43, f 44, f 45, f 46, f 47, f 48, f 49, f 50, f 51], defers := [] } := rfl

set_option maxRecDepth 100000 in
set_option maxHeartbeats 16000000 in
theorem cons_any (w : World) (bc : Nat) (A : Option Addr) (n c K : Nat) (hc : Cur w bc A n c K) (hK : K ≤ 700000) (hn : n ≤ 1048576) :
    Calls Tryz.prog 49 #[.pointer (some ⟨bc, 0, none⟩)] w (ConsOut bc A n c K w) := by
  obtain ⟨i0, hi, hz0, hz1, hz2⟩ := info_parts info_con
  have hlt := hc.lt
  go_enter Tryz.func49, Tryz.ntmps49
  go_wp2_with fail
  refine (goodC_any w bc A n c K hc (by omega) hn).mono ?_
  rintro e w1 ⟨g, cap, m, rfl, hm8, ⟨l, ho1⟩, hc1, hk1⟩
  have HO1 := Lib.hid ho1
  have HK1 := Lib.hid hk1
  have hs1 := hk1.size
  clear hc ho1 hk1
  go_wp2_with fail
  refine (pick9_any w1 bc A n c _ hc1 (by omega) hn).mono ?_
  rintro e w2 ⟨r, rfl, hr9, hc2, hk2⟩
  have HO2 := Lib.hid (Kp.own HO1.out hk2 hlt)
  have HK2 := Lib.hid (HK1.out.trans hk2)
  have HC2 := Lib.hid hc2
  have hs2 := HK2.out.size
  clear hc1 hk2 hc2 HO1 HK1
  by_cases r0 : r = 0
  · subst r0
    go_wp2_with fail
    refine (con_any w2 bc A n c _ HC2.out (by omega) hn).mono ?_
    rintro e w3 ⟨U, R, V, rfl, hc3, hk3⟩
    have HO3 := Lib.hid (Kp.own HO2.out hk3 hlt)
    have HK3 := Lib.hid (HK2.out.trans hk3)
    clear hk3 HC2 HO2 HK2
    go_wp2_with fail
    refine (con_any w3 bc A n c _ hc3 (by omega) hn).mono ?_
    rintro e w4 ⟨U2, R2, V2, rfl, hc4, hk4⟩
    have ho4 := Kp.own HO3.out hk4 hlt
    have HK4 := Lib.hid (HK3.out.trans hk4)
    have HC4 := Lib.hid hc4
    have hs4 := HK4.out.size
    clear hk4 hc3 hc4 HO3 HK3
    go_wp2_with (at_builtin; refine wpList_append_own _ rfl (.tmp 10) (.tmp 15) 24 rfl w.heap.size 41 i0 (.agg #[.int .i64 0, .int .i64 0, .int .i64 0]) 3 24 Tryz.underlying24 hi hz0 hz1 hz2 rfl (by decide) (.slice (some ⟨g, 0, none⟩) m cap) m (conCells l) rfl (ho4.alloc _) ⟨w4.heap.size, 0, none⟩ 2 2 (conCells [(U, R, V), (U2, R2, V2)]) rfl rfl (con_new2 w4 U R V U2 R2 V2) (conCells_one _) (by unfold maxLen; omega) (by omega) (by simp; omega) ?_; intro v' w5 hown' hgrow hnil)
    obtain ⟨g5, c5, rfl⟩ : ∃ g' c', v' = .slice (some ⟨g', 0, none⟩) (m + 2) c' := by
      rcases hown'.2 with ⟨h0, _⟩ | ⟨g', c', _, h0, _⟩
      · have := (hnil.1 h0).1
        cases this
      · exact ⟨g', c', h0⟩
    have hr5 : ∀ k, (Value.slice (some ⟨g, 0, none⟩) m cap).ownBlock = some k → w.heap.size ≤ k := fun k h => (ho4.lt k h).1
    have HC5 := Lib.hid ((HC4.out.alloc (.cells #[.int .i64 U, .int .i64 R, .int .i64 V, .int .i64 U2, .int .i64 R2, .int .i64 V2] 41)).grown hgrow (fun k h => by have := hr5 k h; omega))
    have HK5 := Lib.hid ((HK4.out.alloc (.cells #[.int .i64 U, .int .i64 R, .int .i64 V, .int .i64 U2, .int .i64 R2, .int .i64 V2] 41)).more hgrow (fun k h => hr5 k h))
    have HO5 : Hid (OwnC w5 w.heap.size (some ⟨g5, 0, none⟩) (m + 2) c5 (l ++ [(U, R, V), (U2, R2, V2)])) := by
      show OwnC _ _ _ _ _ _
      unfold OwnC
      rw [conCells_append]
      exact hown'
    clear hown' hgrow hnil ho4 hr5 HC4 HK4
    go_wp2
    go_ret
    exact ⟨g5, c5, m + 2, rfl, by omega, ⟨_, HO5.out⟩, HC5.out.more (by omega), HK5.out⟩
  · have e0 : ((r : Int) == 0) = false := by simpa using r0
    by_cases r1 : r = 1
    · subst r1
      go_wp2_with fail
      rw [act_tm _ 52 rfl]
      refine region_slots2 52 _ (fun k d f w' => CsG bc A n c (K + 34) w g cap m l k d f w') (CsC bc g cap m) (ConK2 bc g) (by kernel_rfl) (by kernel_rfl) ⟨Cur.more (show Cur w2.drew bc A n c _ from HC2.out) (by omega), HK2.out.drew, (fun _ => HO2.out), (fun e => by cases e), (fun e => by cases e)⟩ (fun _ _ _ _ hr hx => hx.keep hr) (AllFrom.all (AllFrom.cons ?o0 (AllFrom.cons ?o1 (AllFrom.cons ?o2 (AllFrom.cons ?o3 (AllFrom.cons ?o4 (AllFrom.cons ?o5 (AllFrom.cons ?o6 (AllFrom.cons ?o7 (AllFrom.cons ?o8 (AllFrom.cons ?o9 (AllFrom.cons ?o10 (AllFrom.cons ?o11 (AllFrom.cons ?o12 (AllFrom.cons ?o13 (AllFrom.cons ?o14 (AllFrom.cons ?o15 (AllFrom.cons ?o16 (AllFrom.cons ?o17 (AllFrom.cons ?o18 (AllFrom.cons ?o19 (AllFrom.cons ?o20 AllFrom.nil)))))))))))))))))))))) ?fin
      case o0 =>
        intro k d f w3 hk hun hcl hwt hG hf hC
        have d19 := not_fed (top := 19) (by kernel_rfl) hcl (i := 0) (by omega) hun
        have d20 := not_fed (top := 20) (by kernel_rfl) hcl (i := 0) (by omega) hun
        have e0 : (tm 52 f).tmps[3]?.getD undef = .slice (some ⟨g, 0, none⟩) m cap := (tm_get (by omega) f).trans (hf 3 (only_dst (j0 := 20) (by kernel_rfl) d20))
        refine op_wp rfl rfl fun K' hK' => ?_
        go_simp
        exact hK' _ _ ⟨_, rfl, ConK2.refl _ _ _, hG.same hlt (by decide) (by decide) d19 d20, rfl⟩
      case o1 =>
        intro k d f w3 hk hun hcl hwt hG hf hC
        have d19 := not_fed (top := 19) (by kernel_rfl) hcl (i := 1) (by omega) hun
        have d20 := not_fed (top := 20) (by kernel_rfl) hcl (i := 1) (by omega) hun
        have e0 : (tm 52 f).tmps[0]?.getD undef = .pointer (some ⟨bc, 0, none⟩) := (tm_get (by omega) f).trans (hf 0 (frame_of (by kernel_rfl)))
        refine op_wp rfl rfl fun K' hK' => ?_
        go_simp
        exact hK' _ _ ⟨_, rfl, ConK2.refl _ _ _, hG.same hlt (by decide) (by decide) d19 d20, rfl⟩
      case o4 =>
        intro k d f w3 hk hun hcl hwt hG hf hC
        have d19 := not_fed (top := 19) (by kernel_rfl) hcl (i := 4) (by omega) hun
        have d20 := not_fed (top := 20) (by kernel_rfl) hcl (i := 4) (by omega) hun
        have e0 : (tm 52 f).tmps[0]?.getD undef = .pointer (some ⟨bc, 0, none⟩) := (tm_get (by omega) f).trans (hf 0 (frame_of (by kernel_rfl)))
        refine op_wp rfl rfl fun K' hK' => ?_
        go_simp
        exact hK' _ _ ⟨_, rfl, ConK2.refl _ _ _, hG.same hlt (by decide) (by decide) d19 d20, rfl⟩
      case o8 =>
        intro k d f w3 hk hun hcl hwt hG hf hC
        have d19 := not_fed (top := 19) (by kernel_rfl) hcl (i := 8) (by omega) hun
        have d20 := not_fed (top := 20) (by kernel_rfl) hcl (i := 8) (by omega) hun
        have e0 : (tm 52 f).tmps[0]?.getD undef = .pointer (some ⟨bc, 0, none⟩) := (tm_get (by omega) f).trans (hf 0 (frame_of (by kernel_rfl)))
        refine op_wp rfl rfl fun K' hK' => ?_
        go_simp
        exact hK' _ _ ⟨_, rfl, ConK2.refl _ _ _, hG.same hlt (by decide) (by decide) d19 d20, rfl⟩
      case o11 =>
        intro k d f w3 hk hun hcl hwt hG hf hC
        have d19 := not_fed (top := 19) (by kernel_rfl) hcl (i := 11) (by omega) hun
        have d20 := not_fed (top := 20) (by kernel_rfl) hcl (i := 11) (by omega) hun
        have e0 : (tm 52 f).tmps[0]?.getD undef = .pointer (some ⟨bc, 0, none⟩) := (tm_get (by omega) f).trans (hf 0 (frame_of (by kernel_rfl)))
        refine op_wp rfl rfl fun K' hK' => ?_
        go_simp
        exact hK' _ _ ⟨_, rfl, ConK2.refl _ _ _, hG.same hlt (by decide) (by decide) d19 d20, rfl⟩
      case o15 =>
        intro k d f w3 hk hun hcl hwt hG hf hC
        have d19 := not_fed (top := 19) (by kernel_rfl) hcl (i := 15) (by omega) hun
        have d20 := not_fed (top := 20) (by kernel_rfl) hcl (i := 15) (by omega) hun
        have e0 : (tm 52 f).tmps[0]?.getD undef = .pointer (some ⟨bc, 0, none⟩) := (tm_get (by omega) f).trans (hf 0 (frame_of (by kernel_rfl)))
        refine op_wp rfl rfl fun K' hK' => ?_
        go_simp
        exact hK' _ _ ⟨_, rfl, ConK2.refl _ _ _, hG.same hlt (by decide) (by decide) d19 d20, rfl⟩
      case o2 =>
        intro k d f w3 hk hun hcl hwt hG hf hC
        have d19 := not_fed (top := 19) (by kernel_rfl) hcl (i := 2) (by omega) hun
        have d20 := not_fed (top := 20) (by kernel_rfl) hcl (i := 2) (by omega) hun
        have e4 : (tm 52 f).tmps[20]?.getD undef = .pointer (some ⟨bc, 0, none⟩) := (tm_get (by omega) f).trans (hC 1 (by kernel_rfl))
        have hk21 : k < 21 := hk
        refine op_wp rfl rfl fun K' hK' => ?_
        go_simp
        refine (raw_any w3 bc A n c _ hG.cur (by omega) hn).mono ?_
        rintro e w4 ⟨x, rfl, hc4, hk4⟩
        exact hK' _ _ ⟨_, rfl, ConK2.of_kp hk4, hG.step hlt (by decide) (by decide) d19 d20 hc4 hk4, x, rfl⟩
      case o9 =>
        intro k d f w3 hk hun hcl hwt hG hf hC
        have d19 := not_fed (top := 19) (by kernel_rfl) hcl (i := 9) (by omega) hun
        have d20 := not_fed (top := 20) (by kernel_rfl) hcl (i := 9) (by omega) hun
        have e4 : (tm 52 f).tmps[27]?.getD undef = .pointer (some ⟨bc, 0, none⟩) := (tm_get (by omega) f).trans (hC 8 (by kernel_rfl))
        have hk21 : k < 21 := hk
        refine op_wp rfl rfl fun K' hK' => ?_
        go_simp
        refine (raw_any w3 bc A n c _ hG.cur (by omega) hn).mono ?_
        rintro e w4 ⟨x, rfl, hc4, hk4⟩
        exact hK' _ _ ⟨_, rfl, ConK2.of_kp hk4, hG.step hlt (by decide) (by decide) d19 d20 hc4 hk4, x, rfl⟩
      case o5 =>
        intro k d f w3 hk hun hcl hwt hG hf hC
        have d19 := not_fed (top := 19) (by kernel_rfl) hcl (i := 5) (by omega) hun
        have d20 := not_fed (top := 20) (by kernel_rfl) hcl (i := 5) (by omega) hun
        have e4 : (tm 52 f).tmps[23]?.getD undef = .pointer (some ⟨bc, 0, none⟩) := (tm_get (by omega) f).trans (hC 4 (by kernel_rfl))
        have hk21 : k < 21 := hk
        refine op_wp rfl rfl fun K' hK' => ?_
        go_simp
        refine (pick3_any w3 bc A n c _ hG.cur (by omega) hn).mono ?_
        rintro e w4 ⟨q, rfl, hq, hc4, hk4⟩
        exact hK' _ _ ⟨_, rfl, ConK2.of_kp hk4, hG.step hlt (by decide) (by decide) d19 d20 (hc4.more (by omega)) hk4, q, rfl, hq⟩
      case o12 =>
        intro k d f w3 hk hun hcl hwt hG hf hC
        have d19 := not_fed (top := 19) (by kernel_rfl) hcl (i := 12) (by omega) hun
        have d20 := not_fed (top := 20) (by kernel_rfl) hcl (i := 12) (by omega) hun
        have e4 : (tm 52 f).tmps[30]?.getD undef = .pointer (some ⟨bc, 0, none⟩) := (tm_get (by omega) f).trans (hC 11 (by kernel_rfl))
        have hk21 : k < 21 := hk
        refine op_wp rfl rfl fun K' hK' => ?_
        go_simp
        refine (pick3_any w3 bc A n c _ hG.cur (by omega) hn).mono ?_
        rintro e w4 ⟨q, rfl, hq, hc4, hk4⟩
        exact hK' _ _ ⟨_, rfl, ConK2.of_kp hk4, hG.step hlt (by decide) (by decide) d19 d20 (hc4.more (by omega)) hk4, q, rfl, hq⟩
      case o16 =>
        intro k d f w3 hk hun hcl hwt hG hf hC
        have d19 := not_fed (top := 19) (by kernel_rfl) hcl (i := 16) (by omega) hun
        have d20 := not_fed (top := 20) (by kernel_rfl) hcl (i := 16) (by omega) hun
        have e4 : (tm 52 f).tmps[34]?.getD undef = .pointer (some ⟨bc, 0, none⟩) := (tm_get (by omega) f).trans (hC 15 (by kernel_rfl))
        have hk21 : k < 21 := hk
        refine op_wp rfl rfl fun K' hK' => ?_
        go_simp
        refine (pick3_any w3 bc A n c _ hG.cur (by omega) hn).mono ?_
        rintro e w4 ⟨q, rfl, hq, hc4, hk4⟩
        exact hK' _ _ ⟨_, rfl, ConK2.of_kp hk4, hG.step hlt (by decide) (by decide) d19 d20 (hc4.more (by omega)) hk4, q, rfl, hq⟩
      case o3 =>
        intro k d f w3 hk hun hcl hwt hG hf hC
        have d19 := not_fed (top := 19) (by kernel_rfl) hcl (i := 3) (by omega) hun
        have d20 := not_fed (top := 20) (by kernel_rfl) hcl (i := 3) (by omega) hun
        obtain ⟨x, hx⟩ := hC 2 (by kernel_rfl)
        have e4 : (tm 52 f).tmps[21]?.getD undef = .int .i64 x := (tm_get (by omega) f).trans hx
        clear hx
        refine op_wp rfl rfl fun K' hK' => ?_
        go_simp
        exact hK' _ _ ⟨_, rfl, ConK2.alloc _ _ _ _, hG.alloc hlt (by decide) (by decide) d19 d20 _, w3.heap.size, rfl, by have := hG.cur.lt; omega, x, 4, 5, Blk.made _ _ _⟩
      case o10 =>
        intro k d f w3 hk hun hcl hwt hG hf hC
        have d19 := not_fed (top := 19) (by kernel_rfl) hcl (i := 10) (by omega) hun
        have d20 := not_fed (top := 20) (by kernel_rfl) hcl (i := 10) (by omega) hun
        obtain ⟨x, hx⟩ := hC 9 (by kernel_rfl)
        have e4 : (tm 52 f).tmps[28]?.getD undef = .int .i64 x := (tm_get (by omega) f).trans hx
        clear hx
        refine op_wp rfl rfl fun K' hK' => ?_
        go_simp
        exact hK' _ _ ⟨_, rfl, ConK2.alloc _ _ _ _, hG.alloc hlt (by decide) (by decide) d19 d20 _, w3.heap.size, rfl, by have := hG.cur.lt; omega, x, 2, 3, Blk.made _ _ _⟩
      case o6 =>
        intro k d f w3 hk hun hcl hwt hG hf hC
        have d19 := not_fed (top := 19) (by kernel_rfl) hcl (i := 6) (by omega) hun
        have d20 := not_fed (top := 20) (by kernel_rfl) hcl (i := 6) (by omega) hun
        obtain ⟨h, hh, hne, hl⟩ := hC 3 (by kernel_rfl)
        obtain ⟨q, hq, hq3⟩ := hC 5 (by kernel_rfl)
        have e7 : (tm 52 f).tmps[22]?.getD undef = .slice (some ⟨h, 0, none⟩) 3 3 := (tm_get (by omega) f).trans hh
        have e9 : (tm 52 f).tmps[24]?.getD undef = .int .i64 (q : Int) := (tm_get (by omega) f).trans hq
        clear hh hq
        have hri : (q : Int) < 3 := by omega
        refine op_wp rfl rfl fun K' hK' => ?_
        go_simp
        exact hK' _ _ ⟨_, rfl, ConK2.refl _ _ _, hG.same hlt (by decide) (by decide) d19 d20, h, q, rfl, hne, hq3, hl⟩
      case o13 =>
        intro k d f w3 hk hun hcl hwt hG hf hC
        have d19 := not_fed (top := 19) (by kernel_rfl) hcl (i := 13) (by omega) hun
        have d20 := not_fed (top := 20) (by kernel_rfl) hcl (i := 13) (by omega) hun
        obtain ⟨h, hh, hne, hl⟩ := hC 10 (by kernel_rfl)
        obtain ⟨q, hq, hq3⟩ := hC 12 (by kernel_rfl)
        have e7 : (tm 52 f).tmps[29]?.getD undef = .slice (some ⟨h, 0, none⟩) 3 3 := (tm_get (by omega) f).trans hh
        have e9 : (tm 52 f).tmps[31]?.getD undef = .int .i64 (q : Int) := (tm_get (by omega) f).trans hq
        clear hh hq
        have hri : (q : Int) < 3 := by omega
        refine op_wp rfl rfl fun K' hK' => ?_
        go_simp
        exact hK' _ _ ⟨_, rfl, ConK2.refl _ _ _, hG.same hlt (by decide) (by decide) d19 d20, h, q, rfl, hne, hq3, hl⟩
      case o7 =>
        intro k d f w3 hk hun hcl hwt hG hf hC
        have d19 := not_fed (top := 19) (by kernel_rfl) hcl (i := 7) (by omega) hun
        have d20 := not_fed (top := 20) (by kernel_rfl) hcl (i := 7) (by omega) hun
        obtain ⟨h, q, hh, hne, hq3, hl⟩ := hC 6 (by kernel_rfl)
        have e10 : (tm 52 f).tmps[25]?.getD undef = .pointer (some ⟨h, q, none⟩) := (tm_get (by omega) f).trans hh
        obtain ⟨x, hcell⟩ := lit3_at hl hq3
        clear hh
        refine op_wp rfl rfl fun K' hK' => ?_
        go_simp
        exact hK' _ _ ⟨_, rfl, ConK2.refl _ _ _, hG.same hlt (by decide) (by decide) d19 d20, x, rfl⟩
      case o14 =>
        intro k d f w3 hk hun hcl hwt hG hf hC
        have d19 := not_fed (top := 19) (by kernel_rfl) hcl (i := 14) (by omega) hun
        have d20 := not_fed (top := 20) (by kernel_rfl) hcl (i := 14) (by omega) hun
        obtain ⟨h, q, hh, hne, hq3, hl⟩ := hC 13 (by kernel_rfl)
        have e10 : (tm 52 f).tmps[32]?.getD undef = .pointer (some ⟨h, q, none⟩) := (tm_get (by omega) f).trans hh
        obtain ⟨x, hcell⟩ := lit3_at hl hq3
        clear hh
        refine op_wp rfl rfl fun K' hK' => ?_
        go_simp
        exact hK' _ _ ⟨_, rfl, ConK2.refl _ _ _, hG.same hlt (by decide) (by decide) d19 d20, x, rfl⟩
      case o17 =>
        intro k d f w3 hk hun hcl hwt hG hf hC
        have d19 := not_fed (top := 19) (by kernel_rfl) hcl (i := 17) (by omega) hun
        have d20 := not_fed (top := 20) (by kernel_rfl) hcl (i := 17) (by omega) hun
        obtain ⟨U, hU⟩ := hC 7 (by kernel_rfl)
        obtain ⟨R, hR⟩ := hC 14 (by kernel_rfl)
        obtain ⟨V, hV, _⟩ := hC 16 (by kernel_rfl)
        have e6 : (tm 52 f).tmps[26]?.getD undef = .int .i64 U := (tm_get (by omega) f).trans hU
        have e11 : (tm 52 f).tmps[33]?.getD undef = .int .i64 R := (tm_get (by omega) f).trans hR
        have e13 : (tm 52 f).tmps[35]?.getD undef = .int .i64 (V : Int) := (tm_get (by omega) f).trans hV
        clear hU hR hV
        refine op_wp rfl rfl fun K' hK' => ?_
        go_simp
        exact hK' _ _ ⟨_, rfl, ConK2.refl _ _ _, hG.same hlt (by decide) (by decide) d19 d20, _, _, _, rfl⟩
      case o18 =>
        intro k d f w3 hk hun hcl hwt hG hf hC
        have d19 := not_fed (top := 19) (by kernel_rfl) hcl (i := 18) (by omega) hun
        have d20 := not_fed (top := 20) (by kernel_rfl) hcl (i := 18) (by omega) hun
        obtain ⟨U, R, V, hv⟩ := hC 17 (by kernel_rfl)
        have e6 : (tm 52 f).tmps[36]?.getD undef = .agg #[.int .i64 U, .int .i64 R, .int .i64 V] := (tm_get (by omega) f).trans hv
        clear hv
        refine op_wp rfl rfl fun K' hK' => ?_
        go_simp
        exact hK' _ _ ⟨_, rfl, ConK2.alloc _ _ _ _, hG.alloc hlt (by decide) (by decide) d19 d20 _, w3.heap.size, U, R, V, rfl, by have := hG.cur.lt; omega, by have := ((hG.own d19).lt g rfl).2; omega, Blk.made _ _ _⟩
      case o19 =>
        intro k d f w3 hk hun hcl hwt hG hf hC
        have d20 : d 20 = false := by
          cases e : d 20 with
          | false => rfl
          | true => have h := hcl 20 19 e (by kernel_rfl); rw [hun] at h; cases h
        have hl0 : slotV _ f 0 = .slice (some ⟨g, 0, none⟩) m cap := hC 0 (by kernel_rfl)
        obtain ⟨h, U, R, V, hv, hne, _, hbk⟩ := hC 18 (by kernel_rfl)
        have e19 : (tm 52 f).eval (.tmp 19) = .slice (some ⟨g, 0, none⟩) m cap := (tm_eval (by omega) f).trans hl0
        have e37 : (tm 52 f).eval (.tmp 37) = .slice (some ⟨h, 0, none⟩) 1 1 := (tm_eval (by omega) f).trans hv
        have hown := hG.own hun
        have hsz := hG.kp.size
        refine op_wp rfl rfl fun K' hK' => ?_
        refine wp_append_own w3 (.tmp 19) (.tmp 37) 24 rfl w.heap.size 41 i0 (.agg #[.int .i64 0, .int .i64 0, .int .i64 0]) 3 24 Tryz.underlying24 hi hz0 hz1 hz2 rfl (by decide) (.slice (some ⟨g, 0, none⟩) m cap) m (conCells l) e19 hown ⟨h, 0, none⟩ 1 1 (conCells [(U, R, V)]) e37 rfl (con_at w3 h U R V hbk) (conCells_one _) (by unfold maxLen; omega) (by omega) hsz ?_
        intro v' w5 hown' hgrow hnil
        obtain ⟨g5, c5, rfl⟩ : ∃ g' c', v' = .slice (some ⟨g', 0, none⟩) (m + 1) c' := by
          rcases hown'.2 with ⟨h0, _⟩ | ⟨g', c', _, h0, _⟩
          · have := (hnil.1 h0).1
            cases this
          · exact ⟨g', c', h0⟩
        have hr5 : ∀ k, (Value.slice (some ⟨g, 0, none⟩) m cap).ownBlock = some k → w.heap.size ≤ k := fun k h => (hown.lt k h).1
        refine hK' _ _ ⟨_, rfl, ⟨hgrow.size, fun q hq => ⟨fun ⟨x, y, z, hb⟩ => ⟨x, y, z, ?_⟩, fun hqg U' R' V' hb => hb.grown hgrow (fun he => hqg (Option.some.inj he))⟩⟩, ⟨(hG.cur.grown hgrow (fun k h => by have := hr5 k h; omega)).more (by omega), hG.kp.more hgrow hr5, fun e => ?_, fun _ => ⟨g5, c5, l ++ [(U, R, V)], rfl, ?_⟩, fun e => (mark_not (by decide) d20 e).elim⟩, trivial⟩
        · exact hb.grown hgrow (fun he => own_apart hown hb (by decide) he.symm)
        · unfold mark at e; rw [if_pos rfl] at e; cases e
        · show OwnC _ _ _ _ _ _
          unfold OwnC
          rw [conCells_append]
          exact hown'
      case o20 =>
        intro k d f w3 hk hun hcl hwt hG hf hC
        have h19 : d 19 = true := hwt 19 (by kernel_rfl)
        obtain ⟨g5, c5, l5, hv, ho⟩ := hG.got h19
        have e38 : (tm 52 f).tmps[38]?.getD undef = .slice (some ⟨g5, 0, none⟩) (m + 1) c5 := (tm_get (by omega) f).trans hv
        refine op_wp rfl rfl fun K' hK' => ?_
        go_simp
        have hm19 : mark d 20 19 = d 19 := by unfold mark; rw [if_neg (by decide)]
        exact hK' _ _ ⟨.slice (some ⟨g5, 0, none⟩) (m + 1) c5, rfl, ConK2.refl _ _ _, ⟨hG.cur.more (by omega), hG.kp, (fun e => by rw [hm19, h19] at e; cases e), fun _ => ⟨g5, c5, l5, hv, ho⟩, fun _ => hv.symm⟩, trivial⟩
      case fin =>
        intro k d f w3 hk hall hG hf hC
        obtain ⟨g5, c5, l5, hv, ho⟩ := hG.got (hall 19 (by decide))
        have e3 : f 3 = .slice (some ⟨g5, 0, none⟩) (m + 1) c5 := (hG.fin (hall 20 (by decide))).trans hv
        have hk21 : k ≤ 21 := hk
        have HO3 := Lib.hid ho
        have HC3 := Lib.hid (hG.cur.more (K' := K + 200) (by omega))
        have HK3 := Lib.hid hG.kp
        clear hC hf hall hG
        rw [tm52 f, e3]
        clear e3 hv ho
        go_wp2
        go_ret
        exact ⟨g5, c5, m + 1, rfl, by omega, ⟨_, HO3.out⟩, HC3.out, HK3.out⟩
    · have e1 : ((r : Int) == 1) = false := by simp; omega
      by_cases r2 : r = 2
      · subst r2
        go_wp2
        go_loopw [3] (fun v wr => ∃ (g cap m : Nat) (l : List Cn), m ≤ 25 ∧ v = .slice (some ⟨g, 0, none⟩) m cap ∧ Hid (OwnC wr w.heap.size (some ⟨g, 0, none⟩) m cap l) ∧ Hid (Cur wr bc A n c (K + 40 + m)) ∧ Hid (Kp bc w wr)) (fun v _ => match v with | .slice _ q _ => 26 - q | _ => 0)
        case atStart => exact ⟨g, cap, m, l, by omega, rfl, HO2.out, HC2.out.more (by omega), HK2.out⟩
        case round =>
          clear HO2 HC2 HK2
          obtain ⟨g, cap, m, l, hm, rfl, HO, HC, HK⟩ := hrel
          have hsr := HK.out.size
          go_wp2_with fail
          refine (pick_any wr bc A n c _ 2 HC.out (by omega) (by omega) hn).mono ?_
          rintro e w3 ⟨q, rfl, hq, hc3, hk3⟩
          have ho3 := Kp.own HO.out hk3 hlt
          have HO3 := Lib.hid ho3
          have HC3 := Lib.hid hc3
          have HK3 := Lib.hid (HK.out.trans hk3)
          have hs3 := HK3.out.size
          clear hk3 hc3
          by_cases hmq : m < 24 + q
          · have hmi : (m : Int) < 24 + (q : Int) := by omega
            clear hmq
            go_wp2_with (at_builtin; refine wpList_append_own _ rfl (.tmp 47) (.tmp 49) 24 rfl w.heap.size 41 i0 (.agg #[.int .i64 0, .int .i64 0, .int .i64 0]) 3 24 Tryz.underlying24 hi hz0 hz1 hz2 rfl (by decide) (.slice (some ⟨g, 0, none⟩) m cap) m (conCells l) rfl (ho3.alloc _) ⟨w3.heap.size, 0, none⟩ 1 1 (conCells [(0, 0, 1)]) rfl rfl (con_new w3 0 0 1) (conCells_one _) (by unfold maxLen; omega) (by omega) (by simp; omega) ?_; intro v' w5 hown' hgrow hnil)
            obtain ⟨g5, c5, rfl⟩ : ∃ g' c', v' = .slice (some ⟨g', 0, none⟩) (m + 1) c' := by
              rcases hown'.2 with ⟨h0, _⟩ | ⟨g', c', _, h0, _⟩
              · have := (hnil.1 h0).1
                cases this
              · exact ⟨g', c', h0⟩
            have hr5 : ∀ k, (Value.slice (some ⟨g, 0, none⟩) m cap).ownBlock = some k → w.heap.size ≤ k := fun k h => (ho3.lt k h).1
            have HC5 := Lib.hid ((HC3.out.alloc (.cells #[.int .i64 0, .int .i64 0, .int .i64 1] 41)).grown hgrow (fun k h => by have := hr5 k h; omega))
            have HK5 := Lib.hid ((HK3.out.alloc (.cells #[.int .i64 0, .int .i64 0, .int .i64 1] 41)).more hgrow (fun k h => hr5 k h))
            have HO5 : Hid (OwnC w5 w.heap.size (some ⟨g5, 0, none⟩) (m + 1) c5 (l ++ [(0, 0, 1)])) := by
              show OwnC _ _ _ _ _ _
              unfold OwnC
              rw [conCells_append]
              exact hown'
            clear hown' hgrow hnil ho3 hr5 HO3 HC3 HK3
            go_wp2
            go_roundw
            case rel => exact ⟨g5, c5, m + 1, _, by omega, rfl, HO5.out, HC5.out.more (by omega), HK5.out⟩
            case measure => show 26 - (m + 1) < 26 - m; omega
          · have hmi : ¬ (m : Int) < 24 + (q : Int) := by omega
            clear hmq ho3
            go_wp2
            go_ret
            exact ⟨g, cap, m, rfl, by omega, ⟨_, HO3.out⟩, HC3.out.more (by omega), HK3.out⟩
      · have e2 : ((r : Int) == 2) = false := by simp; omega
        go_wp2
        go_ret
        exact ⟨g, cap, m, rfl, by omega, ⟨_, HO2.out⟩, HC2.out.more (by omega), HK2.out⟩
end Go.Proofs.YtgebjnoicgmdoaaGreatDoor
