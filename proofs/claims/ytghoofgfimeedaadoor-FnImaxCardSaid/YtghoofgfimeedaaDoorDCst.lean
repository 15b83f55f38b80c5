/- LevelConst of the program. -/
import Derived.Test.YtghoofgfimeedaaDoorDMis
import Derived.Test.YtghoofgfimeedaaDoorDcMath5
import Derived.Test.YtghoofgfimeedaaDoorMgMath

namespace Go.Proofs.YtghoofgfimeedaaDoor
open Go.RowKit Go.Shelf
attribute [local go_sem] Oper.semAt_some

/-- the three boxes of LevelConst -/
structure KBox (W : World) (g h : Nat) (v1 : Value) (r : Int) (v2 : Value) : Prop where
  b0 : Blk W g 24 #[v1]
  b1 : Blk W (g + 1) 3 #[.int .i64 r]
  b2 : Blk W h 26 #[v2]
theorem KBox.below {W W' : World} {g h B : Nat} {v1 v2 : Value} {r : Int} (k : KBox W g h v1 r v2) (hb : Below B W W') (hg : g + 1 < B) (hh : h < B) : KBox W' g h v1 r v2 :=
  ⟨k.b0.below hb (by omega), k.b1.below hb (by omega), k.b2.below hb hh⟩
theorem KBox.own {W W' : World} {g h : Nat} {v1 v2 : Value} {r : Int} {row : Option Nat} (k : KBox W g h v1 r v2) (hg : W.grownBy W' row) (hr : ∀ r, row = some r → ∃ o : Obj, W.heap[r]? = some o ∧ o.isCells = false) : KBox W' g h v1 r v2 :=
  ⟨blk_own k.b0 hg hr, blk_own k.b1 hg hr, blk_own k.b2 hg hr⟩

set_option maxRecDepth 100000 in
set_option maxHeartbeats 8000000 in
theorem implLevelConst_any (w : World) (B : Nat) (A : Option Addr) (n c : Nat) (l : List (Int × Int)) (T : TypeId) (pv : Value) (h0 : 0 < B) (hB : B ≤ w.heap.size)
    (hl : TokR w B A n l) (hn : (n : Int) ≤ 140737488355328) (hE : ErrAt w T pv) :
    Calls Tryd.prog 36 #[.slice A n c] w fun e w' => e = .returned (.int .i64 (Dc.cstR l)) ∧ Below w.heap.size w w' := by
  have hB0 : Below w.heap.size w ((w.alloc (.cells #[.slice A n c] 24)).alloc (.cells #[.int .i64 0] 3)) := ((Below.refl _ w).alloc (Nat.le_refl _) _).alloc (by simp) _
  obtain ⟨w0, hw0⟩ : ∃ w0, (w.alloc (.cells #[.slice A n c] 24)).alloc (.cells #[.int .i64 0] 3) = w0 := ⟨_, rfl⟩
  have hk0 : Blk w0 w.heap.size 24 #[.slice A n c] := by rw [← hw0]; exact (Blk.made w _ _).alloc _
  have hk1 : Blk w0 (w.heap.size + 1) 3 #[.int .i64 0] := by rw [← hw0]; exact Blk.made' (by simp)
  have hs0 : w0.heap.size = w.heap.size + 1 + 1 := by rw [← hw0]; simp
  rw [hw0] at hB0
  have k0 : w0.cell? ⟨w.heap.size, 0, none⟩ = some (.slice A n c) := hk0.cell 0
  have hl0 := hl.below (hB0.mono hB)
  have hE0 := hE.below (hB0.mono hB) h0
  cases h1 : Lv.levelOk l with
  | false =>
    have HF : Hid (Dc.cstR l = -1) := if_neg (by rw [h1]; exact fun h => by cases h.1)
    have HO := Lib.hid h1
    clear h1
    refine (callsIn_wide (n := 3)).1 ?_
    refine callsIn_of_wp_marks Tryd.func36 rfl trivial ?_ rfl
    simp only [Tryd.ntmps36, List.size_toArray, List.length_cons, List.length_nil, Nat.reduceAdd, Nat.reduceSub, Array.replicate_succ, Array.replicate_zero, List.push_toArray, List.append_toArray, List.nil_append, List.cons_append]
    gi_wp2_with fail
    refine ⟨trivial, ?_⟩
    refine (callsIn_wide.2 (levelOk_any w0 B A n c l T pv h0 (by omega) hl0 hn hE0)).mono ?_
    rintro e w1 ⟨rfl, hb1⟩
    rw [HO.out]
    have hk := hk1.below hb1 (by omega)
    have y1 : w1.cell? ⟨w.heap.size + 1, 0, none⟩ = some (.int .i64 0) := hk.cell 0
    have z1 := hk.thawed 0
    have HK := Lib.hid hk
    have HB1 := Lib.hid (hB0.trans (hb1.mono (by omega)))
    clear hk hw0 hl hl0
    gi_wp2
    have z3 := (HK.out.put 0 (.int .i64 (-1))).cell 0
    simp at z3
    refine ⟨.int .i64 (-1), ?_, by rw [HF.out], HB1.out.setCell (p := ⟨w.heap.size + 1, 0, none⟩) (by simp) _⟩
    simp [results, Tryd.f36, go_sem, z3]
  | true =>
    have HO := Lib.hid h1
    clear h1
    refine (callsIn_wide (n := 3)).1 ?_
    refine callsIn_of_wp_marks Tryd.func36 rfl trivial ?_ rfl
    simp only [Tryd.ntmps36, List.size_toArray, List.length_cons, List.length_nil, Nat.reduceAdd, Nat.reduceSub, Array.replicate_succ, Array.replicate_zero, List.push_toArray, List.append_toArray, List.nil_append, List.cons_append]
    gi_wp2_with fail
    refine ⟨trivial, ?_⟩
    refine (callsIn_wide.2 (levelOk_any w0 B A n c l T pv h0 (by omega) hl0 hn hE0)).mono ?_
    rintro e w1 ⟨rfl, hb1⟩
    rw [HO.out]
    have hs1 := hb1.size
    have y0 := (hb1.cell (p := ⟨w.heap.size, 0, none⟩) (by show w.heap.size < _; omega)).trans k0
    have hb01 := hB0.trans (hb1.mono (by omega))
    clear k0 hw0
    gi_wp2_with fail
    refine ⟨trivial, ?_⟩
    refine (callsIn_wide.2 (residualOf_any w1 B A n c l 0 T pv h0 (by omega) (hl.below (hb01.mono hB)) HO.out (by decide) (hE.below (hb01.mono hB) h0))).mono ?_
    rintro e w2 ⟨A3, c3, rfl, ho3, hb3⟩
    obtain ⟨v0, hv0, hrs⟩ := Dc.rs_zero HO.out
    have hrs' : Nm.rnorm (Nm.wl 0 l) = [(-1, v0)] := hrs
    rw [hrs'] at ho3 ⊢
    simp only [List.length_cons, List.length_nil, Nat.zero_add] at ho3 ⊢
    have hs3 := hb3.size
    have hb02 := hb01.trans (hb3.mono (by omega))
    have hkb0 := (hk0.below hb1 (by omega)).below hb3 (by omega)
    have hkb1 := (hk1.below hb1 (by omega)).below hb3 (by omega)
    have HRS := Lib.hid hrs
    clear hk0 hk1 hb1 hb3 y0 hrs hrs' hl0 hE0
    gi_wp2
    obtain ⟨Wq, hWq⟩ : ∃ Wq, w2.alloc (.cells #[.slice A3 1 c3] 26) = Wq := ⟨_, rfl⟩
    have hbx : KBox Wq w.heap.size w2.heap.size (.slice A n c) 0 (.slice A3 1 c3) := by rw [← hWq]; exact ⟨hkb0.alloc _, hkb1.alloc _, Blk.made _ _ _⟩
    have hsq : Wq.heap.size = w2.heap.size + 1 := by rw [← hWq]; simp
    have hbq : Below w2.heap.size w2 Wq := by rw [← hWq]; exact (Below.refl _ _).alloc (Nat.le_refl _) _
    have hbel := hb02.trans (hbq.mono (by omega))
    have HR3 := Lib.hid (at_reads (at_below' ho3 hbq))
    rw [hWq]
    clear hWq hkb0 hkb1 ho3 hbq
    refine wpIn_rangeFunc_ownF rfl (by omega) (gf := 78) (lb := #[]) rfl trivial (enters_of Tryd.func78 (by kernel_rfl) rfl)
      (signs_stops Fence.wide _ trivial rfl (by omega) _) (fun _ _ => trivial) (fun _ _ _ _ _ _ _ _ => trivial) (Below.refl _ _) (fun _ => rfl)
      (fun pre W => (∀ x ∈ pre, Dc.rs l ((x.val : Nat) : Int) = Dc.rs l 0) ∧ Below Wq.heap.size Wq W)
      (fun k pre W => (k = .ret ∧ (∃ x : Fin 32, Dc.rs l ((x.val : Nat) : Int) ≠ Dc.rs l 0) ∧ Blk W (w.heap.size + 1) 3 #[.int .i64 (-1)]) ∧ Below w.heap.size w W)
      (OwnFrom.and (fun _ _ _ _ hs _ _ => hs) (ownFrom_below (Nat.le_refl _) (Nat.le_refl _)))
      (fun k => OwnFrom.and (Own.from (fun s A B row hs hg hr => ⟨hs.1, hs.2.1, blk_own hs.2.2 hg hr⟩) _) (ownFrom_below (Nat.le_refl _) (by omega)))
      ⟨(fun x hx => by cases hx), Below.refl _ _⟩
      (fun x => { tmps := #[.slice A n c, .pointer (some ⟨w.heap.size, 0, none⟩), .pointer (some ⟨w.heap.size + 1, 0, none⟩), .pointer (some ⟨w2.heap.size, 0, none⟩), .int .i64 ((x.val : Nat) : Int), .slice A n c, .bool true, .bool false, .slice A n c, .slice A3 1 c3, .int .i64 ((x.val : Nat) : Int), undef, undef, undef, undef, undef, undef, undef, undef, undef, undef], defers := [] }) ?assign ?body ?done ?stop
    case assign =>
      intro l x W K hK
      gi_wp2
      exact hK
    case body =>
      rintro lp pre x W ⟨hpre, hbW⟩ _
      obtain ⟨S, hS⟩ := x
      have hsz := hbW.size
      have hbx1 := hbx.below hbW (by omega) (by omega)
      have k0 : W.cell? ⟨w.heap.size, 0, none⟩ = some (.slice A n c) := hbx1.b0.cell 0
      have k2 : W.cell? ⟨w2.heap.size, 0, none⟩ = some (.slice A3 1 c3) := hbx1.b2.cell 0
      have hsg : Sg.isSign (S : Int) = true := Dc.isSign_nat hS
      have hbelW := hbel.trans (hbW.mono (by omega))
      have hmx : Tryd.prog.follows .mixedOrders = true := by kernel_rfl
      dsimp only
      gi_wp2
      have hbD := hbelW.drew
      have hR3 := HR3.out.below (hbW.drew)
      gi_region_with_o (first | (refine ⟨trivial, ?_⟩; gi_at_call 77; refine (CallsIn.inRound lp (callsIn_wide.2 (residualOf_any W.drew B A n c l S T pv h0 (by show B ≤ W.heap.size; omega) (hl.below (hbD.mono hB)) HO.out hsg (hE.below (hbD.mono hB) h0)))).mono ?_; rintro e W1 ⟨A4, c4, rfl, ho4, hb4⟩; have k3 := (hb4.cell (p := ⟨w2.heap.size, 0, none⟩) (by show w2.heap.size < W.heap.size; omega)).trans k2) | (refine ⟨trivial, ?_⟩; gi_at_call 79; refine (CallsIn.inRound lp (callsIn_wide.2 (slicesEqual_any _ _ A4 A3 (Nm.rnorm (Nm.wl (S : Int) l)).length 1 c4 c3 (Nm.rnorm (Nm.wl (S : Int) l)) [(-1, v0)] (Nat.le_refl _) (at_reads ho4) ((hR3.below (hb4.mono (by show Wq.heap.size ≤ W.heap.size; omega))).more (by have := hb4.size; show Wq.heap.size ≤ _; exact Nat.le_trans (show Wq.heap.size ≤ W.drew.heap.size from hsz) this)) (by have := Nm.rnorm_len (Nm.wl (S : Int) l); omega) (by omega)))).mono ?_; rintro e W2 ⟨rfl, hb5⟩))
      all_goals
        have hbZ : Below W.heap.size W W2 := ((Below.refl W.heap.size W).drew.trans hb4).trans (hb5.mono hb4.size)
        have hbx2 := hbx1.below hbZ (by omega) (by omega)
        have q1 : W2.cell? ⟨w.heap.size + 1, 0, none⟩ = some (.int .i64 0) := hbx2.b1.cell 0
        have q2 := hbx2.b1.thawed 0
        have HBX2 := Lib.hid hbx2
        have HBZ := Lib.hid hbZ
        have HBL := Lib.hid hbelW
        have HBW := Lib.hid hbW
        have HPRE := Lib.hid hpre
        clear hbZ hbx2 hbD hR3 ho4 hb4 hb5 hbelW hbW hpre hbx1
        cases hq : decide (Nm.rnorm (Nm.wl (S : Int) l) = [(-1, v0)])
      all_goals
        have HQ := Lib.hid hq
        clear hq
        gi_wp2
      all_goals first
        | exact ⟨below_keeps HBZ.out, trivial, (fun y hy => (List.mem_append.1 hy).elim (HPRE.out y) (fun h => by rw [List.mem_singleton.1 h]; exact (of_decide_eq_true HQ.out).trans HRS.out.symm)), HBW.out.trans (HBZ.out.mono hsz)⟩
        | exact ⟨(below_keeps HBZ.out).trans (KeepsOthers.setCell _ _ _), ⟨rfl, ⟨⟨S, hS⟩, fun h => of_decide_eq_false HQ.out (h.trans HRS.out)⟩, (by have := HBX2.out.b1.put 0 (.int .i64 (-1)); simpa using this)⟩, (HBL.out.trans (HBZ.out.mono (by omega))).setCell (p := ⟨w.heap.size + 1, 0, none⟩) (by simp) _⟩
    case done =>
      rintro D ys W hD hS ⟨hall, hbW⟩ hK
      have hbx1 := hbx.below hbW (by omega) (by omega)
      have k2 : W.cell? ⟨w2.heap.size, 0, none⟩ = some (.slice A3 1 c3) := hbx1.b2.cell 0
      have k1 : W.cell? ⟨w.heap.size + 1, 0, none⟩ = some (.int .i64 0) := hbx1.b1.cell 0
      have t1 := hbx1.b1.thawed 0
      obtain ⟨g3, o3, hA3, hg3, hc3⟩ := HR3.out.2 (by omega)
      subst hA3
      have x2 := (hbW.cell (p := ⟨g3, o3 + 0 * 2 + 1, none⟩) hg3).trans (hc3 0 (by omega)).2
      simp only [Nat.zero_mul, Nat.add_zero, List.getD_cons_zero] at x2
      clear hc3
      gi_wp2
      have hbk := hbx1.b1.put 0 (.int .i64 v0)
      have hK' := (KeepsOthers.setCell W ⟨w.heap.size + 1, 0, none⟩ (.int .i64 v0)).same D _ hK rfl
      refine ⟨by simp, .inl ⟨_, _, rfl, run_takeDeferred hK', ?_⟩⟩
      have z3 := (blk_own hbk (grownBy_putObj' _ D (.deferred none)) (fun r e => by cases e; exact ⟨_, hK', rfl⟩)).cell 0
      simp at z3
      have hall2 : ∀ S : Nat, S < 32 → Dc.rs l (S : Int) = Dc.rs l 0 := fun S hS2 => by
        have hm : S ∈ ys.map Fin.val := by rw [hS]; exact List.mem_range.2 hS2
        obtain ⟨y, hy, rfl⟩ := List.mem_map.1 hm
        exact hall y hy
      have hcst : Dc.cstR l = v0 := (if_pos ⟨HO.out, hall2⟩).trans (by rw [HRS.out]; rfl)
      refine ⟨.int .i64 v0, ?_, by rw [hcst], ((hbel.trans (hbW.mono (by omega))).setCell (p := ⟨w.heap.size + 1, 0, none⟩) (by simp) _).trans (belowK_b (w := w) (Nat.le_refl _) _ D _ _ (by omega) hK' rfl rfl)⟩
      simp [results, Tryd.f36, go_sem, z3]
    case stop =>
      rintro D k pre W hD hSp ⟨⟨rfl, ⟨x, hx⟩, hbk⟩, hbW⟩ hK
      gi_wp2
      refine ⟨by simp, .inl ⟨_, _, rfl, run_takeDeferred hK, ?_⟩⟩
      have z3 := (blk_own hbk (grownBy_putObj' _ D (.deferred none)) (fun r e => by cases e; exact ⟨_, hK, rfl⟩)).cell 0
      simp at z3
      have hcst : Dc.cstR l = -1 := if_neg (fun h => hx (h.2 x.val x.isLt))
      refine ⟨.int .i64 (-1), ?_, by rw [hcst], hbW.trans (belowK_b (w := w) (Nat.le_refl _) _ D _ _ (by omega) hK rfl rfl)⟩
      simp [results, Tryd.f36, go_sem, z3]
end Go.Proofs.YtghoofgfimeedaaDoor
