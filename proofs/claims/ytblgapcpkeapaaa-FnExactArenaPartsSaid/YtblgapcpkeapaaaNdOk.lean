/- The arena's index: the walk for a node that is not there yet. -/
/- A region that draws its order, whose own operations only read and whose callees may make memory but turn none that was there: one walk, in the order of the text, over the class of all later worlds. -/
/- Words for memory: a slice that reads as a list of constraints; one that a call owns. -/
/- Constraints of the program: sideOk, ConOk, ConsOk. -/
/- A node right at its place: the program's okAt and what it calls, the model's l08Node. -/
import Derived.Test.YtblgapcpkeapaaaNdIx
import Derived.Test.YtblgapcpkeapaaaMarks
import Derived.Test.YtblgapcpkeapaaaLawN

namespace Go.Proofs.Ytblgapcpkeapaaa
open Go.RowKit Go.Maps

set_option maxRecDepth 100000 in
set_option maxHeartbeats 4000000 in
theorem index_new (w : World) (base g m : Nat) (A : Option Addr) (n c : Nat) (D : DataW Unit) (l : List Nd) (o u a b : Int) (h : ArO w base g m A n c D l) (hw : ndWf (o, u, a, b)) (hm : (o, u, a, b) ∉ l) (hn : n ≤ 1048576) (hbase : base ≤ w.heap.size) :
    Calls Try.prog 45 #[.pointer (some ⟨g, 0, none⟩), .agg #[.int .i64 o, .int .i64 u, .int .i64 a, .int .i64 b]] w fun e w' => e = .returned (.int .i64 (n : Int)) ∧ Below base w w' ∧ ∃ A' c' D', ArO w' base g m A' (n + 1) c' D' (l ++ [(o, u, a, b)]) := by
  obtain ⟨i0, hi, hz0, hz1, hz2⟩ := info_parts info_nod
  obtain ⟨W, hW⟩ : ∃ W, W = w.alloc (.cells #[.int .i64 o, .int .i64 u, .int .i64 a, .int .i64 b] 58) := ⟨_, rfl⟩
  have hB : Below w.heap.size w W := by rw [hW]; exact (Below.refl _ _).alloc (Nat.le_refl _) _
  have hA : ArO W base g m A n c D l := h.below hB
  have hbx : Blk W w.heap.size 58 #[.int .i64 o, .int .i64 u, .int .i64 a, .int .i64 b] := by rw [hW]; exact Blk.made _ _ _
  obtain ⟨v, ps, hrun, hv⟩ := hA.map.drew.look_ok lawNd Try.underlying71 (zeroNd _) (plainElem_int Try.underlying3 (a := 0) (by decide)) (nk_key hw)
  obtain ⟨hhas, -⟩ := h.gn _ hw
  rw [decide_eq_false hm] at hhas
  rw [hhas] at hrun
  rw [atKey_of_not_has hhas] at hv
  obtain ⟨z, rfl, hz, _⟩ := plainElem_int_inv Try.underlying3 hv
  simp at hz
  obtain ⟨hz, -⟩ := hz
  subst hz
  have k0 := hA.box.cell 0
  have k1 := hA.box.cell 1
  simp at k0 k1
  have x0 := hbx.cell 0
  have x1 := hbx.cell 1
  have x2 := hbx.cell 2
  have x3 := hbx.cell 3
  simp at x0 x1 x2 x3
  have hkey := nk_key hw
  have hwn : (Lit.int .i64 (n : Int)).wf = true := WalkArith.wf_i64 (by omega)
  have hownA : W.drew.drew.ownsMap Try.prog 58 (plainElem Try.prog 3) m n D := hA.map.drew.drew
  have HA := Lib.hid hA
  have HBX := Lib.hid hbx
  have HGN : Hid (GN (D.put (nk (o, u, a, b)) (.lit (.int .i64 (n : Int)))) (l ++ [(o, u, a, b)])) := by
    show GN _ _
    rw [← h.len]
    exact gn_step h.gn h.map.isMap hw hm
  have HB := Lib.hid hB
  have HW := Lib.hid hW
  have HBASE : Hid (base ≤ W.heap.size) := Nat.le_trans hbase hB.size
  clear hv hhas hm h hB hA hbx hW
  go_enter Try.func45, Try.ntmps45
  go_wp2_with fail
  rw [← HW.out]
  go_region
  go_wp2_with fail
  refine region_tail 6 (by kernel_rfl) (by kernel_rfl) ?_
  simp only [List.take_succ_cons, List.take_zero, List.drop_succ_cons, List.drop_zero]
  repeat still_step
  refine wpStill_nil ?_
  refine wpList_mapUpdate_own _ rfl _ _ _ 71 rfl 58 3 lawNd Try.underlying71 _ m n _ rfl hownA (by unfold maxLen; omega) _ _ _ rfl rfl hkey _ [] (plainElem_int Try.underlying3 hwn) ?_
  intro w1 hown1 hgrow1
  obtain ⟨D1, hD1⟩ : ∃ X, X = D.put (nk (o, u, a, b)) (.lit (.int .i64 (n : Int))) := ⟨_, rfl⟩
  rw [← hD1] at hown1 HGN
  have box1 : Blk w1 g 73 #[.slice A n c, .map (some m)] := Blk.grown (show Blk W.drew.drew g _ _ from HA.out.box) hgrow1 (fun x => map_apart HA.out.map HA.out.box (Option.some.inj x))
  have row1 : OwnN w1 base A n c l := World.ownsRow.kept (show W.drew.drew.ownsRow _ _ _ _ _ _ from HA.out.row) hgrow1 (.inr (fun x => map_row HA.out.map HA.out.row x.symm))
  have bx1 : Blk w1 w.heap.size 58 #[.int .i64 o, .int .i64 u, .int .i64 a, .int .i64 b] := Blk.grown (show Blk W.drew.drew _ _ _ from HBX.out) hgrow1 (fun x => map_apart HA.out.map HBX.out (Option.some.inj x))
  have hbel1 : Below base w w1 := (HB.out.mono hbase).drew.drew.grown hgrow1 HBASE.out (fun k e => by have e' := Option.some.inj e; have := HA.out.bm; omega)
  have hs1 : base ≤ w1.heap.size := Nat.le_trans hbase hbel1.size
  have HB1 := Lib.hid hbel1
  have HBG := Lib.hid HA.out.bg
  have HBM := Lib.hid HA.out.bm
  have HDR : Hid (IxG base g m w.heap.size A n c l o u a b D1 w1 (fun _ => false) (fun _ => undef) w1.drew) := ⟨(Below.refl _ _).drew, hown1.drew, fun _ => bx1, fun _ => box1, fun _ => row1, (fun e => by cases e), (fun e => by cases e), (fun e => by cases e)⟩
  clear hbel1 box1 row1 bx1 hown1 hgrow1 hownA hrun k0 k1 x0 x1 x2 x3 HA HBX HB HW hwn hkey hD1
  go_wp2_with fail
  rw [act_tmN _ 40 rfl]
  refine region_slots2 40 _ (fun _ d f w' => IxG base g m w.heap.size A n c l o u a b D1 w1 d f w') (fun j v _ => IxC g A n c o u a b j v) (fun _ _ => True) (by kernel_rfl) (by kernel_rfl) ⟨HDR.out.bel, HDR.out.map, HDR.out.bxb, HDR.out.box, HDR.out.row, (fun e => by cases e), (fun e => by cases e), (fun e => by cases e)⟩ (fun _ _ _ _ _ hx => hx) (AllFrom.all (AllFrom.cons ?o0 (AllFrom.cons ?o1 (AllFrom.cons ?o2 (AllFrom.cons ?o3 (AllFrom.cons ?o4 (AllFrom.cons ?o5 (AllFrom.cons ?o6 (AllFrom.cons ?o7 (AllFrom.cons ?o8 (AllFrom.cons ?o9 (AllFrom.cons ?o10 AllFrom.nil)))))))))))) ?fin
  case o0 =>
    intro k d f wy hk hun hcl hwt hG hf hC
    have e0 : (tm 40 f).tmps[0]?.getD undef = .pointer (some ⟨g, 0, none⟩) := (tm_getN (by omega) f).trans (hf 0 (frame_of (by kernel_rfl)))
    refine op_wp rfl rfl fun K' hK' => ?_
    go_simp
    exact hK' _ _ ⟨_, rfl, trivial, hG.same (by decide) (by decide) (by decide) (by decide) (by decide), rfl⟩
  case o1 =>
    intro k d f wy hk hun hcl hwt hG hf hC
    have e0 : (tm 40 f).tmps[0]?.getD undef = .pointer (some ⟨g, 0, none⟩) := (tm_getN (by omega) f).trans (hf 0 (frame_of (by kernel_rfl)))
    refine op_wp rfl rfl fun K' hK' => ?_
    go_simp
    exact hK' _ _ ⟨_, rfl, trivial, hG.same (by decide) (by decide) (by decide) (by decide) (by decide), rfl⟩
  case o2 =>
    intro k d f wy hk hun hcl hwt hG hf hC
    have e30 : (tm 40 f).tmps[30]?.getD undef = .pointer (some ⟨g, 0, none⟩) := (tm_getN (by omega) f).trans (hC 1 (by kernel_rfl))
    refine op_wp rfl rfl fun K' hK' => ?_
    go_simp
    exact hK' _ _ ⟨_, rfl, trivial, hG.same (by decide) (by decide) (by decide) (by decide) (by decide), rfl⟩
  case o3 =>
    intro k d f wy hk hun hcl hwt hG hf hC
    have e31 : (tm 40 f).tmps[31]?.getD undef = .pointer (some ⟨g, 0, none⟩) := (tm_getN (by omega) f).trans (hC 2 (by kernel_rfl))
    refine op_wp rfl rfl fun K' hK' => ?_
    go_simp
    exact hK' _ _ ⟨_, rfl, trivial, hG.same (by decide) (by decide) (by decide) (by decide) (by decide), rfl⟩
  case o4 =>
    intro k d f wy hk hun hcl hwt hG hf hC
    have e32 : (tm 40 f).tmps[32]?.getD undef = .pointer (some ⟨g, 0, none⟩) := (tm_getN (by omega) f).trans (hC 3 (by kernel_rfl))
    have d10 := not_fed (top := 10) (by kernel_rfl) hcl (i := 4) (by omega) hun
    have c0 := (hG.box d10).cell 0
    simp at c0
    refine op_wp rfl rfl fun K' hK' => ?_
    go_simp
    exact hK' _ _ ⟨_, rfl, trivial, hG.same (by decide) (by decide) (by decide) (by decide) (by decide), rfl⟩
  case o5 =>
    intro k d f wy hk hun hcl hwt hG hf hC
    have e3 : (tm 40 f).eval (.tmp 3) = .pointer (some ⟨w.heap.size, 0, none⟩) := (tm_eval (by omega) f).trans (hf 3 (frame_of (by kernel_rfl)))
    have hk2 := hG.bxb hun
    refine op_wp rfl rfl fun K' hK' => ?_
    refine wp_load_row 58 _ rfl w.heap.size e3 58 #[.int .i64 o, .int .i64 u, .int .i64 a, .int .i64 b] (0, 0) _ hk2 Try.underlying58 rfl (by kernel_rfl) ?_
    exact hK' _ _ ⟨_, rfl, trivial, hG.same (by decide) (by decide) (by decide) (by decide) (by decide), rfl⟩
  case o6 =>
    intro k d f wy hk hun hcl hwt hG hf hC
    have d7 : d 7 = false := by
      cases hd : d 7 with
      | false => rfl
      | true =>
        have h7 := hcl 7 6 hd (by kernel_rfl)
        rw [hun] at h7
        cases h7
    have d10 := not_fed (top := 10) (by kernel_rfl) hcl (i := 6) (by omega) hun
    have hsy : base ≤ wy.heap.size := Nat.le_trans hs1 hG.bel.size
    have e34 : (tm 40 f).tmps[34]?.getD undef = .agg #[.int .i64 o, .int .i64 u, .int .i64 a, .int .i64 b] := (tm_getN (by omega) f).trans (hC 5 (by kernel_rfl))
    refine op_wp rfl rfl fun K' hK' => ?_
    go_simp
    exact hK' _ _ ⟨.slice (some ⟨wy.heap.size, 0, none⟩) 1 1, rfl, trivial, hG.made d7 d10 hsy, trivial⟩
  case o7 =>
    intro k d f wy hk hun hcl hwt hG hf hC
    have d10 := not_fed (top := 10) (by kernel_rfl) hcl (i := 7) (by omega) hun
    have d6 : d 6 = true := hwt 6 (by kernel_rfl)
    have d5 : d 5 = true := hcl 6 5 d6 (by kernel_rfl)
    have hsy : base ≤ wy.heap.size := Nat.le_trans hs1 hG.bel.size
    obtain ⟨h1, hh1, hblk⟩ := hG.one d6 hun
    have hown := hG.row hun
    have e1 : (tm 40 f).eval (.tmp 33) = .slice A n c := (tm_eval (by omega) f).trans (hC 4 (by kernel_rfl))
    have e2 : (tm 40 f).eval (.tmp 35) = .slice (some ⟨h1, 0, none⟩) 1 1 := (tm_eval (by omega) f).trans hh1
    refine op_wp rfl rfl fun K' hK' => ?_
    refine wp_append_own wy (.tmp 33) (.tmp 35) 25 rfl base 58 i0 (.agg #[.int .i64 0, .int .i64 0, .int .i64 0, .int .i64 0]) 4 32 Try.underlying25 hi hz0 hz1 hz2 rfl (by decide) (.slice A n c) n (nodCells l) e1 hown ⟨h1, 0, none⟩ 1 1 (nodCells [(o, u, a, b)]) e2 rfl (nod_blk hblk) (nodCells_one _) (by unfold maxLen; omega) (by omega) hsy ?_
    intro v' w5 hown' hgrow hnil
    obtain ⟨g5, c5, rfl⟩ := nod_more hown'
    exact hK' _ _ ⟨_, rfl, trivial, hG.added d5 hun d10 hsy hgrow (nod_snoc hown'), trivial⟩
  case o8 =>
    intro k d f wy hk hun hcl hwt hG hf hC
    have e29 : (tm 40 f).tmps[29]?.getD undef = .pointer (some ⟨g, 0, none⟩) := (tm_getN (by omega) f).trans (hC 0 (by kernel_rfl))
    refine op_wp rfl rfl fun K' hK' => ?_
    go_simp
    exact hK' _ _ ⟨_, rfl, trivial, hG.same (by decide) (by decide) (by decide) (by decide) (by decide), rfl⟩
  case o9 =>
    intro k d f wy hk hun hcl hwt hG hf hC
    have e37 : (tm 40 f).tmps[37]?.getD undef = .pointer (some ⟨g, 0, none⟩) := (tm_getN (by omega) f).trans (hC 8 (by kernel_rfl))
    refine op_wp rfl rfl fun K' hK' => ?_
    go_simp
    exact hK' _ _ ⟨_, rfl, trivial, hG.same (by decide) (by decide) (by decide) (by decide) (by decide), rfl⟩
  case o10 =>
    intro k d f wy hk hun hcl hwt hG hf hC
    have d7 : d 7 = true := hwt 7 (by kernel_rfl)
    have d6 : d 6 = true := hcl 7 6 d7 (by kernel_rfl)
    have d5 : d 5 = true := hcl 6 5 d6 (by kernel_rfl)
    obtain ⟨q, kq, hq, _⟩ := hG.new d7
    have hbox := hG.box hun
    have c0 := hbox.cell 0
    simp at c0
    have f0 := hbox.thawed 0
    have e38 : (tm 40 f).tmps[38]?.getD undef = .pointer (some ⟨g, 0, none⟩) := (tm_getN (by omega) f).trans (hC 9 (by kernel_rfl))
    have e36 : (tm 40 f).tmps[36]?.getD undef = .slice (some ⟨q, 0, none⟩) (n + 1) kq := (tm_getN (by omega) f).trans hq
    refine op_wp rfl rfl fun K' hK' => ?_
    go_simp
    exact hK' _ _ ⟨undef, rfl, trivial, hG.put d5 d7 hun HBG.out hq, trivial⟩
  case fin =>
    intro k d f wy hk hall hG hf hC
    obtain ⟨q, kq, hq, hown⟩ := hG.new (hall 7 (by decide))
    obtain ⟨q', kq', hq', hbox⟩ := hG.fin (hall 10 (by decide))
    rw [hq] at hq'
    injection hq' with e1 e2 e3
    injection e1 with e1
    injection e1 with e1
    subst e1; subst e3
    have hfr : ∀ t, t ∉ [29, 30, 31, 32, 33, 34, 35, 36, 37, 38] → f t = _ := fun t ht => hf t (covers_not (by kernel_rfl) ht)
    have HO : Hid (Below base w wy ∧ ArO wy base g m (some ⟨q, 0, none⟩) (n + 1) kq D1 (l ++ [(o, u, a, b)])) := ⟨HB1.out.trans hG.bel, HBG.out, HBM.out, hbox, hown, hG.map, HGN.out⟩
    rw [tm_frame 40 f _ _ hfr, ← act_tmN _ 40 rfl]
    simp only [List.foldl_cons, List.foldl_nil, Act.put, List.setIfInBounds_toArray, List.set_cons_succ, List.set_cons_zero]
    generalize f 29 = y29
    generalize f 30 = y30
    generalize f 31 = y31
    generalize f 32 = y32
    generalize f 33 = y33
    generalize f 34 = y34
    generalize f 35 = y35
    generalize f 36 = y36
    generalize f 37 = y37
    generalize f 38 = y38
    clear hG hf hC hall hfr hq hown hbox HDR
    go_wp2
    go_ret
    exact ⟨rfl, HO.out.1, _, _, _, HO.out.2⟩
end Go.Proofs.Ytblgapcpkeapaaa

namespace Go.Proofs.Ytblgapcpkeapaaa
open Go.RowKit

/-- a world in which all that w holds is as it was -/
structure Later (w : World) : Type where
  out : World
  bel : Below w.heap.size w out
instance (w : World) : Nonempty (Later w) := ⟨⟨w, Below.refl _ _⟩⟩
theorem Later.cell {w : World} (d : Later w) {p : Addr} {v : Value} (hp : p.block < w.heap.size) (h : w.cell? p = some v) : d.out.cell? p = some v := (d.bel.cell hp).trans h

theorem region_later {P : Program} {id : Nat} {Q : Exit → Act → World → Prop} {a : Act} {w : World} {l : List Oper} (hm : P.follows .mixedOrders = true) (hB : Region.lexB .any l.toArray = true)
    (h : wpQuiet P l.toArray (fun w' => ∃ d : Later w, w' = d.out) (fun a' => ∀ w', Below w.heap.size w w' → Q .normal a' w') l a) : (Code.region id l.toArray true).wp P Q a w := by
  have e : (fun a' => ∀ w', (∃ d : Later w, w' = d.out) → Q .normal a' w') = fun a' => ∀ w', Below w.heap.size w w' → Q .normal a' w' := by
    funext a'
    apply propext
    constructor
    · intro h w' hb
      exact h w' ⟨⟨w', hb⟩, rfl⟩
    · rintro h w' ⟨d, rfl⟩
      exact h d.out d.bel
  refine wp_region_quiet (C := fun w' => ∃ d : Later w, w' = d.out) hm hB ⟨⟨w.drew, (Below.refl _ _).drew⟩, rfl⟩ ?_
  rw [e]
  exact h

/-- a callee's contract, met in a later world -/
theorem calls_later {P : Program} {f : FuncId} {args : Array Value} {w : World} {d : Later w} {v : Value} (h : Calls P f args d.out fun e w' => e = .returned v ∧ Below d.out.heap.size d.out w') :
    Calls P f args d.out fun e w'' => e = .returned v ∧ ∃ d' : Later w, w'' = d'.out :=
  h.mono fun _ w'' ⟨he, hb⟩ => ⟨he, ⟨w'', d.bel.trans (hb.mono d.bel.size)⟩, rfl⟩
theorem calls_later_same {P : Program} {f : FuncId} {args : Array Value} {w : World} {d : Later w} {v : Value} (h : Calls P f args d.out fun e w' => e = .returned v ∧ d.out = w') :
    Calls P f args d.out fun e w'' => e = .returned v ∧ ∃ d' : Later w, w'' = d'.out :=
  h.mono fun _ _ ⟨he, hb⟩ => ⟨he, d, hb.symm⟩
end Go.Proofs.Ytblgapcpkeapaaa

namespace Go.Proofs.Ytblgapcpkeapaaa
open Go.RowKit
open Cs (Cn)

/-- the slice value '.slice A n c' reads as the constraints l; its cells lie below block B -/
def ConR (w : World) (B : Nat) (A : Option Addr) (n : Nat) (l : List Cn) : Prop :=
  l.length = n ∧ (0 < n → ∃ b off, A = some ⟨b, off, none⟩ ∧ b < B ∧ ∀ k, k < n →
    w.cell? ⟨b, off + k * 3, none⟩ = some (.int .i64 (l.getD k (0, 0, 0)).1) ∧ w.cell? ⟨b, off + k * 3 + 1, none⟩ = some (.int .i64 (l.getD k (0, 0, 0)).2.1) ∧ w.cell? ⟨b, off + k * 3 + 2, none⟩ = some (.int .i64 (l.getD k (0, 0, 0)).2.2))
section
variable {w w' : World} {B B' n : Nat} {A : Option Addr}
theorem ConR.keep {l : List Cn} (h : ConR w B A n l) (hk : ∀ p : Addr, p.block < B → w'.cell? p = w.cell? p) : ConR w' B A n l :=
  ⟨h.1, fun hn => by
    obtain ⟨b, off, e, hb, hc⟩ := h.2 hn
    exact ⟨b, off, e, hb, fun k hk' => by rw [hk _ (by exact hb), hk _ (by exact hb), hk _ (by exact hb)]; exact hc k hk'⟩⟩
theorem ConR.below {l : List Cn} (h : ConR w B A n l) (hb : Below B w w') : ConR w' B A n l := h.keep fun _ hp => hb.cell hp
theorem ConR.more {l : List Cn} (h : ConR w B A n l) (hB : B ≤ B') : ConR w B' A n l :=
  ⟨h.1, fun hn => by
    obtain ⟨b, off, e, hb, hc⟩ := h.2 hn
    exact ⟨b, off, e, by omega, hc⟩⟩
end
/-- the cells of a list of constraints -/
def conCells (l : List Cn) : List Value := l.flatMap fun t => [.int .i64 t.1, .int .i64 t.2.1, .int .i64 t.2.2]
theorem conCells_cons (t : Cn) (l : List Cn) : conCells (t :: l) = .int .i64 t.1 :: .int .i64 t.2.1 :: .int .i64 t.2.2 :: conCells l := rfl
theorem conCells_len (l : List Cn) : (conCells l).length = l.length * 3 := by
  induction l with
  | nil => rfl
  | cons t r ih => rw [conCells_cons]; simp [ih]; omega
theorem conCells_at (l : List Cn) (k : Nat) (hk : k < l.length) : (conCells l)[k * 3]? = some (.int .i64 (l.getD k (0, 0, 0)).1) ∧ (conCells l)[k * 3 + 1]? = some (.int .i64 (l.getD k (0, 0, 0)).2.1) ∧ (conCells l)[k * 3 + 2]? = some (.int .i64 (l.getD k (0, 0, 0)).2.2) := by
  induction l generalizing k with
  | nil => simp at hk
  | cons t r ih =>
    rw [conCells_cons]
    cases k with
    | zero => exact ⟨rfl, rfl, rfl⟩
    | succ k =>
      have h := ih k (by simpa using hk)
      rw [show (k + 1) * 3 = k * 3 + 1 + 1 + 1 by omega]
      exact h
/-- a row of the call's own, of constraints -/
abbrev OwnC (w : World) (base : Nat) (A : Option Addr) (n c : Nat) (l : List Cn) : Prop := w.ownsRow base 81 3 (.slice A n c) n (conCells l)
theorem OwnC.reads {w : World} {base : Nat} {A : Option Addr} {n c : Nat} {l : List Cn} (h : OwnC w base A n c l) : ConR w w.heap.size A n l := by
  have hl : l.length = n := by have := h.1; rw [conCells_len] at this; omega
  refine ⟨hl, fun hn => ?_⟩
  rcases h.2 with ⟨_, h0⟩ | ⟨g, cap, cur, hv, hb, hgg, h1, h2, h3, h4⟩
  · omega
  · injection hv with e1 e2 e3
    subst e1
    refine ⟨g, 0, rfl, (Array.getElem?_eq_some_iff.1 hgg).1, fun k hk => ?_⟩
    have hat := conCells_at l k (by omega)
    have c1 := h.cells (g := g) rfl (k * 3) _ hat.1
    have c2 := h.cells (g := g) rfl (k * 3 + 1) _ hat.2.1
    have c3 := h.cells (g := g) rfl (k * 3 + 2) _ hat.2.2
    rw [own_adds] at c1 c2 c3
    rw [Nat.zero_add]
    exact ⟨c1, c2, c3⟩
end Go.Proofs.Ytblgapcpkeapaaa

namespace Go.Proofs.Ytblgapcpkeapaaa
open Go.RowKit
open Cs (Cn)

set_option maxHeartbeats 400000 in
theorem parOk_any (w : World) (p : Int) : Calls Try.prog 82 #[.int .i64 p] w fun e w' => e = .returned (.bool (decide (0 ≤ p) && decide (p < 5))) ∧ w' = w := by
  by_cases h1 : 0 ≤ p
  · have HF : Hid ((decide (0 ≤ p) && decide (p < 5)) = decide (p < 5)) := by show _ = _; simp [h1]
    have d1 : decide (0 ≤ p) = true := decide_eq_true h1
    go_enter Try.func82, Try.ntmps82
    go_wp2
    go_ret
    exact ⟨by rw [HF.out]; rfl, rfl⟩
  · have d1 : decide (0 ≤ p) = false := decide_eq_false h1
    go_enter Try.func82, Try.ntmps82
    go_wp2
    go_ret
    exact ⟨rfl, rfl⟩
end Go.Proofs.Ytblgapcpkeapaaa

namespace Go.Proofs.Ytblgapcpkeapaaa
open Go.RowKit

def tkA (o : Int) : Bool := decide (o = 2) || decide (o = 3)
def tkB (o : Int) : Bool := decide (o = 1) || tkA o
def tokB (o n : Int) : Bool := if o = 4 then decide (0 ≤ n) && decide (n < 5) else decide (0 ≤ o) && decide (o < 4) && decide (n = 0)
def opdB (x : Int) (t : Bool) (k : Nat) : Bool := if t = true then decide (0 ≤ x) && decide (x < k) else decide (x = -1)
/-- the node t is right at place k (but for equal ones before it) -/
def ndOk (t : Nd) (k : Nat) : Bool := tokB t.1 t.2.1 && opdB t.2.2.1 (tkA t.1) k && opdB t.2.2.2 (tkB t.1) k

set_option maxHeartbeats 400000 in
theorem takesA_any (w : World) (o : Int) : Calls Try.prog 63 #[.int .i64 o] w fun e w' => e = .returned (.bool (tkA o)) ∧ w = w' := by
  by_cases h1 : o = 2
  · subst h1
    go_enter Try.func63, Try.ntmps63
    go_wp2
    go_ret
    exact ⟨rfl, rfl⟩
  · have e1 : (o == 2) = false := by simpa using h1
    have HF : Hid (tkA o = (o == 3)) := by
      show _ = _
      unfold tkA
      rw [decide_eq_false h1]
      rfl
    clear h1
    go_enter Try.func63, Try.ntmps63
    go_wp2
    go_ret
    exact ⟨by rw [HF.out]; rfl, rfl⟩
set_option maxHeartbeats 400000 in
theorem takesB_any (w : World) (o : Int) : Calls Try.prog 64 #[.int .i64 o] w fun e w' => e = .returned (.bool (tkB o)) ∧ w = w' := by
  by_cases h1 : o = 1
  · subst h1
    go_enter Try.func64, Try.ntmps64
    go_wp2
    go_ret
    exact ⟨rfl, rfl⟩
  · have e1 : (o == 1) = false := by simpa using h1
    have HF : Hid (tkB o = tkA o) := by
      show _ = _
      unfold tkB
      rw [decide_eq_false h1]
      rfl
    clear h1
    go_enter Try.func64, Try.ntmps64
    go_wp2_with fail
    refine (takesA_any _ o).mono ?_
    rintro e w1 ⟨rfl, rfl⟩
    go_wp2
    go_ret
    exact ⟨by rw [HF.out]; rfl, rfl⟩
set_option maxHeartbeats 400000 in
theorem operandOk_any (w : World) (x : Int) (t : Bool) (k : Nat) : Calls Try.prog 77 #[.int .i64 x, .bool t, .int .i64 (k : Int)] w fun e w' => e = .returned (.bool (opdB x t k)) ∧ w = w' := by
  cases t with
  | false =>
    have HF : Hid (opdB x false k = (x == -1)) := by show _ = _; rfl
    go_enter Try.func77, Try.ntmps77
    go_wp2
    go_ret
    exact ⟨by rw [HF.out]; rfl, rfl⟩
  | true =>
    by_cases h1 : 0 ≤ x
    · have HF : Hid (opdB x true k = decide (x < k)) := by show _ = _; unfold opdB; rw [if_pos rfl, decide_eq_true h1]; rfl
      have d1 : decide (0 ≤ x) = true := decide_eq_true h1
      clear h1
      go_enter Try.func77, Try.ntmps77
      go_wp2
      go_ret
      exact ⟨by rw [HF.out]; rfl, rfl⟩
    · have HF : Hid (opdB x true k = false) := by show _ = _; unfold opdB; rw [if_pos rfl, decide_eq_false h1]; rfl
      have d1 : decide (0 ≤ x) = false := decide_eq_false h1
      clear h1
      go_enter Try.func77, Try.ntmps77
      go_wp2
      go_ret
      exact ⟨by rw [HF.out]; rfl, rfl⟩
set_option maxHeartbeats 400000 in
theorem tokOf_any (w : World) (o n a b : Int) : Calls Try.prog 76 #[.agg #[.int .i64 o, .int .i64 n, .int .i64 a, .int .i64 b]] w fun e w' => e = .returned (.agg #[.int .i64 o, .int .i64 n]) ∧ Below w.heap.size w w' := by
  go_enter Try.func76, Try.ntmps76
  go_wp2
  exact bodyPost_ret (v := .agg #[.int .i64 o, .int .i64 n]) (by simp [results, Try.results76, go_sem]) rfl ⟨rfl, ((Below.refl _ _).alloc (Nat.le_refl _) _).alloc (by simp) _⟩
set_option maxHeartbeats 800000 in
theorem tokOk_any (w : World) (o n : Int) : Calls Try.prog 75 #[.agg #[.int .i64 o, .int .i64 n]] w fun e w' => e = .returned (.bool (tokB o n)) ∧ Below w.heap.size w w' := by
  have HB : Hid (Below w.heap.size w (w.alloc (.cells #[.int .i64 o, .int .i64 n] 112))) := (Below.refl _ _).alloc (Nat.le_refl _) _
  by_cases h4 : o = 4
  · subst h4
    have HF : Hid ((decide (0 ≤ n) && decide (n < 5)) = tokB 4 n) := by show _ = _; rfl
    go_enter Try.func75, Try.ntmps75
    go_wp2_with fail
    refine (parOk_any _ n).mono ?_
    rintro e w1 ⟨rfl, rfl⟩
    rw [HF.out]
    go_wp2
    go_ret
    exact ⟨rfl, HB.out⟩
  · have e4 : (o == 4) = false := by simpa using h4
    have HF : Hid (tokB o n = (decide (0 ≤ o) && decide (o < 4) && decide (n = 0))) := by show _ = _; unfold tokB; rw [if_neg h4]
    clear h4
    by_cases h0 : 0 ≤ o
    · have d0 : decide (0 ≤ o) = true := decide_eq_true h0
      by_cases h1 : o < 4
      · have d1 : decide (o < 4) = true := decide_eq_true h1
        have HG : Hid (tokB o n = (n == 0)) := by show _ = _; rw [HF.out, d0, d1]; rfl
        clear h0 h1
        go_enter Try.func75, Try.ntmps75
        go_wp2
        go_ret
        exact ⟨by rw [HG.out]; rfl, HB.out⟩
      · have d1 : decide (o < 4) = false := decide_eq_false h1
        have HG : Hid (tokB o n = false) := by show _ = _; rw [HF.out, d0, d1]; rfl
        clear h0 h1
        go_enter Try.func75, Try.ntmps75
        go_wp2
        go_ret
        exact ⟨by rw [HG.out]; rfl, HB.out⟩
    · have d0 : decide (0 ≤ o) = false := decide_eq_false h0
      have HG : Hid (tokB o n = false) := by show _ = _; rw [HF.out, d0]; rfl
      clear h0
      go_enter Try.func75, Try.ntmps75
      go_wp2
      go_ret
      exact ⟨by rw [HG.out]; rfl, HB.out⟩

set_option maxRecDepth 100000 in
set_option maxHeartbeats 2000000 in
theorem okAt_any (w : World) (o n a b : Int) (k : Nat) : Calls Try.prog 61 #[.agg #[.int .i64 o, .int .i64 n, .int .i64 a, .int .i64 b], .int .i64 (k : Int)] w fun e w' => e = .returned (.bool (ndOk (o, n, a, b) k)) ∧ Below w.heap.size w w' := by
  obtain ⟨W, hW⟩ : ∃ W, W = w.alloc (.cells #[.int .i64 o, .int .i64 n, .int .i64 a, .int .i64 b] 58) := ⟨_, rfl⟩
  have hbel : Below w.heap.size w W := by rw [hW]; exact (Below.refl _ _).alloc (Nat.le_refl _) _
  have hg : w.heap.size < W.heap.size := by rw [hW]; simp
  have k1 : ∀ d : Later W, d.out.cell? ⟨w.heap.size, 0, none⟩ = some (.int .i64 o) := fun d => d.cell hg (by rw [hW]; exact (Blk.made w 58 #[.int .i64 o, .int .i64 n, .int .i64 a, .int .i64 b]).cell 0)
  have k2 : ∀ d : Later W, d.out.cell? ⟨w.heap.size, 1, none⟩ = some (.int .i64 n) := fun d => d.cell hg (by rw [hW]; exact (Blk.made w 58 #[.int .i64 o, .int .i64 n, .int .i64 a, .int .i64 b]).cell 1)
  have k3 : ∀ d : Later W, d.out.cell? ⟨w.heap.size, 2, none⟩ = some (.int .i64 a) := fun d => d.cell hg (by rw [hW]; exact (Blk.made w 58 #[.int .i64 o, .int .i64 n, .int .i64 a, .int .i64 b]).cell 2)
  have k4 : ∀ d : Later W, d.out.cell? ⟨w.heap.size, 3, none⟩ = some (.int .i64 b) := fun d => d.cell hg (by rw [hW]; exact (Blk.made w 58 #[.int .i64 o, .int .i64 n, .int .i64 a, .int .i64 b]).cell 3)
  have C1 : Hid (∀ d : Later W, Calls Try.prog 76 #[.agg #[.int .i64 o, .int .i64 n, .int .i64 a, .int .i64 b]] d.out fun e w'' => e = .returned (.agg #[.int .i64 o, .int .i64 n]) ∧ ∃ d' : Later W, w'' = d'.out) := fun d => calls_later (tokOf_any _ _ _ _ _)
  have C2 : Hid (∀ d : Later W, Calls Try.prog 75 #[.agg #[.int .i64 o, .int .i64 n]] d.out fun e w'' => e = .returned (.bool (tokB o n)) ∧ ∃ d' : Later W, w'' = d'.out) := fun d => calls_later (tokOk_any _ _ _)
  have C3 : Hid (∀ d : Later W, Calls Try.prog 63 #[.int .i64 o] d.out fun e w'' => e = .returned (.bool (tkA o)) ∧ ∃ d' : Later W, w'' = d'.out) := fun d => calls_later_same (takesA_any _ _)
  have C4 : Hid (∀ d : Later W, Calls Try.prog 77 #[.int .i64 a, .bool (tkA o), .int .i64 (k : Int)] d.out fun e w'' => e = .returned (.bool (opdB a (tkA o) k)) ∧ ∃ d' : Later W, w'' = d'.out) := fun d => calls_later_same (operandOk_any _ _ _ _)
  have C5 : Hid (∀ d : Later W, Calls Try.prog 64 #[.int .i64 o] d.out fun e w'' => e = .returned (.bool (tkB o)) ∧ ∃ d' : Later W, w'' = d'.out) := fun d => calls_later_same (takesB_any _ _)
  have C6 : Hid (∀ d : Later W, Calls Try.prog 77 #[.int .i64 b, .bool (tkB o), .int .i64 (k : Int)] d.out fun e w'' => e = .returned (.bool (opdB b (tkB o) k)) ∧ ∃ d' : Later W, w'' = d'.out) := fun d => calls_later_same (operandOk_any _ _ _ _)
  have HF : Hid (ndOk (o, n, a, b) k = (tokB o n && opdB a (tkA o) k && opdB b (tkB o) k)) := by show _ = _; rfl
  have HBEL := Lib.hid hbel
  have HW := Lib.hid hW
  obtain ⟨u1, hu1⟩ : ∃ u, tokB o n = u := ⟨_, rfl⟩
  obtain ⟨u2, hu2⟩ : ∃ u, tkA o = u := ⟨_, rfl⟩
  obtain ⟨u3, hu3⟩ : ∃ u, tkB o = u := ⟨_, rfl⟩
  rw [hu2] at C3 C4 HF
  rw [hu3] at C5 C6 HF
  rw [hu1] at C2 HF
  obtain ⟨u4, hu4⟩ : ∃ u, opdB a u2 k = u := ⟨_, rfl⟩
  obtain ⟨u5, hu5⟩ : ∃ u, opdB b u3 k = u := ⟨_, rfl⟩
  rw [hu4] at C4 HF
  rw [hu5] at C6 HF
  clear hu1 hu2 hu3 hu4 hu5 hW hbel hg

  cases u1 with
  | false =>
    go_enter Try.func61, Try.ntmps61
    go_wp2_with fail
    rw [← HW.out]
    refine region_later (by kernel_rfl) (by kernel_rfl) ?_
    repeat (go_big_quiet_step (first | with_reducible exact C1.out _ | with_reducible exact C2.out _ | with_reducible exact C3.out _ | with_reducible exact C4.out _ | with_reducible exact C5.out _ | with_reducible exact C6.out _))
    refine wpQuiet_nil ?_
    intro w1 hb1
    have HB := Lib.hid (HBEL.out.trans (hb1.mono HBEL.out.size))
    clear hb1
    go_wp2
    go_ret
    exact ⟨by rw [HF.out]; rfl, HB.out⟩
  | true =>
    cases u4 with
    | false =>
      go_enter Try.func61, Try.ntmps61
      go_wp2_with fail
      rw [← HW.out]
      refine region_later (by kernel_rfl) (by kernel_rfl) ?_
      repeat (go_big_quiet_step (first | with_reducible exact C1.out _ | with_reducible exact C2.out _ | with_reducible exact C3.out _ | with_reducible exact C4.out _ | with_reducible exact C5.out _ | with_reducible exact C6.out _))
      refine wpQuiet_nil ?_
      intro w1 hb1
      have HB := Lib.hid (HBEL.out.trans (hb1.mono HBEL.out.size))
      clear hb1
      go_wp2
      go_ret
      exact ⟨by rw [HF.out]; rfl, HB.out⟩
    | true =>
      go_enter Try.func61, Try.ntmps61
      go_wp2_with fail
      rw [← HW.out]
      refine region_later (by kernel_rfl) (by kernel_rfl) ?_
      repeat (go_big_quiet_step (first | with_reducible exact C1.out _ | with_reducible exact C2.out _ | with_reducible exact C3.out _ | with_reducible exact C4.out _ | with_reducible exact C5.out _ | with_reducible exact C6.out _))
      refine wpQuiet_nil ?_
      intro w1 hb1
      have HB := Lib.hid (HBEL.out.trans (hb1.mono HBEL.out.size))
      clear hb1
      go_wp2
      go_ret
      exact ⟨by rw [HF.out]; rfl, HB.out⟩

end Go.Proofs.Ytblgapcpkeapaaa
