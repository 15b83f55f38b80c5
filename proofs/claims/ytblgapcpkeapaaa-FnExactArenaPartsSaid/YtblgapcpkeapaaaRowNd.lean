/- The law FnExactArenaParts: the walk. -/
/- What every row of a seat without variables needs: an argument that is a slice of atoms, of numbers, of bytes. -/
/- What the rows over nodes need: an argument that is a slice of nodes. -/
import Derived.Test.YtblgapcpkeapaaaLawN2
import Derived.Test.YtblgapcpkeapaaaMarks
import Derived.ProofKit
import Derived.OpenShut
import Derived.OpenVars
import Derived.Deep.SlicePairs
import Derived.Deep.DeepHandedRow
import Derived.LaidLaws
import Derived.ChangeVars
import Derived.SizedLaws
import Derived.Test.YtblgapcpkeapaaaLawN
import Derived.Deep.Strs

namespace Go.Proofs.Ytblgapcpkeapaaa
open Go.RowKit

set_option maxRecDepth 100000 in
set_option maxHeartbeats 2000000 in
theorem partsLaw_any (w : World) (B : Nat) (A : Option Addr) (n c : Nat) (l : List Nd) (x : Int) (hB : B ≤ w.heap.size)
    (hl : NodR w B A n l) (hn : (n : Int) ≤ 9223372036854775807) :
    Calls Try.prog 4 #[.slice A n c, .int .i64 x] w fun e w' => e = .returned (.bool true) ∧ Below w.heap.size w w' := by
  by_cases hbig : (1048576 : Int) < n
  · go_enter Try.func4, Try.ntmps4
    go_wp2_with fail
    refine (szNodeS_any A n c 1048576 w (by omega) (by omega) hn).mono ?_
    rintro e w' ⟨rfl, rfl⟩
    rw [if_pos hbig]
    go_wp2
    go_ret
    exact ⟨rfl, Below.refl _ _⟩
  · have hn' : n ≤ 1048576 := by omega
    have hP : (partsR l n x).length ≤ n + 1 := partsR_len
    go_enter Try.func4, Try.ntmps4
    go_wp2_with fail
    refine (szNodeS_any A n c 1048576 w (by omega) (by omega) hn).mono ?_
    rintro e w' ⟨rfl, rfl⟩
    rw [if_neg (by omega)]
    have hs : ¬ (1048576 - (n : Int) < 0) := by omega
    go_wp2_with fail
    refine (toNodeS_any w B A n c l hB hl hn').mono ?_
    rintro e w1 ⟨rfl, hb1, ho1⟩
    have hz1 : w.heap.size + 1 ≤ w1.heap.size := by obtain ⟨_, cs, hblk, _⟩ := ho1; exact hblk.lt
    go_wp2_with fail
    refine (specParts_any w1 (w.heap.size + 1) _ n n l x hz1 ho1.reads hn').mono ?_
    rintro e w2 ⟨Aw, cw, rfl, ow2, hb2⟩
    have hB2 : Below w.heap.size w w2 := hb1.trans (hb2.mono hb1.size)
    have iw : InR (.slice Aw (partsR l n x).length cw) w1.heap.size w2.heap.size := own_in ow2
    have s2 := hb2.size
    go_wp2_with fail
    refine (toNodeS_any w2 B A n c l (Nat.le_trans hB hB2.size) (hl.below (hB2.mono hB)) hn').mono ?_
    rintro e w3 ⟨rfl, hb3, ho3⟩
    have hz3 : w2.heap.size + 1 ≤ w3.heap.size := by obtain ⟨_, cs, hblk, _⟩ := ho3; exact hblk.lt
    have hB3 : Below w.heap.size w w3 := hB2.trans (hb3.mono hB2.size)
    have ow3 := own_below' ow2 hb3
    have s3 := hB3.size
    go_wp2_with fail
    refine (implParts_any w3 (w2.heap.size + 1) _ n n l x hz3 ho3.reads hn').mono ?_
    rintro e w4 ⟨Ag, cg, rfl, og4, hb4⟩
    have hB4 : Below w.heap.size w w4 := hB3.trans (hb4.mono hB3.size)
    have ow4 := own_below' ow3 hb4
    have ho4 := ho3.below hb4 (by omega)
    have ig : InR (.slice Ag (partsR l n x).length cg) w3.heap.size w4.heap.size := own_in og4
    have s4 := hb4.size
    go_wp2_with fail
    refine (eqIntS_any w4 w4.heap.size _ _ _ _ _ _ _ _ (Nat.le_refl _) (OwnI.reads og4) (OwnI.reads ow4) (by omega) (by omega)).mono ?_
    rintro e w5 ⟨rfl, hb5⟩
    rw [decide_eq_true rfl]
    have hB5 : Below w.heap.size w w5 := hB4.trans (hb5.mono hB4.size)
    have ow5 := own_below' ow4 hb5
    have og5 := own_below' og4 hb5
    have ho5 := ho4.below hb5 (by omega)
    have s5 := hb5.size
    go_wp2_with fail
    refine (toNodeS_any w5 B A n c l (Nat.le_trans hB hB5.size) (hl.below (hB5.mono hB)) hn').mono ?_
    rintro e w6 ⟨rfl, hb6, hq6⟩
    have hz6 : w5.heap.size + 1 ≤ w6.heap.size := by obtain ⟨_, cs, hblk, _⟩ := hq6; exact hblk.lt
    have hB6 : Below w.heap.size w w6 := hB5.trans (hb6.mono hB5.size)
    have ow6 := own_below' ow5 hb6
    have og6 := own_below' og5 hb6
    have ho6 := ho5.below hb6 (by omega)
    go_wp2_with fail
    refine (eqNodeS_any w6 (w5.heap.size + 1) _ _ n n n n l l hz6 (ho6.reads.more (by omega)) hq6.reads (by omega) (by omega)).mono ?_
    rintro e w7 ⟨rfl, hb7⟩
    rw [decide_eq_true rfl]
    have hB7 : Below w.heap.size w w7 := hB6.trans (hb7.mono hB6.size)
    have ow7 := own_below' ow6 hb7
    have og7 := own_below' og6 hb7
    have hx7 := (ho6.below hb7 (by omega)).owns hn'
    have ix : InR (.slice (some ⟨w2.heap.size, 0, none⟩) n n) w2.heap.size (w2.heap.size + 1) := fun k hk => by
      have : w2.heap.size = k := by simpa [Value.ownBlock] using hk
      omega
    have s7 := hb7.size
    go_wp2_with fail
    refine (markNodeS_any w7 _ _ n n _ hx7 1 (by omega) (by omega)).mono ?_
    rintro e w8 ⟨rfl, hm8⟩
    have hB8 : Below w.heap.size w w8 := markBelow hB7 hm8 ix (by omega) hB7.size
    have ow8 := markKept ow7 hm8 ix iw (by omega)
    have og8 := markKept og7 hm8 ix ig (by omega)
    have s8 := hm8.2.1
    clear ho1 ho3 ho4 ho5 ho6 hq6 ow2 ow3 ow4 ow5 ow6 ow7 og4 og5 og6 og7 hx7 hm8
    have S8 := Lib.hid s8
    clear s8
    have hk8 : ¬ (((1 + n * 4 : Nat) : Int) < 0) := by omega
    go_wp2_with fail
    refine (eqIntS_any w8 w8.heap.size _ _ _ _ _ _ _ _ (Nat.le_refl _) (OwnI.reads og8) (OwnI.reads ow8) (by omega) (by omega)).mono ?_
    rintro e w9 ⟨rfl, hb9⟩
    rw [decide_eq_true rfl]
    have hB9 : Below w.heap.size w w9 := hB8.trans (hb9.mono hB8.size)
    have ow9 := own_below' ow8 hb9
    have og9 := own_below' og8 hb9
    go_wp2_with fail
    refine (markIntS_any w9 _ _ _ _ _ og9 1 (by omega) (by omega)).mono ?_
    rintro e wa ⟨rfl, hma⟩
    have hBa : Below w.heap.size w wa := markBelow hB9 hma ig (by omega) hB9.size
    have owa := markKept ow9 hma ig iw (by omega)
    have oga := hma.2.2
    have SA := Lib.hid hma.2.1
    clear hma
    go_wp2_with fail
    refine (heldIntS_any wa _ _ _ _ 1 oga (by omega) (by omega)).mono ?_
    rintro e wb ⟨rfl, rfl⟩
    have hq1 : ¬ (((1 + (partsR l n x).length : Nat) : Int) < 0) := by omega
    have hq2 : (((1 + (partsR l n x).length : Nat) : Int) != ((1 + (partsR l n x).length : Nat) : Int)) = false := by simp
    go_wp2_with fail
    refine (toNodeS_any wa B A n c l (Nat.le_trans hB hBa.size) (hl.below (hBa.mono hB)) hn').mono ?_
    rintro e wc ⟨rfl, hbc, hoc⟩
    have hzc : wa.heap.size + 1 ≤ wc.heap.size := by obtain ⟨_, cs, hblk, _⟩ := hoc; exact hblk.lt
    have hBc : Below w.heap.size w wc := hBa.trans (hbc.mono hBa.size)
    have owc := own_below' owa hbc
    have ogc := own_below' oga hbc
    go_wp2_with fail
    refine (implParts_any wc (wa.heap.size + 1) _ n n l x hzc hoc.reads hn').mono ?_
    rintro e wd ⟨Ah, ch, rfl, ohd, hbd⟩
    have hBd : Below w.heap.size w wd := hBc.trans (hbd.mono hBc.size)
    have owd := own_below' owc hbd
    have ogd := own_below' ogc hbd
    go_wp2_with fail
    refine (eqIntS_any wd wd.heap.size _ _ _ _ _ _ _ _ (Nat.le_refl _) (OwnI.reads ohd) (OwnI.reads owd) (by omega) (by omega)).mono ?_
    rintro e we ⟨rfl, hbe⟩
    rw [decide_eq_true rfl]
    have hBe : Below w.heap.size w we := hBd.trans (hbe.mono hBd.size)
    have oge := own_below' ogd hbe
    go_wp2_with fail
    refine (heldIntS_any we _ _ _ _ 1 oge (by omega) (by omega)).mono ?_
    rintro e wf ⟨rfl, rfl⟩
    go_wp2
    go_ret
    exact ⟨rfl, hBe⟩
end Go.Proofs.Ytblgapcpkeapaaa

namespace Go.Proofs.Ytblgapcpkeapaaa
open Go.ChangeShapes Go.WideShapes Go.ChangeAt Go.RowKit

theorem own : ownKnob Try.prog.godebug = none := by kernel_rfl
theorem laidOut : laidOutB Try.prog = true := by kernel_rfl
theorem cellsInt : Try.prog.cellsOf 3 = 1 := by kernel_rfl
/-- a world for the witness -/
noncomputable def plainWorld (os : Os) : World := World.holding Try.prog os ⟨#[], #[], []⟩
end Go.Proofs.Ytblgapcpkeapaaa

namespace Go.Proofs.Ytblgapcpkeapaaa
open Go.ChangeShapes Go.WideShapes Go.ChangeAt Go.RowKit

section
variable {H : Type} {enc : TypeId × Value → H} {P : Program} {w : World} {base : Nat} {spare : Nat → Bool} {held : Bool}
theorem quad_cells {e : TypeId} {f0 f1 f2 f3 : Field} {fuel : Nat} {v : List Value} {x : DataW H × List MemPlace} (he : P.underlying e = some (.struct #[f0, f1, f2, f3]))
    (o0 : f0.offset = 0) (o1 : f1.offset = 1) (o2 : f2.offset = 2) (o3 : f3.offset = 3) (c0 : P.cellsOf f0.type = 1) (c1 : P.cellsOf f1.type = 1) (c2 : P.cellsOf f2.type = 1) (c3 : P.cellsOf f3.type = 1) (hlen : v.length = 4)
    (h : DataW.trod enc P w base spare held fuel e v = some x) :
    ∃ (v0 v1 v2 v3 : Value) (n : Nat) (y0 y1 y2 y3 : DataW H × List MemPlace), v = [v0, v1, v2, v3] ∧ DataW.trod enc P w base spare held n f0.type [v0] = some y0 ∧ DataW.trod enc P w base spare held n f1.type [v1] = some y1 ∧ DataW.trod enc P w base spare held n f2.type [v2] = some y2 ∧ DataW.trod enc P w base spare held n f3.type [v3] = some y3 := by
  obtain ⟨xs, k, hk, hxy, _, hxl, hf⟩ := DataW.trod_struct he h
  match xs, hxl, v, hlen with
  | [y0, y1, y2, y3], _, [v0, v1, v2, v3], _ =>
    have g0 := hf 0 f0 rfl
    have g1 := hf 1 f1 rfl
    have g2 := hf 2 f2 rfl
    have g3 := hf 3 f3 rfl
    simp [o0, o1, o2, o3, c0, c1, c2, c3] at g0 g1 g2 g3
    exact ⟨v0, v1, v2, v3, k, y0, y1, y2, y3, rfl, g0, g1, g2, g3⟩
end
theorem cellsNod : Try.prog.cellsOf 60 = 4 := by kernel_rfl
/-- one constraint that is an argument -/
theorem nod_cells {H : Type} {enc : TypeId × Value → H} {W : World} {fuel : Nat} {v : List Value} {x : DataW H × List MemPlace} (hlen : v.length = 4)
    (h : DataW.trod enc Try.prog W 0 (fun _ => true) true fuel 60 v = some x) : ∃ U R V X : Int, v = [.int .i64 U, .int .i64 R, .int .i64 V, .int .i64 X] := by
  obtain ⟨v0, v1, v2, v3, n, y0, y1, y2, y3, rfl, g0, g1, g2, g3⟩ := quad_cells Try.underlying60 rfl rfl rfl rfl cellsInt cellsInt cellsInt cellsInt hlen h
  obtain ⟨x, ex, _, _⟩ := DataW.trod_int Try.underlying3 g0
  obtain ⟨y, ey, _, _⟩ := DataW.trod_int Try.underlying3 g1
  obtain ⟨z, ez, _, _⟩ := DataW.trod_int Try.underlying3 g2
  obtain ⟨u, eu, _, _⟩ := DataW.trod_int Try.underlying3 g3
  simp at ex ey ez eu
  subst ex; subst ey; subst ez; subst eu
  exact ⟨x, y, z, u, rfl⟩
theorem nodes_of_arg {H : Type} {enc : TypeId × Value → H} {W : World} {A : Option Addr} {len cap : Nat} {d : DataW H} {p : List MemPlace}
    (h : DataW.Trod enc Try.prog W 0 (fun _ => true) true 22 (.slice A len cap) d p) : ∃ l, NodR W W.heap.size A len l ∧ (len : Int) ≤ 9223372036854775807 := by
  obtain ⟨fuel, hf⟩ := h
  rcases Deep.open_slice Try.underlying22 hf with ⟨hcs, _⟩ | ⟨a, len', cap', m, n, D, Pl, hcs, _, hl, hm, hmm, _, hx⟩
  · simp [Value.cells] at hcs
    obtain ⟨rfl, rfl, rfl⟩ := hcs
    exact ⟨[], ⟨rfl, fun h => absurd h (by omega)⟩, by omega⟩
  · simp [Value.cells] at hcs
    obtain ⟨rfl, rfl, rfl⟩ := hcs
    have hmc : m = cap := by simpa using hmm
    subst hmc
    have each : ∀ i, i < m → ∃ q : Nd, W.cell? (a.add (i * 4)) = some (.int .i64 q.1) ∧ W.cell? (a.add (i * 4 + 1)) = some (.int .i64 q.2.1) ∧ W.cell? (a.add (i * 4 + 2)) = some (.int .i64 q.2.2.1) ∧ W.cell? (a.add (i * 4 + 3)) = some (.int .i64 q.2.2.2) := by
      intro i hi
      obtain ⟨cs', h1, h2⟩ := hx i hi
      rw [cellsNod] at h1
      obtain ⟨_, hlen, hcell⟩ := World.cells?_some h1
      obtain ⟨U, R, V, X, rfl⟩ := nod_cells hlen h2
      have e0 := hcell 0 (by omega)
      have e1 := hcell 1 (by omega)
      have e2 := hcell 2 (by omega)
      have e3 := hcell 3 (by omega)
      rw [Deep.add_add] at e0 e1 e2 e3
      exact ⟨(U, R, V, X), by simpa using e0, by simpa using e1, by simpa using e2, by simpa using e3⟩
    obtain ⟨q, hq⟩ := Deep.choose_lt each
    refine ⟨(List.range len).map q, ⟨by simp, fun h0 => ?_⟩, by unfold maxLen at hm; omega⟩
    obtain ⟨b, off, spot⟩ := a
    have hc0 := (hq 0 (by omega)).1
    have hspot : spot = none := by simpa [Addr.add] using World.cell?_spot hc0
    subst hspot
    have hadd : ∀ j, (⟨b, off, none⟩ : Addr).add j = ⟨b, off + j, none⟩ := by
      intro j
      unfold Addr.add
      by_cases h : j = 0
      · subst h; rfl
      · rw [if_neg h]
    refine ⟨b, off, rfl, ?_, fun k hk => ?_⟩
    · have := World.block_lt_of_cell? W _ hc0
      simpa [hadd] using this
    · obtain ⟨c0, c1, c2, c3⟩ := hq k (by omega)
      rw [hadd] at c0 c1 c2 c3
      have eg : ((List.range len).map q).getD k nd0 = q k := by
        simp [List.getD_eq_getElem?_getD, hk]
      rw [eg]
      exact ⟨c0, c1, c2, c3⟩
end Go.Proofs.Ytblgapcpkeapaaa
