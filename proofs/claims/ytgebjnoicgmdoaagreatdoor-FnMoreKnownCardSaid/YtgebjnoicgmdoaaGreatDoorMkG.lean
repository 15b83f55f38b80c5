/- picked of the program; indices that are left. -/
/- ConsThin of the reference model. -/
/- A row copied and one constraint appended to it, in a drawn region: what goes along; more constraints make no fewer levels comparable. -/
import Derived.Test.YtgebjnoicgmdoaaGreatDoorDel2
import Derived.Deep.RegionHeld3
import Derived.Test.YtgebjnoicgmdoaaGreatDoorConApp
import Derived.Test.YtgebjnoicgmdoaaGreatDoorRegInv2

namespace Go.Proofs.YtgebjnoicgmdoaaGreatDoor
open Go.RowKit
open Cs (Cn Tb)

/-- a row that is being counted up -/
def countL (n k : Nat) : List Int := (List.range n).map fun (i : Nat) => if i < k then (i : Int) else 0
theorem countL_len (n k : Nat) : (countL n k).length = n := by simp [countL]
theorem countL_all (n : Nat) : countL n n = natI (List.range n) := by
  unfold countL natI
  apply List.map_congr_left
  intro i hi
  rw [if_pos (List.mem_range.1 hi)]
theorem countL_set (n k : Nat) : (countL n k).set k (k : Int) = countL n (k + 1) := by
  apply List.ext_getElem (by simp [countL])
  intro i h1 h2
  rw [List.getElem_set]
  simp only [countL, List.getElem_map, List.getElem_range]
  by_cases e : k = i
  · subst e
    rw [if_pos rfl, if_pos (by omega)]
  · rw [if_neg e]
    by_cases c : i < k
    · rw [if_pos c, if_pos (by omega)]
    · rw [if_neg c, if_neg (by omega)]
theorem countL_made (n : Nat) : (madeCells #[Value.int .i64 0] n).toList = (countL n 0).map (Value.int .i64) := by
  apply List.ext_getElem?
  intro k
  by_cases hk : k < n
  · simp [madeCells, countL, hk, Nat.mod_one]
  · rw [List.getElem?_eq_none (by simp [madeCells]; omega), List.getElem?_eq_none (by simp [countL]; omega)]
theorem make_ints (n : Nat) (hn : n ≤ 1000) : ∀ wx, (Instr.makeSlice 29 (.int .i64 (n : Int)) (.int .i64 (n : Int))).run Tryz.prog wx = .ok (.slice (some ⟨wx.heap.size, 0, none⟩) n n) (wx.alloc (.cells (madeCells #[Value.int .i64 0] n) 3)) := by
  obtain ⟨i0, hi, hz0, hz1, hz2⟩ := info_parts info_int
  intro wx
  have hr := run_make (P := Tryz.prog) wx 29 3 i0 _ Tryz.underlying29 hi hz0 .i64 .i64 n n (by omega) (by omega) (by rw [hz2]; omega) (by omega)
  simp only [Int.toNat_natCast, hz1, Nat.mul_one] at hr
  exact hr
theorem natI_get (is : List Nat) {i : Nat} (hi : i < is.length) : (natI is).getD i 0 = ((is.getD i 0 : Nat) : Int) := by
  simp [natI, List.getD_eq_getElem?_getD, hi]
theorem kept_nodup (l : List Cn) (g : Nat → Bool) : (Cs.keptI l g).Nodup := List.nodup_range.filter _
/-- the place of an index that is left -/
theorem kept_place {l : List Cn} {g : Nat → Bool} {k : Nat} (hk : k < l.length) (hg : g k = false) :
    ∃ j, j < (Cs.keptI l g).length ∧ (natI (Cs.keptI l g)).getD j 0 = (k : Int) ∧ ∀ i, i < (Cs.keptI l g).length → i ≠ j → (natI (Cs.keptI l g)).getD i 0 ≠ (k : Int) := by
  have hm : k ∈ Cs.keptI l g := List.mem_filter.2 ⟨List.mem_range.2 hk, by simp [hg]⟩
  obtain ⟨j, hj, e⟩ := List.getElem_of_mem hm
  refine ⟨j, hj, ?_, fun i hi hne h => ?_⟩
  · rw [natI_get _ hj, List.getD_eq_getElem?_getD, List.getElem?_eq_getElem hj]
    show (((Cs.keptI l g)[j] : Nat) : Int) = k
    rw [e]
  · rw [natI_get _ hi, List.getD_eq_getElem?_getD, List.getElem?_eq_getElem hi] at h
    have h' : (Cs.keptI l g)[i] = k := by
      have : (((Cs.keptI l g)[i] : Nat) : Int) = k := h
      omega
    have hp := List.pairwise_iff_getElem.1 (kept_nodup l g)
    rcases Nat.lt_or_gt_of_ne hne with c | c
    · exact hp i j hi hj c (h'.trans e.symm)
    · exact hp j i hj hi c (e.trans h'.symm)
theorem natI_filter (is : List Nat) (k : Nat) : (natI is).filter (fun y => !decide (y = (k : Int))) = natI (is.filter fun i => !decide (i = k)) := by
  unfold natI
  rw [List.filter_map]
  congr 1
  apply List.filter_congr
  intro i _
  simp
  omega
theorem kept_erase {l : List Cn} {g : Nat → Bool} {k j : Nat} (hj : j < (Cs.keptI l g).length) (hx : (natI (Cs.keptI l g)).getD j 0 = (k : Int)) (hu : ∀ i, i < (Cs.keptI l g).length → i ≠ j → (natI (Cs.keptI l g)).getD i 0 ≠ (k : Int)) :
    (natI (Cs.keptI l g)).eraseIdx j = natI (Cs.keptI l (Cs.mark g k true)) := by
  rw [erase_filter _ j k (by rw [natI_len]; exact hj) hx (fun i hi hne => hu i (by rw [natI_len] at hi; exact hi) hne), natI_filter, Cs.kept_del]

set_option maxRecDepth 100000 in
set_option maxHeartbeats 1600000 in
theorem picked_any (w : World) (B : Nat) (A : Option Addr) (n c : Nat) (l : List Cn) (A1 : Option Addr) (m c1 : Nat) (is : List Nat) (hB : B ≤ w.heap.size) (hl : ConR w B A n l) (B1 : Nat) (hB1 : B1 ≤ w.heap.size) (hi1 : IntR w B1 A1 m (natI is)) (hlt : ∀ i ∈ is, i < n) (hm : m ≤ 1000) (hn : n ≤ 1000) :
    Calls Tryz.prog 69 #[.slice A n c, .slice A1 m c1] w fun e w' => ∃ g2 c2, e = .returned (.slice (some ⟨g2, 0, none⟩) m c2) ∧ OwnC w' w.heap.size (some ⟨g2, 0, none⟩) m c2 (Cs.pickC l is) ∧ Below w.heap.size w w' := by
  obtain ⟨i0, hi, hz0, hz1, hz2⟩ := info_parts info_con
  have hmk : ∀ wx, (Instr.makeSlice 24 (.int .i64 0) (.int .i64 (m : Int))).run Tryz.prog wx = .ok (.slice (some ⟨wx.heap.size, 0, none⟩) 0 m) (wx.alloc (.cells (madeCells (Value.agg #[.int .i64 0, .int .i64 0, .int .i64 0]).cells (m * 3)) 41)) := by
    intro wx
    have hr := run_make (P := Tryz.prog) wx 24 41 i0 _ Tryz.underlying24 hi hz0 .i64 .i64 0 m (by omega) (by omega) (by rw [hz2]; omega) (by omega)
    simp only [Int.toNat_natCast, hz1] at hr
    exact hr
  have hilen : is.length = m := by have := hi1.1; rw [natI_len] at this; exact this
  have HS0 : Hid (OwnC (w.alloc (.cells (madeCells (Value.agg #[.int .i64 0, .int .i64 0, .int .i64 0]).cells (m * 3)) 41)) w.heap.size (some ⟨w.heap.size, 0, none⟩) 0 m []) :=
    ⟨rfl, .inr ⟨w.heap.size, m, _, rfl, Nat.le_refl _, Blk.made w _ _, by omega, by unfold maxLen; omega, by simp [madeCells], by simp [conCells]⟩⟩
  have HB0 : Hid (Below w.heap.size w (w.alloc (.cells (madeCells (Value.agg #[.int .i64 0, .int .i64 0, .int .i64 0]).cells (m * 3)) 41))) := (Below.refl _ _).alloc (Nat.le_refl _) _
  have HL := Lib.hid hl
  have HI := Lib.hid hi1
  have HLT := Lib.hid hlt
  have HIL := Lib.hid hilen
  clear hl hi1 hlt hilen
  go_enter Tryz.func69, Tryz.ntmps69
  go_wp2
  go_loopw [5, 13] (fun v i wr => ∃ (k g2 c2 : Nat), k ≤ m ∧ i = .int .i64 k ∧ v = .slice (some ⟨g2, 0, none⟩) k c2 ∧ Hid (OwnC wr w.heap.size (some ⟨g2, 0, none⟩) k c2 (Cs.pickC l (is.take k))) ∧ Hid (Below w.heap.size w wr)) (fun _ i _ => m - (intOf i).toNat)
  case atStart => exact ⟨0, w.heap.size, m, by omega, rfl, rfl, HS0.out, HB0.out⟩
  case round =>
    clear HS0 HB0 hmk
    obtain ⟨k, g2, c2, hk, rfl, rfl, HO, HB⟩ := hrel
    have hszr := HB.out.size
    by_cases hkm : k < m
    · have hki : (k : Int) < (m : Int) := by omega
      have hkl : k < is.length := by rw [HIL.out]; exact hkm
      obtain ⟨b1, off1, hA1, hb1, hc1⟩ := HI.out.2 (by omega)
      have x0 := hc1 k hkm
      rw [natI_get is hkl] at x0
      have hin : is.getD k 0 < n := HLT.out _ (by rw [List.getD_eq_getElem?_getD, List.getElem?_eq_getElem hkl]; exact List.getElem_mem _)
      obtain ⟨q, hq⟩ : ∃ q, is.getD k 0 = q := ⟨_, rfl⟩
      rw [hq] at x0 hin
      have hqi : (q : Int) < (n : Int) := by omega
      obtain ⟨b, off, hA, hb, hc⟩ := HL.out.2 (by omega)
      obtain ⟨x1, x2, x3⟩ := hc q hin
      obtain ⟨t, ht⟩ : ∃ t, l.getD q (0, 0, 0) = t := ⟨_, rfl⟩
      rw [ht] at x1 x2 x3
      obtain ⟨U, R, V⟩ := t
      subst hA
      subst hA1
      have k0 := (HB.out.cell (p := ⟨b1, off1 + k, none⟩) (by show b1 < _; omega)).trans x0
      have k1 := (HB.out.cell (p := ⟨b, off + q * 3, none⟩) (by show b < _; omega)).trans x1
      have k2 := (HB.out.cell (p := ⟨b, off + q * 3 + 1, none⟩) (by show b < _; omega)).trans x2
      have k3 := (HB.out.cell (p := ⟨b, off + q * 3 + 2, none⟩) (by show b < _; omega)).trans x3
      have HT : Hid (Cs.pickC l (is.take (k + 1)) = Cs.pickC l (is.take k) ++ [(U, R, V)]) := by
        show _ = _
        rw [List.take_succ_eq_append_getElem hkl, pickC_snoc]
        have : is[k] = q := by rw [← hq, List.getD_eq_getElem?_getD, List.getElem?_eq_getElem hkl]; rfl
        rw [this, ht]
      have hown := HO.out
      clear hc hc1 ht hq x0 x1 x2 x3
      go_wp2_with (at_builtin; refine wpList_append_own _ rfl (.tmp 17) (.tmp 22) 24 rfl w.heap.size 41 i0 (.agg #[.int .i64 0, .int .i64 0, .int .i64 0]) 3 24 Tryz.underlying24 hi hz0 hz1 hz2 rfl (by decide) (.slice (some ⟨g2, 0, none⟩) k c2) k (conCells (Cs.pickC l (is.take k))) rfl (hown.alloc _) ⟨wr.heap.size, 0, none⟩ 1 1 (conCells [(U, R, V)]) rfl rfl (con_new wr U R V) (conCells_one _) (by unfold maxLen; omega) (by omega) (by simp; omega) ?_; intro v' w3 hown' hgrow hnil)
      obtain ⟨g3, c3, rfl⟩ : ∃ g' c', v' = .slice (some ⟨g', 0, none⟩) (k + 1) c' := by
        rcases hown'.2 with ⟨h0, _⟩ | ⟨g', c', _, h0, _⟩
        · have := (hnil.1 h0).1
          cases this
        · exact ⟨g', c', h0⟩
      have HB3 : Hid (Below w.heap.size w w3) := (HB.out.alloc hszr _).grown hgrow (by simp; omega) (fun x h => (hown.lt x h).1)
      have HO3 : Hid (OwnC w3 w.heap.size (some ⟨g3, 0, none⟩) (k + 1) c3 (Cs.pickC l (is.take (k + 1)))) := by
        show OwnC _ _ _ _ _ _
        rw [HT.out]
        unfold OwnC
        rw [conCells_append]
        exact hown'
      clear hown hown' hgrow hnil
      go_wp2
      go_roundw
      case rel => exact ⟨k + 1, g3, c3, by omega, by go_num, rfl, HO3.out, HB3.out⟩
      case measure => simp [intOf]; omega
    · obtain rfl : k = m := by omega
      have hkk : ¬ (k : Int) < (k : Int) := by omega
      rw [List.take_of_length_le (by rw [HIL.out]; exact Nat.le_refl _)] at HO
      go_wp2
      go_ret
      exact ⟨g2, c2, rfl, HO.out, HB.out⟩
end Go.Proofs.YtgebjnoicgmdoaaGreatDoor

namespace Go.Proofs.YtgebjnoicgmdoaaGreatDoor
open Go.RowKit
open Cs (Cn Tb)

/-- what a function gives back: a row of constraints and whether there is one -/
def ResC (w : World) (r : Option (List Cn)) (e : Ending) (w' : World) : Prop :=
  ∃ A c, e = .returned (.tuple #[.slice A (r.getD []).length c, .bool r.isSome]) ∧ OwnC w' w.heap.size A (r.getD []).length c (r.getD []) ∧ Below w.heap.size w w'
theorem resC_none {w w' : World} (hb : Below w.heap.size w w') : ResC w none (.returned (.tuple #[.slice none 0 0, .bool false])) w' := ⟨none, 0, rfl, World.ownsRow_nil _ _ _ _, hb⟩
/-- the answer of ConsThin -/
def thinO (l : List Cn) : Option (List Cn) := if satR l = true then some (Cs.skip l (Cs.thinTo l l.length)) else none
theorem thinO_no {l : List Cn} (h : satR l = false) : thinO l = none := if_neg (by rw [h]; decide)
theorem thinO_yes {l : List Cn} (h : satR l = true) : thinO l = some (Cs.skip l (Cs.thinTo l l.length)) := if_pos h
theorem satR_cons {l : List Cn} (h : satR l = true) : consOkR l = true := by unfold satR at h; rw [Bool.and_eq_true] at h; exact h.1
theorem impR_skip {l : List Cn} (h : satR l = true) (g : Nat → Bool) {k : Nat} (hk : k < l.length) : impR (Cs.skip l g) (l.getD k (0, 0, 0)) = Cs.imp (Cs.skip l g) (l.getD k (0, 0, 0)) := by
  have hp := satR_parts h
  have hs : satR (Cs.skip l g) = true := by rw [satR_skip (satR_cons h)]; exact Cs.skip_flat hp.1 hp.2.2 g
  have hc : Cs.cOk (l.getD k (0, 0, 0)) = true := hp.1 _ (by rw [List.getD_eq_getElem?_getD, List.getElem?_eq_getElem hk]; exact List.getElem_mem _)
  unfold impR
  rw [hs, hc, Bool.true_and, Bool.true_and]
theorem thin_next {l : List Cn} (h : satR l = true) {k : Nat} (hk : k < l.length) : Cs.mark (Cs.thinTo l k) k (impR (Cs.skip l (Cs.mark (Cs.thinTo l k) k true)) (l.getD k (0, 0, 0))) = Cs.thinTo l (k + 1) := by
  rw [impR_skip h _ hk]
  rfl
/-- the walk's memory -/
structure ThinW (w : World) (n gb : Nat) (g : Nat → Bool) (wr : World) : Prop where
  gone : Blk wr gb 4 (goneA g n)
  bel : Below w.heap.size w wr
theorem ThinW.set {w wr : World} {n gb : Nat} {g : Nat → Bool} (h : ThinW w n gb g wr) (hg : w.heap.size ≤ gb) (i : Nat) (b : Bool) : ThinW w n gb (Cs.mark g i b) (wr.setCell ⟨gb, i, none⟩ (.bool b)) := by
  have hw : Wrote gb wr (wr.setCell ⟨gb, i, none⟩ (.bool b)) := Wrote.set _ _
  refine ⟨?_, hw.below h.bel h.bel.size hg⟩
  have := Blk.put h.gone i (.bool b)
  rw [goneA_set] at this
  exact this
theorem ThinW.later {w wr w' : World} {n gb : Nat} {g : Nat → Bool} (h : ThinW w n gb g wr) (hb : Below wr.heap.size wr w') : ThinW w n gb g w' := ⟨Blk.below h.gone hb h.gone.lt, h.bel.trans (hb.mono h.bel.size)⟩

end Go.Proofs.YtgebjnoicgmdoaaGreatDoor

namespace Go.Proofs.YtgebjnoicgmdoaaGreatDoor
open Go.RowKit
open Cs (Cn)

/-- the row that is being made: empty, the copy, the block of the one, the copy with the one -/
structure MkG (a b c e r : Nat) (W : World) (l : List Cn) (m : Nat) (t : Cn) (d : Nat → Bool) (f : Nat → Value) (w : World) : Prop where
  bel : Below W.heap.size W w
  p0 : d 0 = true → d 2 = false → ∃ h, f a = .slice (some ⟨h, 0, none⟩) 0 0 ∧ OwnC w W.heap.size (some ⟨h, 0, none⟩) 0 0 []
  p2 : d 2 = true → d 5 = false → ∃ h k, f b = .slice (some ⟨h, 0, none⟩) m k ∧ OwnC w W.heap.size (some ⟨h, 0, none⟩) m k l
  p4 : d 4 = true → d 5 = false → ∃ h, f c = .slice (some ⟨h, 0, none⟩) 1 1 ∧ Blk w h 41 #[.int .i64 t.1, .int .i64 t.2.1, .int .i64 t.2.2] ∧ (d 0 = true → d 2 = false → ∃ q, f a = .slice (some ⟨q, 0, none⟩) 0 0 ∧ q ≠ h)
  p5 : d 5 = true → ∃ h k, f e = .slice (some ⟨h, 0, none⟩) (m + 1) k ∧ OwnC w W.heap.size (some ⟨h, 0, none⟩) (m + 1) k (l ++ [t])
  p6 : d 6 = true → f r = f e
section
variable {a b c e r m j : Nat} {W w w' : World} {l : List Cn} {t : Cn} {d : Nat → Bool} {f : Nat → Value} {o : Option Nat} {v : Value}
theorem MkG.same (h : MkG a b c e r W l m t d f w) (j0 : j ≠ 0) (j2 : j ≠ 2) (j4 : j ≠ 4) (j5 : j ≠ 5) (j6 : j ≠ 6) (oa : o ≠ some a) (ob : o ≠ some b) (oc : o ≠ some c) (oe : o ≠ some e) (or : o ≠ some r) : MkG a b c e r W l m t (mark d j) (upd f o v) w := by
  refine ⟨h.bel, fun e0 e2 => ?_, fun e2 e5 => ?_, fun e4 e5 => ?_, fun e5 => ?_, fun e6 => ?_⟩
  · rw [mark_eq j0] at e0; rw [mark_eq j2] at e2
    obtain ⟨q, h1, h2⟩ := h.p0 e0 e2
    exact ⟨q, (upd_other f v oa).trans h1, h2⟩
  · rw [mark_eq j2] at e2; rw [mark_eq j5] at e5
    obtain ⟨q, k, h1, h2⟩ := h.p2 e2 e5
    exact ⟨q, k, (upd_other f v ob).trans h1, h2⟩
  · rw [mark_eq j4] at e4; rw [mark_eq j5] at e5
    obtain ⟨q, h1, h2, h3⟩ := h.p4 e4 e5
    refine ⟨q, (upd_other f v oc).trans h1, h2, fun e0 e2 => ?_⟩
    rw [mark_eq j0] at e0; rw [mark_eq j2] at e2
    obtain ⟨x, y1, y2⟩ := h3 e0 e2
    exact ⟨x, (upd_other f v oa).trans y1, y2⟩
  · rw [mark_eq j5] at e5
    obtain ⟨q, k, h1, h2⟩ := h.p5 e5
    exact ⟨q, k, (upd_other f v oe).trans h1, h2⟩
  · rw [mark_eq j6] at e6
    rw [upd_other f v or, upd_other f v oe]
    exact h.p6 e6
theorem MkG.first (h : MkG a b c e r W l m t d f w) (d2 : d 2 = false) (d5 : d 5 = false) (d6 : d 6 = false) (hac : a ≠ c) : MkG a b c e r W l m t (mark d 0) (upd f (some a) (.slice (some ⟨w.heap.size, 0, none⟩) 0 0)) (w.alloc (.cells #[] 41)) := by
  refine ⟨h.bel.alloc h.bel.size _, fun _ _ => ⟨w.heap.size, upd_same _ _ _, World.ownsRow_made w #[] 0 h.bel.size (by simp [maxLen]) (by simp)⟩, fun e2 => ?_, fun e4 e5 => ?_, fun e5 => ?_, fun e6 => ?_⟩
  · rw [mark_eq (by decide), d2] at e2; cases e2
  · rw [mark_eq (by decide)] at e4; rw [mark_eq (by decide)] at e5
    obtain ⟨q, h1, h2, _⟩ := h.p4 e4 e5
    exact ⟨q, (upd_other f _ (by intro x; injection x with x; exact hac x)).trans h1, h2.alloc _, fun _ _ => ⟨w.heap.size, upd_same _ _ _, by have := h2.lt; omega⟩⟩
  · rw [mark_eq (by decide), d5] at e5; cases e5
  · rw [mark_eq (by decide), d6] at e6; cases e6
theorem MkG.one (h : MkG a b c e r W l m t d f w) (d5 : d 5 = false) (d6 : d 6 = false) (hac : a ≠ c) (hbc : b ≠ c) : MkG a b c e r W l m t (mark d 4) (upd f (some c) (.slice (some ⟨w.heap.size, 0, none⟩) 1 1)) (w.alloc (.cells #[.int .i64 t.1, .int .i64 t.2.1, .int .i64 t.2.2] 41)) := by
  have hb : Below w.heap.size w (w.alloc (.cells #[.int .i64 t.1, .int .i64 t.2.1, .int .i64 t.2.2] 41)) := (Below.refl _ _).alloc (Nat.le_refl _) _
  have na : (some c : Option Nat) ≠ some a := by intro x; injection x with x; exact hac x.symm
  have nb : (some c : Option Nat) ≠ some b := by intro x; injection x with x; exact hbc x.symm
  refine ⟨h.bel.alloc h.bel.size _, fun e0 e2 => ?_, fun e2 e5 => ?_, fun _ _ => ⟨w.heap.size, upd_same _ _ _, Blk.made _ _ _, fun e0 e2 => ?_⟩, fun e5 => ?_, fun e6 => ?_⟩
  · rw [mark_eq (by decide)] at e0; rw [mark_eq (by decide)] at e2
    obtain ⟨q, h1, h2⟩ := h.p0 e0 e2
    exact ⟨q, (upd_other f _ na).trans h1, own_below' h2 hb⟩
  · rw [mark_eq (by decide)] at e2; rw [mark_eq (by decide)] at e5
    obtain ⟨q, k, h1, h2⟩ := h.p2 e2 e5
    exact ⟨q, k, (upd_other f _ nb).trans h1, own_below' h2 hb⟩
  · rw [mark_eq (by decide)] at e0; rw [mark_eq (by decide)] at e2
    obtain ⟨q, h1, h2⟩ := h.p0 e0 e2
    exact ⟨q, (upd_other f _ na).trans h1, by have := (h2.lt q rfl).2; omega⟩
  · rw [mark_eq (by decide), d5] at e5; cases e5
  · rw [mark_eq (by decide), d6] at e6; cases e6
theorem MkG.copy {q k : Nat} {row : Option Nat} (h : MkG a b c e r W l m t d f w) (d0 : d 0 = true) (d2 : d 2 = false) (d5 : d 5 = false) (d6 : d 6 = false) (hbc : b ≠ c) (hg : w.grownBy w' row) (hrow : ∀ x, f a = .slice (some ⟨x, 0, none⟩) 0 0 → ∀ y, row = some y → y = x) (hb : Below W.heap.size W w') (ho : OwnC w' W.heap.size (some ⟨q, 0, none⟩) m k l) : MkG a b c e r W l m t (mark d 2) (upd f (some b) (.slice (some ⟨q, 0, none⟩) m k)) w' := by
  refine ⟨hb, fun _ e2 => ?_, fun _ _ => ⟨q, k, upd_same _ _ _, ho⟩, fun e4 e5 => ?_, fun e5 => ?_, fun e6 => ?_⟩
  · rw [mark_self] at e2; cases e2
  · rw [mark_eq (by decide)] at e4; rw [mark_eq (by decide)] at e5
    obtain ⟨x, h1, h2, h3⟩ := h.p4 e4 e5
    refine ⟨x, (upd_other f _ (by intro z; injection z with z; exact hbc z)).trans h1, ?_, fun _ e2 => ?_⟩
    · obtain ⟨y, y1, y2⟩ := h3 d0 d2
      exact (hg.block x h2.lt (fun z => y2 (hrow y y1 x z.symm).symm)).trans h2
    · rw [mark_self] at e2; cases e2
  · rw [mark_eq (by decide), d5] at e5; cases e5
  · rw [mark_eq (by decide), d6] at e6; cases e6
theorem MkG.both {q k : Nat} (d2 : d 2 = true) (d6 : d 6 = false) (hb : Below W.heap.size W w') (ho : OwnC w' W.heap.size (some ⟨q, 0, none⟩) (m + 1) k (l ++ [t])) : MkG a b c e r W l m t (mark d 5) (upd f (some e) (.slice (some ⟨q, 0, none⟩) (m + 1) k)) w' := by
  refine ⟨hb, fun _ e2 => ?_, fun _ e5 => ?_, fun _ e5 => ?_, fun _ => ⟨q, k, upd_same _ _ _, ho⟩, fun e6 => ?_⟩
  · rw [mark_eq (by decide), d2] at e2; cases e2
  · rw [mark_self] at e5; cases e5
  · rw [mark_self] at e5; cases e5
  · rw [mark_eq (by decide), d6] at e6; cases e6
theorem MkG.out (h : MkG a b c e r W l m t d f w) (d2 : d 2 = true) (d5 : d 5 = true) (her : e ≠ r) : MkG a b c e r W l m t (mark d 6) (upd f (some r) (f e)) w := by
  have ne : (some r : Option Nat) ≠ some e := by intro x; injection x with x; exact her x.symm
  refine ⟨h.bel, fun _ e2 => ?_, fun _ e5 => ?_, fun _ e5 => ?_, fun _ => ?_, fun _ => ?_⟩
  · rw [mark_eq (by decide), d2] at e2; cases e2
  · rw [mark_eq (by decide), d5] at e5; cases e5
  · rw [mark_eq (by decide), d5] at e5; cases e5
  · obtain ⟨q, k, h1, h2⟩ := h.p5 d5
    exact ⟨q, k, (upd_other f _ ne).trans h1, h2⟩
  · rw [upd_same, upd_other f _ ne]
end

/-- more constraints make no fewer levels comparable -/
theorem leUn_more {l : List Cn} {t : Cn} {a b : List (Int × Int)} (hm : consOkR (l ++ [t]) = true) (h : leUnR l a b = true) : leUnR (l ++ [t]) a b = true := by
  obtain ⟨_, ha, hb, hs⟩ := (leUn_iff l a b).1 h
  exact (leUn_iff _ a b).2 ⟨hm, ha, hb, fun env h5 hp hsat => hs env h5 hp (satAll_snoc.1 hsat).1⟩
theorem cons_init {l : List Cn} {t : Cn} (h : consOkR (l ++ [t]) = true) : consOkR l = true ∧ Cs.cOk t = true := by
  unfold consOkR at h ⊢
  rw [Bool.and_eq_true, List.all_append, Bool.and_eq_true] at h
  obtain ⟨⟨h1, h2⟩, h3⟩ := h
  refine ⟨?_, by simpa using h2⟩
  rw [Bool.and_eq_true]
  refine ⟨h1, ?_⟩
  simp at h3 ⊢
  omega
/-- an implied constraint changes nothing -/
theorem leUn_imp {l : List Cn} {t : Cn} {a b : List (Int × Int)} (hm : consOkR (l ++ [t]) = true) (hi : impR l t = true) : leUnR (l ++ [t]) a b = leUnR l a b := by
  obtain ⟨hl, hc⟩ := cons_init hm
  have hs : satR l = true := by
    unfold impR at hi
    rw [Bool.and_eq_true, Bool.and_eq_true] at hi
    exact hi.1.1
  have himp := (impR_iff hs hc).1 hi
  rw [Bool.eq_iff_iff]
  constructor
  · intro h
    obtain ⟨_, ha, hb, h1⟩ := (leUn_iff _ a b).1 h
    exact (leUn_iff l a b).2 ⟨hl, ha, hb, fun env h5 hp hsat => h1 env h5 hp (satAll_snoc.2 ⟨hsat, himp env h5 hp hsat⟩)⟩
  · exact leUn_more hm
theorem skip_len (l : List Cn) (g : Nat → Bool) : (Cs.skip l g).length ≤ l.length := by
  rw [Cs.skip_eq]
  simp [Cs.pickC]
  exact Nat.le_trans (List.length_filter_le _ _) (by simp)
/-- what is left of a list says what the list says -/
theorem leUn_thin {l : List Cn} {a b : List (Int × Int)} (hl : consOkR l = true) (hs : satR l = true) : leUnR (Cs.skip l (Cs.thinTo l l.length)) a b = leUnR l a b := by
  have hok := (consOkR_ok hl).1
  have hf := (sat_both hs).2
  have hk : consOkR (Cs.skip l (Cs.thinTo l l.length)) = true := by
    have h1 := Cs.skip_ok hok (Cs.thinTo l l.length)
    have h2 := skip_len l (Cs.thinTo l l.length)
    have h3 := (consOkR_ok hl).2
    unfold consOkR
    rw [Bool.and_eq_true, List.all_eq_true]
    exact ⟨fun c hc => h1 c hc, by simp; omega⟩
  rw [Bool.eq_iff_iff]
  constructor
  · intro h
    obtain ⟨_, ha, hb, h1⟩ := (leUn_iff _ a b).1 h
    refine (leUn_iff l a b).2 ⟨hl, ha, hb, fun env h5 hp hsat => h1 env h5 hp ⟨hsat.1, fun c hc => ?_⟩⟩
    obtain ⟨i, hi, _, rfl⟩ := Cs.mem_skip.1 hc
    exact hsat.2 _ (by rw [List.getD_eq_getElem?_getD, List.getElem?_eq_getElem hi, Option.getD_some]; exact List.getElem_mem hi)
  · intro h
    obtain ⟨_, ha, hb, h1⟩ := (leUn_iff l a b).1 h
    exact (leUn_iff _ a b).2 ⟨hk, ha, hb, fun env h5 hp hsat => h1 env h5 hp (Cs.thin_same hok hf _ (Nat.le_refl _) _ hsat)⟩
end Go.Proofs.YtgebjnoicgmdoaaGreatDoor
