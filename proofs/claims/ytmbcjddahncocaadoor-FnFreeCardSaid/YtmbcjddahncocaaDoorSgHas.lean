/- Constraints of the program: sideOk, ConOk, ConsOk. -/
/- Constraints of the program: satisfiable, ConsSat, pathsOf, ConsFar. -/
/- ConsLeast, of the program and of the reference model. -/
/- l05Skip of the reference model: the constraints that are not gone. -/
/- Signs as numbers: which parameters are positive, the sign of an env, the least env. -/
/- SignHas of the program and of the model. -/
import Derived.Test.YtmbcjddahncocaaDoorCoOk
import Derived.Test.YtmbcjddahncocaaDoorPtLong
import Derived.Test.YtmbcjddahncocaaDoorCoFar
import Derived.Test.YtmbcjddahncocaaDoorCsMath7
import Derived.Deep.AppendLies
import Derived.Test.YtmbcjddahncocaaDoorNMath3
import Derived.Test.YtmbcjddahncocaaDoorSlc

namespace Go.Proofs.YtmbcjddahncocaaDoor
open Go.RowKit
open Cs (Cn)

set_option maxHeartbeats 400000 in
theorem parOk_any (w : World) (p : Int) : Calls Tryd.prog 153 #[.int .i64 p] w fun e w' => e = .returned (.bool (decide (0 ≤ p) && decide (p < 5))) ∧ w' = w := by
  by_cases h1 : 0 ≤ p
  · have HF : Hid ((decide (0 ≤ p) && decide (p < 5)) = decide (p < 5)) := by show _ = _; simp [h1]
    have d1 : decide (0 ≤ p) = true := decide_eq_true h1
    go_enter Tryd.func153, Tryd.ntmps153
    go_wp2
    go_ret
    exact ⟨by rw [HF.out]; rfl, rfl⟩
  · have d1 : decide (0 ≤ p) = false := decide_eq_false h1
    go_enter Tryd.func153, Tryd.ntmps153
    go_wp2
    go_ret
    exact ⟨rfl, rfl⟩
set_option maxHeartbeats 400000 in
theorem sideOk_any (w : World) (p : Int) : Calls Tryd.prog 128 #[.int .i64 p] w fun e w' => e = .returned (.bool (nodeR p)) ∧ w' = w := by
  by_cases h1 : p = -1
  · subst h1
    go_enter Tryd.func128, Tryd.ntmps128
    go_wp2
    go_ret
    exact ⟨rfl, rfl⟩
  · have HF : Hid (nodeR p = (decide (0 ≤ p) && decide (p < 5))) := by
      show _ = _
      rw [Bool.eq_iff_iff]
      simp [nodeR]
      omega
    have d1 : (p == -1) = false := by simpa using h1
    go_enter Tryd.func128, Tryd.ntmps128
    go_wp2_with fail
    refine (parOk_any w p).mono ?_
    rintro e w1 ⟨rfl, rfl⟩
    rw [← HF.out]
    go_wp2
    go_ret
    exact ⟨rfl, rfl⟩

set_option maxRecDepth 100000 in
set_option maxHeartbeats 1600000 in
theorem implConOk_any (w : World) (U R V : Int) : Calls Tryd.prog 75 #[.agg #[.int .i64 U, .int .i64 R, .int .i64 V]] w fun e w' => e = .returned (.bool (Cs.cOk (U, R, V))) ∧ Below w.heap.size w w' := by
  have HB : Hid (Below w.heap.size w (w.alloc (.cells #[.int .i64 U, .int .i64 R, .int .i64 V] 39))) := (Below.refl _ _).alloc (Nat.le_refl _) _
  have HC := Lib.hid (cOk_parts U R V)
  cases h1 : nodeR U with
  | false =>
    have HF : Hid (Cs.cOk (U, R, V) = false) := by show _ = _; rw [HC.out, h1]; rfl
    have H1 := Lib.hid h1
    clear h1 HC
    go_enter Tryd.func75, Tryd.ntmps75
    go_wp2_with fail
    refine (sideOk_any _ U).mono ?_
    rintro e w1 ⟨rfl, rfl⟩
    rw [H1.out]
    go_wp2
    go_ret
    exact ⟨by rw [HF.out]; rfl, HB.out⟩
  | true =>
    have H1 := Lib.hid h1
    cases h2 : nodeR V with
    | false =>
      have HF : Hid (Cs.cOk (U, R, V) = false) := by show _ = _; rw [HC.out, h1, h2]; rfl
      have H2 := Lib.hid h2
      clear h1 h2 HC
      go_enter Tryd.func75, Tryd.ntmps75
      go_wp2_with fail
      refine (sideOk_any _ U).mono ?_
      rintro e w1 ⟨rfl, rfl⟩
      rw [H1.out]
      go_wp2_with fail
      refine (sideOk_any _ V).mono ?_
      rintro e w1 ⟨rfl, rfl⟩
      rw [H2.out]
      go_wp2
      go_ret
      exact ⟨by rw [HF.out]; rfl, HB.out⟩
    | true =>
      have H2 := Lib.hid h2
      have HF : Hid (Cs.cOk (U, R, V) = (decide (0 ≤ R) && decide (R ≤ 2))) := by show _ = _; rw [HC.out, h1, h2]; rfl
      clear h1 h2 HC
      by_cases h3 : 0 ≤ R
      · have HG : Hid (Cs.cOk (U, R, V) = decide (R ≤ 2)) := by show _ = _; rw [HF.out, decide_eq_true h3]; rfl
        have d3 : decide (0 ≤ R) = true := decide_eq_true h3
        go_enter Tryd.func75, Tryd.ntmps75
        go_wp2_with fail
        refine (sideOk_any _ U).mono ?_
        rintro e w1 ⟨rfl, rfl⟩
        rw [H1.out]
        go_wp2_with fail
        refine (sideOk_any _ V).mono ?_
        rintro e w1 ⟨rfl, rfl⟩
        rw [H2.out]
        go_wp2
        go_ret
        exact ⟨by rw [HG.out]; rfl, HB.out⟩
      · have HG : Hid (Cs.cOk (U, R, V) = false) := by show _ = _; rw [HF.out]; simp [h3]
        have d3 : decide (0 ≤ R) = false := decide_eq_false h3
        go_enter Tryd.func75, Tryd.ntmps75
        go_wp2_with fail
        refine (sideOk_any _ U).mono ?_
        rintro e w1 ⟨rfl, rfl⟩
        rw [H1.out]
        go_wp2_with fail
        refine (sideOk_any _ V).mono ?_
        rintro e w1 ⟨rfl, rfl⟩
        rw [H2.out]
        go_wp2
        go_ret
        exact ⟨by rw [HG.out]; rfl, HB.out⟩

theorem consOkR_long {l : List Cn} (h : ¬ l.length ≤ 24) : consOkR l = false := by
  cases e : consOkR l with
  | false => rfl
  | true => exact absurd (consOkR_ok e).2 h
theorem consOkR_bad {l : List Cn} {k : Nat} {t : Cn} (hk : k < l.length) (ht : l.getD k (0, 0, 0) = t) (h : Cs.cOk t = false) : consOkR l = false := by
  cases e : consOkR l with
  | false => rfl
  | true =>
    have := (consOkR_ok e).1 (l.getD k (0, 0, 0)) (by rw [List.getD_eq_getElem?_getD, List.getElem?_eq_getElem hk]; exact List.getElem_mem _)
    rw [ht, h] at this
    cases this
theorem consOkR_all {l : List Cn} (hl : l.length ≤ 24) (h : ∀ j, j < l.length → Cs.cOk (l.getD j (0, 0, 0)) = true) : consOkR l = true := by
  simp only [consOkR, Bool.and_eq_true, List.all_eq_true, decide_eq_true_eq]
  refine ⟨fun c hc => ?_, hl⟩
  obtain ⟨j, hj, rfl⟩ := List.getElem_of_mem hc
  have := h j hj
  rw [List.getD_eq_getElem?_getD, List.getElem?_eq_getElem hj] at this
  exact this
set_option maxRecDepth 100000 in
set_option maxHeartbeats 1600000 in
theorem implConsOk_any (w : World) (B : Nat) (A : Option Addr) (n c : Nat) (l : List Cn) (hB : B ≤ w.heap.size) (hl : ConR w B A n l) (hn : (n : Int) ≤ 140737488355328) :
    Calls Tryd.prog 79 #[.slice A n c] w fun e w' => e = .returned (.bool (consOkR l)) ∧ Below w.heap.size w w' := by
  by_cases h24 : n ≤ 24
  · have h24i : ¬ (24 : Int) < (n : Int) := by omega
    go_enter Tryd.func79, Tryd.ntmps79
    go_wp2
    go_loopw [10] (fun i wr => ∃ k : Nat, k ≤ n ∧ i = .int .i64 k ∧ Hid (∀ j, j < k → Cs.cOk (l.getD j (0, 0, 0)) = true) ∧ Hid (Below w.heap.size w wr)) (fun i _ => n - (intOf i).toNat)
    case atStart => exact ⟨0, Nat.zero_le _, rfl, (fun j hj => absurd hj (by omega)), Below.refl _ _⟩
    case round =>
      obtain ⟨k, hk, rfl, HA, HBR⟩ := hrel
      have hszr := HBR.out.size
      by_cases hlt : k < n
      · have hki : (k : Int) < (n : Int) := by omega
        obtain ⟨b, off, hA, hb, hc⟩ := hl.2 (by omega)
        obtain ⟨x1, x2, x3⟩ := hc k hlt
        have HL := Lib.hid hl.1
        obtain ⟨t, ht⟩ : ∃ t, l.getD k (0, 0, 0) = t := ⟨_, rfl⟩
        rw [ht] at x1 x2 x3
        obtain ⟨U, R, V⟩ := t
        have HT := Lib.hid ht
        subst hA
        have k1 := (HBR.out.cell (p := ⟨b, off + k * 3, none⟩) (by show b < _; omega)).trans x1
        have k2 := (HBR.out.cell (p := ⟨b, off + k * 3 + 1, none⟩) (by show b < _; omega)).trans x2
        have k3 := (HBR.out.cell (p := ⟨b, off + k * 3 + 2, none⟩) (by show b < _; omega)).trans x3
        obtain ⟨W1, hW1⟩ : ∃ W1, wr.alloc (.cells #[.int .i64 U, .int .i64 R, .int .i64 V] 39) = W1 := ⟨_, rfl⟩
        have hb1 : Below wr.heap.size wr W1 := by rw [← hW1]; exact (Below.refl _ _).alloc (Nat.le_refl _) _
        have hbx : Blk W1 wr.heap.size 39 #[.int .i64 U, .int .i64 R, .int .i64 V] := by rw [← hW1]; exact Blk.made _ _ _
        have y0 : W1.cell? ⟨wr.heap.size, 0, none⟩ = some (.int .i64 U) := hbx.cell 0
        have y1 : W1.cell? ⟨wr.heap.size, 1, none⟩ = some (.int .i64 R) := hbx.cell 1
        have y2 : W1.cell? ⟨wr.heap.size, 2, none⟩ = some (.int .i64 V) := hbx.cell 2
        have HB1 := Lib.hid (HBR.out.trans (hb1.mono hszr))
        clear hc ht x1 x2 x3 hl hbx hb1
        go_wp2_with fail
        refine (implConOk_any W1 U R V).mono ?_
        rintro e w2 ⟨rfl, hb2⟩
        have HB2 := Lib.hid (HB1.out.trans (hb2.mono HB1.out.size))
        clear hb2
        cases hok : Cs.cOk (U, R, V) with
        | true =>
          have HA2 : Hid (∀ j, j < k + 1 → Cs.cOk (l.getD j (0, 0, 0)) = true) := fun j hj => by
            by_cases e : j = k
            · subst e; rw [HT.out]; exact hok
            · exact HA.out j (by omega)
          clear hok
          go_wp2
          go_roundw
          case rel => exact ⟨k + 1, by omega, by go_num, HA2.out, HB2.out⟩
          case measure => simp [intOf]; omega
        | false =>
          have HF := Lib.hid (consOkR_bad (by rw [HL.out]; exact hlt) HT.out hok)
          clear hok
          go_wp2
          go_ret
          exact ⟨by rw [HF.out]; rfl, HB2.out⟩
      · obtain rfl : k = n := by omega
        have hkk : ¬ (k : Int) < (k : Int) := by omega
        have HF := Lib.hid (consOkR_all (l := l) (by rw [hl.1]; exact h24) (fun j hj => HA.out j (by rw [← hl.1]; exact hj)))
        clear hl
        go_wp2
        go_ret
        exact ⟨by rw [HF.out]; rfl, HBR.out⟩
  · have h24i : (24 : Int) < (n : Int) := by omega
    have HF := Lib.hid (consOkR_long (l := l) (by rw [hl.1]; exact h24))
    clear hl
    go_enter Tryd.func79, Tryd.ntmps79
    go_wp2
    go_ret
    exact ⟨by rw [HF.out]; rfl, Below.refl _ _⟩
end Go.Proofs.YtmbcjddahncocaaDoor

namespace Go.Proofs.YtmbcjddahncocaaDoor
open Go.RowKit
open Cs (Cn Tb)

set_option maxRecDepth 100000 in
set_option maxHeartbeats 1600000 in
theorem satisfiable_any (w : World) (B : Nat) (A : Option Addr) (n c : Nat) (l : List Cn) (hB : B ≤ w.heap.size) (hl : ConR w B A n l) (hok : Cs.ok l) (hn : n ≤ 1000) :
    Calls Tryd.prog 90 #[.slice A n c] w fun e w' => e = .returned (.bool (Cs.flat l)) ∧ Below w.heap.size w w' := by
  have hz := zeros_tab
  have HOK := Lib.hid hok
  have HL := Lib.hid hl
  clear hok hl
  go_enter Tryd.func90, Tryd.ntmps90
  go_wp2_with fail
  refine (longestPaths_any w B A n c l hB HL.out HOK.out hn).mono ?_
  rintro e w1 ⟨rfl, hb1⟩
  obtain ⟨T, hT⟩ : ∃ T, longT l = T := ⟨_, rfl⟩
  rw [hT]
  clear hT
  obtain ⟨W1, hW1⟩ : ∃ W, w1.alloc (.cells (tabA zeroT) 111) = W := ⟨_, rfl⟩
  have c1 : Blk W1 w1.heap.size 111 (tabA zeroT) := by rw [← hW1]; exact Blk.made _ _ _
  have HB1 : Hid (Below w.heap.size w (W1.setRow w1.heap.size (tabA T))) := by
    have q1 : Below w1.heap.size w1 W1 := by rw [← hW1]; exact (Below.refl _ _).alloc (Nat.le_refl _) _
    have := q1.size
    have := hb1.size
    exact (Wrote.row _ _ _).below (hb1.trans (q1.mono (by omega))) (by omega) (by omega)
  clear hb1
  go_wp2_with (refine wpList_store_row rfl 111 _ _ rfl w1.heap.size (tabA T) rfl rfl 111 (tabA zeroT) c1 (size_tab T) rfl (tabA_one T) ?_)
  go_ret
  exact ⟨rfl, HB1.out⟩

/-- the table that pathsOf gives back -/
def pathT (l : List Cn) : Tb := if satR l = true then Cs.tab l else zeroT
theorem pathT_yes {l : List Cn} (h : satR l = true) : pathT l = Cs.tab l := if_pos h
theorem pathT_long {l : List Cn} (h : consOkR l = true) : pathT l = longT l := by unfold pathT longT; rw [satR_ok h]
theorem pathT_no {l : List Cn} (h : consOkR l = false) : pathT l = zeroT := if_neg (by rw [satR_no h]; decide)
theorem build_tab (w : World) : (Instr.build 111 #[]).run Tryd.prog w = .ok (tabV zeroT) w := by kernel_rfl
set_option maxRecDepth 100000 in
set_option maxHeartbeats 1600000 in
theorem pathsOf_any (w : World) (B : Nat) (A : Option Addr) (n c : Nat) (l : List Cn) (hB : B ≤ w.heap.size) (hl : ConR w B A n l) (hn : (n : Int) ≤ 140737488355328) :
    Calls Tryd.prog 74 #[.slice A n c] w fun e w' => e = .returned (.tuple #[tabV (pathT l), .bool (satR l)]) ∧ Below w.heap.size w w' := by
  have hz := zeros_tab
  obtain ⟨W0, hW0⟩ : ∃ W, w.alloc (.cells (tabA zeroT) 111) = W := ⟨_, rfl⟩
  have hb0 : Below w.heap.size w W0 := by rw [← hW0]; exact (Below.refl _ _).alloc (Nat.le_refl _) _
  have hs0 : W0.heap.size = w.heap.size + 1 := by rw [← hW0]; simp
  have hk0 : Blk W0 w.heap.size 111 (tabA zeroT) := by rw [← hW0]; exact Blk.made _ _ _
  have HL := Lib.hid (hl.below (hb0.mono hB))
  have HB0 := Lib.hid hb0
  have HK0 := Lib.hid hk0
  clear hl hb0 hk0
  go_enter Tryd.func74, Tryd.ntmps74
  go_wp2_with fail
  refine (implConsOk_any W0 B A n c l (by omega) HL.out hn).mono ?_
  rintro e w1 ⟨rfl, hb1⟩
  have HB1 := Lib.hid (HB0.out.trans (hb1.mono (by omega)))
  have hs1 := hb1.size
  have HK1 := Lib.hid (Blk.below HK0.out hb1 (by omega))
  have HL1 := Lib.hid (HL.out.below (hb1.mono (by omega)))
  clear hb1 hW0
  cases hc : consOkR l with
  | false =>
    have HF := Lib.hid (satR_no hc)
    have HT := Lib.hid (pathT_no hc)
    clear hc
    have hbd := build_tab
    have c0 := HK1.out
    have HB6 : Hid (Below w.heap.size w (w1.setRow w.heap.size (tabA zeroT))) := (Wrote.row _ _ _).below HB1.out HB1.out.size (Nat.le_refl _)
    have HB7 : Hid (Blk (w1.setRow w.heap.size (tabA zeroT)) w.heap.size 111 (tabA zeroT)) := BlkT.lay c0 _
    go_wp2_with (refine wpList_store_row rfl 111 _ _ rfl w.heap.size (tabA zeroT) rfl rfl 111 (tabA zeroT) c0 (size_tab zeroT) rfl (tabA_one zeroT) ?_)
    refine bodyPost_ret (results_cell_tmp2 (p := 2) (q := 3) rfl _ _ w.heap.size 111 (tabA zeroT) (0, 0) _ rfl HB7.out Tryd.underlying111 rfl (size_tab _)) rfl ⟨?_, HB6.out⟩
    show Ending.returned (.tuple #[tabV zeroT, .bool false]) = _
    rw [HF.out, HT.out]
  | true =>
    have HF := Lib.hid (satR_ok hc)
    have HT := Lib.hid (pathT_long hc)
    have HP := Lib.hid (consOk_parts hc)
    clear hc
    go_wp2_with fail
    refine (longestPaths_any w1 B A n c l (by omega) HL1.out HP.out.1 (by rw [← HL1.out.1]; exact HP.out.2)).mono ?_
    rintro e w2 ⟨rfl, hb2⟩
    rw [← HT.out, ← HF.out]
    obtain ⟨T, hT⟩ : ∃ T, pathT l = T := ⟨_, rfl⟩
    have HT2 := Lib.hid hT
    rw [hT]
    have HB2 := Lib.hid (HB1.out.trans (hb2.mono (by omega)))
    have c0 := Blk.below HK1.out hb2 HK1.out.lt
    clear hb2 hT
    have HB6 : Hid (Below w.heap.size w (w2.setRow w.heap.size (tabA T))) := (Wrote.row _ _ _).below HB2.out HB2.out.size (Nat.le_refl _)
    have HB7 : Hid (Blk (w2.setRow w.heap.size (tabA T)) w.heap.size 111 (tabA T)) := BlkT.lay c0 _
    go_wp2_with (refine wpList_store_row rfl 111 _ _ rfl w.heap.size (tabA T) rfl rfl 111 (tabA zeroT) c0 (size_tab T) rfl (tabA_one T) ?_)
    refine bodyPost_ret (results_cell_tmp2 (p := 2) (q := 3) rfl _ _ w.heap.size 111 (tabA T) (0, 0) _ rfl HB7.out Tryd.underlying111 rfl (size_tab _)) rfl ⟨?_, HB6.out⟩
    show Ending.returned (.tuple #[tabV T, .bool (satR l)]) = _
    rw [HT2.out]

end Go.Proofs.YtmbcjddahncocaaDoor

namespace Go.Proofs.YtmbcjddahncocaaDoor
open Go.RowKit
open Cs (Cn Tb)

/-- what a function gives back: a row of numbers and whether there is one -/
def ResJ (w : World) (r : Option (List Int)) (e : Ending) (w' : World) : Prop :=
  ∃ A c, e = .returned (.tuple #[.slice A (r.getD []).length c, .bool r.isSome]) ∧ OwnI w' w.heap.size A (r.getD []).length c (r.getD []) ∧ Below w.heap.size w w'
theorem resJ_none {w w' : World} (hb : Below w.heap.size w w') : ResJ w none (.returned (.tuple #[.slice none 0 0, .bool false])) w' := ⟨none, 0, rfl, World.ownsRow_nil _ _ _ _, hb⟩
theorem resJ_some {w w' : World} {g cap n : Nat} {l : List Int} (hl : l.length = n) (ho : OwnI w' w.heap.size (some ⟨g, 0, none⟩) n cap l) (hb : Below w.heap.size w w') : ResJ w (some l) (.returned (.tuple #[.slice (some ⟨g, 0, none⟩) n cap, .bool true])) w' :=
  ⟨some ⟨g, 0, none⟩, cap, by simp [hl], by simpa [hl] using ho, hb⟩
/-- the least env of a table, and the row that is being filled -/
def leastL (T : Tb) : List Int := (List.range 5).map fun p => T 0 (p + 1)
end Go.Proofs.YtmbcjddahncocaaDoor

namespace Go.Proofs.YtmbcjddahncocaaDoor
open Go.RowKit
open Cs (Cn Tb)

/-- the cells of a row of bools -/
def goneA (g : Nat → Bool) (n : Nat) : Array Value := ((List.range n).map fun i => Value.bool (g i)).toArray
theorem goneA_size (g : Nat → Bool) (n : Nat) : (goneA g n).size = n := by simp [goneA]
theorem goneA_get (g : Nat → Bool) {n i : Nat} (hi : i < n) : (goneA g n)[i]? = some (.bool (g i)) := by simp [goneA, hi]
theorem goneA_set (g : Nat → Bool) (n i : Nat) (b : Bool) : (goneA g n).setIfInBounds i (.bool b) = goneA (Cs.mark g i b) n := by
  apply Array.ext_getElem?
  intro k
  by_cases hk : k < n
  · rw [Array.getElem?_setIfInBounds, goneA_get _ hk, goneA_get _ hk, goneA_size]
    unfold Cs.mark
    by_cases e : i = k
    · subst e
      rw [if_pos rfl, if_pos (by omega), if_pos rfl]
    · rw [if_neg e, if_neg (fun h => e h.symm)]
  · rw [Array.getElem?_eq_none (by rw [Array.size_setIfInBounds, goneA_size]; omega), Array.getElem?_eq_none (by rw [goneA_size]; omega)]
theorem con_new (w : World) (U R V : Int) : ∀ j u, (conCells [(U, R, V)])[j]? = some u → (w.alloc (.cells #[.int .i64 U, .int .i64 R, .int .i64 V] 39)).cell? ((⟨w.heap.size, 0, none⟩ : Addr).add j) = some u :=
  World.news_of_block (cs := #[.int .i64 U, .int .i64 R, .int .i64 V]) (t := 39) (fr := (0, 0)) (heap_alloc_new w _)
end Go.Proofs.YtmbcjddahncocaaDoor

namespace Go.Proofs.YtmbcjddahncocaaDoor

namespace Sg
/-- a sign, a parameter, and the parameter's bit is 1 -/
def has (s p : Int) : Bool := decide (0 ≤ s ∧ s ≤ 31 ∧ 0 ≤ p ∧ p < 5 ∧ s / 2 ^ p.toNat % 2 = 1)
/-- a sign -/
def isSign (s : Int) : Bool := decide (0 ≤ s ∧ s ≤ 31)
/-- a parameter -/
def isPar (p : Int) : Bool := decide (0 ≤ p ∧ p < 5)
/-- the bits of values, the first one the least -/
def bits : List Int → Int
  | [] => 0
  | v :: l => (if v > 0 then 1 else 0) + 2 * bits l
/-- the value of a parameter in the least env of a sign -/
def bit (s p : Int) : Int := if has s p then 1 else 0
/-- the least env of a sign -/
def least (s : Int) : List Int := [bit s 0, bit s 1, bit s 2, bit s 3, bit s 4]

theorem bits_nonneg (l : List Int) : 0 ≤ bits l := by
  induction l with
  | nil => simp [bits]
  | cons v l ih => unfold bits; split <;> omega
theorem bits_lt (l : List Int) : bits l < 2 ^ l.length := by
  induction l with
  | nil => simp [bits]
  | cons v l ih => unfold bits; rw [List.length_cons, Int.pow_succ]; split <;> omega
end Sg
end Go.Proofs.YtmbcjddahncocaaDoor

namespace Go.Proofs.YtmbcjddahncocaaDoor
open Go.RowKit

theorem signOk_any (w : World) (s : Int) :
    Calls Tryd.prog 92 #[.int .i64 s] w fun e w' => e = .returned (.bool (Sg.isSign s)) ∧ w' = w := by
  by_cases h1 : 0 ≤ s
  · by_cases h2 : s ≤ 31
    · go_enter Tryd.func92, Tryd.ntmps92
      go_wp2
      go_ret
      exact ⟨by simp [Sg.isSign, h1, h2], rfl⟩
    · go_enter Tryd.func92, Tryd.ntmps92
      go_wp2
      go_ret
      exact ⟨by simp [Sg.isSign, h1, h2], rfl⟩
  · go_enter Tryd.func92, Tryd.ntmps92
    go_wp2
    go_ret
    exact ⟨by simp [Sg.isSign]; omega, rfl⟩

theorem paramOk_any (w : World) (s : Int) :
    Calls Tryd.prog 153 #[.int .i64 s] w fun e w' => e = .returned (.bool (Sg.isPar s)) ∧ w' = w := by
  by_cases h1 : 0 ≤ s
  · by_cases h2 : s < 5
    · go_enter Tryd.func153, Tryd.ntmps153
      go_wp2
      go_ret
      exact ⟨by simp [Sg.isPar, h1, h2], rfl⟩
    · go_enter Tryd.func153, Tryd.ntmps153
      go_wp2
      go_ret
      exact ⟨by simp [Sg.isPar, h1, h2], rfl⟩
  · go_enter Tryd.func153, Tryd.ntmps153
    go_wp2
    go_ret
    exact ⟨by simp [Sg.isPar]; omega, rfl⟩

theorem and_one (x : Int) (h : 0 ≤ x) (hx : x ≤ 31) : Go.bits BinOp.and IntKind.i64 x 1 = x % 2 := by
  have : ∀ k : Fin 32, Go.bits BinOp.and IntKind.i64 ((k : Nat) : Int) 1 = ((k : Nat) : Int) % 2 := by decide +kernel
  have := this ⟨x.toNat, by omega⟩
  rwa [show ((x.toNat : Nat) : Int) = x by omega] at this

theorem implSignHas_any (w : World) (s p : Int) :
    Calls Tryd.prog 133 #[.int .i64 s, .int .i64 p] w fun e w' => e = .returned (.bool (Sg.has s p)) ∧ w' = w := by
  cases h1 : Sg.isSign s with
  | false =>
    have HF : Hid (Sg.has s p = false) := by unfold Hid Sg.has; simp [Sg.isSign] at h1; simp; omega
    go_enter Tryd.func133, Tryd.ntmps133
    go_wp2_with fail
    refine (signOk_any w s).mono ?_
    rintro e w' ⟨rfl, rfl⟩
    rw [h1]
    go_wp2
    go_ret
    exact ⟨by rw [HF.out]; rfl, rfl⟩
  | true =>
    cases h2 : Sg.isPar p with
    | false =>
      have HF : Hid (Sg.has s p = false) := by unfold Hid Sg.has; simp [Sg.isPar] at h2; simp; omega
      go_enter Tryd.func133, Tryd.ntmps133
      go_wp2_with fail
      refine (signOk_any w s).mono ?_
      rintro e w' ⟨rfl, rfl⟩
      rw [h1]
      go_wp2_with fail
      refine (paramOk_any _ p).mono ?_
      rintro e w' ⟨rfl, rfl⟩
      rw [h2]
      go_wp2
      go_ret
      exact ⟨by rw [HF.out]; rfl, rfl⟩
    | true =>
      have hs : 0 ≤ s ∧ s ≤ 31 := by simpa [Sg.isSign] using h1
      have hp : 0 ≤ p ∧ p < 5 := by simpa [Sg.isPar] using h2
      go_enter Tryd.func133, Tryd.ntmps133
      go_wp2_with fail
      refine (signOk_any w s).mono ?_
      rintro e w' ⟨rfl, rfl⟩
      rw [h1]
      go_wp2_with fail
      refine (paramOk_any _ p).mono ?_
      rintro e w' ⟨rfl, rfl⟩
      rw [h2]
      go_wp2
      go_ret
      refine ⟨?_, rfl⟩
      have b1 : 0 ≤ s / 2 ^ p.toNat := Int.ediv_nonneg hs.1 (Int.pow_nonneg (by decide))
      have b2 : s / 2 ^ p.toNat ≤ s := Int.ediv_le_self _ hs.1
      show Ending.returned (.bool (Go.bits BinOp.and IntKind.i64 (s / 2 ^ p.toNat) 1 == 1)) = _
      rw [and_one _ b1 (by omega)]
      unfold Sg.has
      simp [hs, hp]
      rfl

theorem quo_two (x : Int) (h : 0 ≤ x) (k : Nat) : (x / 2 ^ k).tdiv 2 = x / 2 ^ (k + 1) := by
  rw [Int.tdiv_eq_ediv_of_nonneg (Int.ediv_nonneg h (Int.pow_nonneg (by decide))), Int.pow_succ, Int.ediv_ediv_of_nonneg (Int.pow_nonneg (by decide))]

theorem specSignHas_any (w : World) (s p : Int) :
    Calls Tryd.prog 121 #[.int .i64 s, .int .i64 p] w fun e w' => e = .returned (.bool (Sg.has s p)) ∧ w' = w := by
  by_cases h : 0 ≤ s ∧ s ≤ 31 ∧ 0 ≤ p ∧ p < 5
  · obtain ⟨h1, h2, h3, h4⟩ := h
    go_enter Tryd.func121, Tryd.ntmps121
    go_wp2
    go_loopw [0, 1] (fun x i wr => ∃ k : Nat, (k : Int) ≤ p ∧ i = .int .i64 (p - k) ∧ x = .int .i64 (s / 2 ^ k) ∧ wr = w) (fun _ i _ => (intOf i).toNat)
    case atStart => exact ⟨0, by omega, by simp, by simp, rfl⟩
    case round =>
      obtain ⟨k, hk, rfl, rfl, rfl⟩ := hrel
      have b1 : 0 ≤ s / 2 ^ k := Int.ediv_nonneg h1 (Int.pow_nonneg (by decide))
      have b2 : s / 2 ^ k ≤ s := Int.ediv_le_self _ h1
      have hq := quo_two s h1 k
      have b3 : 0 ≤ s / 2 ^ (k + 1) := Int.ediv_nonneg h1 (Int.pow_nonneg (by decide))
      have b4 : s / 2 ^ (k + 1) ≤ 31 := Int.le_trans (Int.ediv_le_self _ h1) h2
      by_cases hlt : (k : Int) < p
      · have d : 0 < p - k := by omega
        go_wp2
        go_roundw
        case rel => exact ⟨k + 1, by omega, by go_num, rfl, trivial⟩
        case measure => simp [intOf]; omega
      · obtain rfl : p = k := by omega
        have d : (k : Int) - k = 0 := by omega
        rw [d]
        go_wp2
        go_ret
        refine ⟨?_, rfl⟩
        show Ending.returned (.bool (s / 2 ^ k % 2 == 1)) = _
        unfold Sg.has
        rw [Int.toNat_natCast]
        simp [h1, h2, h4]
        rfl
  · have HF : Hid (Sg.has s p = false) := by unfold Hid Sg.has; simp; omega
    have hh : s < 0 ∨ 0 ≤ s ∧ 31 < s ∨ 0 ≤ s ∧ s ≤ 31 ∧ p < 0 ∨ 0 ≤ s ∧ s ≤ 31 ∧ 0 ≤ p ∧ 5 ≤ p := by omega
    clear h
    rcases hh with h1 | ⟨h1, h2⟩ | ⟨h1, h2, h3⟩ | ⟨h1, h2, h3, h4⟩
    all_goals
      go_enter Tryd.func121, Tryd.ntmps121
      go_wp2
      go_ret
      exact ⟨by rw [HF.out]; rfl, rfl⟩
end Go.Proofs.YtmbcjddahncocaaDoor
