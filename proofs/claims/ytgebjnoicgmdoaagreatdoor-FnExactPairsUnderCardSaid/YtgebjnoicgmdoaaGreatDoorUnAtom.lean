/- ConsLeast, of the program and of the reference model. -/
/- l05Skip of the reference model: the constraints that are not gone. -/
/- A list of constraints with those of a sign: signedList of the program, l05Signed of the reference model. -/
/- ConsLeast of the reference model. -/
/- A list with a sign: signedPaths of the program, SignEnv of both sides. -/
/- An atom and a list of atoms under a table of longest ways: atomLe of the program, AtomUnder of the program. -/
import Derived.Test.YtgebjnoicgmdoaaGreatDoorPtSat
import Derived.Test.YtgebjnoicgmdoaaGreatDoorPtExt
import Derived.Deep.AppendLies
import Derived.Test.YtgebjnoicgmdoaaGreatDoorMeth
import Derived.Lib.SliceRun
import Derived.Test.YtgebjnoicgmdoaaGreatDoorCoTab
import Derived.Test.YtgebjnoicgmdoaaGreatDoorSlc
import Derived.Test.YtgebjnoicgmdoaaGreatDoorDcMath

namespace Go.Proofs.YtgebjnoicgmdoaaGreatDoor
open Go.RowKit
open Cs (Cn Tb)

theorem own_spot {w : World} {base g n c size : Nat} {e : TypeId} {xs : List Value} (h : w.ownsRow base e size (.slice (some ⟨g, 0, none⟩) n c) n xs) {i : Nat} {u : Value} (hu : xs[i]? = some u) : w.cell? ⟨g, i, none⟩ = some u ∧ w.frozen? ⟨g, i, none⟩ = false := by
  have h1 := h.cells (g := g) rfl i u hu
  rw [own_adds] at h1
  refine ⟨h1, ?_⟩
  rcases h.2 with ⟨h0, _⟩ | ⟨g', cap, cur, hv, hb, hgg, _⟩
  · cases h0
  · injection hv with e1
    injection e1 with e1
    injection e1 with e1
    rw [e1]
    exact Blk.thawed (w := w) hgg i
theorem own_whole {w : World} {base g n : Nat} {e : TypeId} {cs : Array Value} {xs : List Value} (h : Blk w g e cs) (hb : base ≤ g) (hn : n ≤ 3000000) (hx : cs.toList = xs) (hs : xs.length = n * 1 := by rfl) : w.ownsRow base e 1 (.slice (some ⟨g, 0, none⟩) n n) n xs := by
  have hsz : cs.size = n * 1 := by rw [← hs, ← hx]; simp
  exact ⟨hs, .inr ⟨g, n, cs, rfl, hb, h, Nat.le_refl _, by unfold maxLen; omega, hsz, by rw [← hsz, List.take_of_length_le (by simp)]; exact hx⟩⟩
/-- what a function gives back: a row of numbers and whether there is one -/
def ResJ (w : World) (r : Option (List Int)) (e : Ending) (w' : World) : Prop :=
  ∃ A c, e = .returned (.tuple #[.slice A (r.getD []).length c, .bool r.isSome]) ∧ OwnI w' w.heap.size A (r.getD []).length c (r.getD []) ∧ Below w.heap.size w w'
theorem resJ_none {w w' : World} (hb : Below w.heap.size w w') : ResJ w none (.returned (.tuple #[.slice none 0 0, .bool false])) w' := ⟨none, 0, rfl, World.ownsRow_nil _ _ _ _, hb⟩
theorem resJ_some {w w' : World} {g cap n : Nat} {l : List Int} (hl : l.length = n) (ho : OwnI w' w.heap.size (some ⟨g, 0, none⟩) n cap l) (hb : Below w.heap.size w w') : ResJ w (some l) (.returned (.tuple #[.slice (some ⟨g, 0, none⟩) n cap, .bool true])) w' :=
  ⟨some ⟨g, 0, none⟩, cap, by simp [hl], by simpa [hl] using ho, hb⟩
/-- the answer of ConsLeast -/
def leastO (l : List Cn) : Option (List Int) := if satR l = true then some (Cs.leastEnv l) else none
theorem leastO_no {l : List Cn} (h : satR l = false) : leastO l = none := if_neg (by rw [h]; decide)
theorem leastO_yes {l : List Cn} (h : satR l = true) : leastO l = some (Cs.leastEnv l) := if_pos h
/-- the least env of a table, and the row that is being filled -/
def leastL (T : Tb) : List Int := (List.range 5).map fun p => T 0 (p + 1)
def fillE (T : Tb) (k : Nat) : List Int := (List.range 5).map fun p => if p < k then T 0 (p + 1) else 0
theorem fillE_zero (T : Tb) : fillE T 0 = [0, 0, 0, 0, 0] := rfl
theorem fillE_all (T : Tb) : fillE T 5 = leastL T := by
  unfold fillE leastL
  apply List.map_congr_left
  intro p hp
  rw [if_pos (List.mem_range.1 hp)]
theorem fillE_len (T : Tb) (k : Nat) : (fillE T k).length = 5 := by simp [fillE]
theorem fillE_set (T : Tb) {k : Nat} (_ : k < 5) : (fillE T k).set k (T 0 (k + 1)) = fillE T (k + 1) := by
  apply List.ext_getElem (by simp [fillE])
  intro i h1 h2
  rw [List.getElem_set]
  simp only [fillE, List.getElem_map, List.getElem_range]
  by_cases e : k = i
  · subst e
    rw [if_pos rfl, if_pos (by omega)]
  · rw [if_neg e]
    by_cases c : i < k
    · rw [if_pos c, if_pos (by omega)]
    · rw [if_neg c, if_neg (by omega)]

set_option maxRecDepth 100000 in
set_option maxHeartbeats 1600000 in
theorem least_any (w : World) (T : Tb) :
    Calls Tryz.prog 66 #[tabV T] w fun e w' => ∃ g, e = .returned (.slice (some ⟨g, 0, none⟩) 5 5) ∧ OwnI w' w.heap.size (some ⟨g, 0, none⟩) 5 5 (leastL T) ∧ Below w.heap.size w w' := by
  obtain ⟨i0, hi, hz0, hz1, hz2⟩ := info_parts info_int
  have hmk : ∀ wx, (Instr.makeSlice 29 (.int .i64 5) (.int .i64 5)).run Tryz.prog wx = .ok (.slice (some ⟨wx.heap.size, 0, none⟩) 5 5) (wx.alloc (.cells (madeCells #[Value.int .i64 0] 5) 3)) := by
    intro wx
    have hr := run_make (P := Tryz.prog) wx 29 3 i0 _ Tryz.underlying29 hi hz0 .i64 .i64 5 5 (by omega) (by omega) (by rw [hz2]; omega) (by omega)
    simp only [hz1] at hr
    exact hr
  obtain ⟨W0, hW0⟩ : ∃ W, w.alloc (.cells (tabA T) 85) = W := ⟨_, rfl⟩
  have hb0 : Below w.heap.size w W0 := by rw [← hW0]; exact (Below.refl _ _).alloc (Nat.le_refl _) _
  have hs0 : W0.heap.size = w.heap.size + 1 := by rw [← hW0]; simp
  have c0 : Blk W0 w.heap.size 85 (tabA T) := by rw [← hW0]; exact Blk.made _ _ _
  obtain ⟨W1, hW1⟩ : ∃ W, W0.alloc (.cells (madeCells #[Value.int .i64 0] 5) 3) = W := ⟨_, rfl⟩
  have HO1 : Hid (OwnI W1 w.heap.size (some ⟨w.heap.size + 1, 0, none⟩) 5 5 (fillE T 0)) := by
    show OwnI _ _ _ _ _ _
    have hb : Blk W1 (w.heap.size + 1) 3 (madeCells #[Value.int .i64 0] 5) := by rw [← hW1, ← hs0]; exact Blk.made _ _ _
    exact own_whole hb (by omega) (by omega) (by rw [fillE_zero]; kernel_rfl)
  have HB1 : Hid (Below w.heap.size w W1) := by show Below _ _ _; rw [← hW1]; exact hb0.alloc (by omega) _
  have HC1 : Hid (Blk W1 w.heap.size 85 (tabA T)) := by show Blk _ _ _ _; rw [← hW1]; exact Blk.below c0 ((Below.refl _ _).alloc (Nat.le_refl _) _) (by omega)
  clear hb0 c0 hi hz0 hz1 hz2
  go_enter Tryz.func66, Tryz.ntmps66
  go_wp2
  clear hmk hW0 hW1 hs0
  go_loopw [8] (fun i wr => ∃ k : Nat, k ≤ 5 ∧ i = .int .i64 k ∧ Hid (OwnI wr w.heap.size (some ⟨w.heap.size + 1, 0, none⟩) 5 5 (fillE T k)) ∧ Hid (Blk wr w.heap.size 85 (tabA T)) ∧ Hid (Below w.heap.size w wr)) (fun i _ => 5 - (intOf i).toNat)
  case atStart => exact ⟨0, by omega, rfl, HO1.out, HC1.out, HB1.out⟩
  case round =>
    clear HO1 HC1 HB1
    obtain ⟨k, hk, rfl, HO, HC, HB⟩ := hrel
    by_cases hlt : k < 5
    · have hki : (k : Int) < 5 := by omega
      have c1 := HC.out
      go_wp2_with (refine wpList_load_row rfl 85 _ rfl w.heap.size rfl 85 (tabA T) (0, 0) _ c1 Tryz.underlying85 rfl (size_tab T) ?_)
      refine (far_any wr T (-1) k 0 (k + 1) (by omega) (by omega) (by omega) (by omega)).mono ?_
      rintro e w1 ⟨rfl, hb1⟩
      have ho1 := own_below' HO.out hb1
      have hlen : k < (fillE T k).length := by rw [fillE_len]; exact hlt
      obtain ⟨q1, q2⟩ := own_spot ho1 (i := k) (u := .int .i64 ((fillE T k)[k])) (by simp)
      have HO2 : Hid (OwnI (w1.setCell ⟨w.heap.size + 1, k, none⟩ (.int .i64 (T 0 (k + 1)))) w.heap.size (some ⟨w.heap.size + 1, 0, none⟩) 5 5 (fillE T (k + 1))) := by
        have := own_set ho1 k (.int .i64 (T 0 (k + 1)))
        rw [← List.map_set, fillE_set T hlt] at this
        exact this
      have HC2 : Hid (Blk (w1.setCell ⟨w.heap.size + 1, k, none⟩ (.int .i64 (T 0 (k + 1)))) w.heap.size 85 (tabA T)) := (Wrote.set (g := w.heap.size + 1) _ _).blk (Blk.below HC.out hb1 HC.out.lt) (by omega)
      have HB2 : Hid (Below w.heap.size w (w1.setCell ⟨w.heap.size + 1, k, none⟩ (.int .i64 (T 0 (k + 1))))) := (HB.out.trans (hb1.mono HB.out.size)).setCell (p := ⟨w.heap.size + 1, k, none⟩) (by show _ ≤ w.heap.size + 1; omega) _
      generalize (fillE T k)[k] = z at q1
      clear hb1 ho1 c1
      go_wp2
      go_roundw
      case rel => exact ⟨k + 1, by omega, by go_num, HO2.out, HC2.out, HB2.out⟩
      case measure => simp [intOf]; omega
    · obtain rfl : k = 5 := by omega
      rw [fillE_all] at HO
      go_wp2
      go_ret
      exact ⟨w.heap.size + 1, rfl, HO.out, HB.out⟩

set_option maxRecDepth 100000 in
set_option maxHeartbeats 1600000 in
theorem implConsLeast_any (w : World) (B : Nat) (A : Option Addr) (n c : Nat) (l : List Cn) (hB : B ≤ w.heap.size) (hl : ConR w B A n l) (hn : (n : Int) ≤ 140737488355328) :
    Calls Tryz.prog 21 #[.slice A n c] w (ResJ w (leastO l)) := by
  have hz := zeros_tab
  have HL := Lib.hid hl
  clear hl
  go_enter Tryz.func21, Tryz.ntmps21
  go_wp2_with fail
  refine (pathsOf_any w B A n c l hB HL.out hn).mono ?_
  rintro e w1 ⟨rfl, hb1⟩
  obtain ⟨T, hT⟩ : ∃ T, pathT l = T := ⟨_, rfl⟩
  rw [hT]
  have HT := Lib.hid hT
  clear hT
  obtain ⟨W1, hW1⟩ : ∃ W, w1.alloc (.cells (tabA zeroT) 85) = W := ⟨_, rfl⟩
  have c1 : Blk W1 w1.heap.size 85 (tabA zeroT) := by rw [← hW1]; exact Blk.made _ _ _
  obtain ⟨S, hS⟩ : ∃ S, w1.heap.size = S := ⟨_, rfl⟩
  rw [hS] at c1
  obtain ⟨W2, hW2⟩ : ∃ W, W1.setRow S (tabA T) = W := ⟨_, rfl⟩
  have c2 : Blk W2 S 85 (tabA T) := by rw [← hW2]; exact BlkT.lay c1 T
  have HB2 : Hid (Below w.heap.size w W2) := by
    show Below _ _ _
    have q1 : Below w1.heap.size w1 W1 := by rw [← hW1]; exact (Below.refl _ _).alloc (Nat.le_refl _) _
    have := q1.size
    have := hb1.size
    rw [← hW2]
    exact (Wrote.row _ _ _).below (hb1.trans (q1.mono (by omega))) (by omega) (by omega)
  clear hb1
  cases h1 : satR l with
  | false =>
    have HF := Lib.hid (leastO_no h1)
    clear h1
    go_wp2_with (refine wpList_store_row rfl 85 _ _ rfl S (tabA T) rfl rfl 85 (tabA zeroT) c1 (size_tab T) rfl (tabA_one T) ?_)
    go_ret2
    rw [HF.out]
    exact resJ_none HB2.out
  | true =>
    have HF := Lib.hid (leastO_yes h1)
    have HE : Hid (leastL T = Cs.leastEnv l) := by show _ = _; rw [← HT.out, pathT_yes h1]; rfl
    clear h1
    go_wp2_with (first
      | (refine wpList_store_row rfl 85 _ _ rfl S (tabA T) rfl rfl 85 (tabA zeroT) c1 (size_tab T) rfl (tabA_one T) ?_)
      | (refine wpList_load_row rfl 85 _ rfl S rfl 85 (tabA T) (0, 0) _ c2 Tryz.underlying85 rfl (size_tab T) ?_))
    refine (least_any W2 T).mono ?_
    rintro e w3 ⟨g, rfl, ho3, hb3⟩
    have HB3 := Lib.hid (HB2.out.trans (hb3.mono HB2.out.size))
    have HO3 := Lib.hid (own_base ho3 HB2.out.size)
    clear ho3 hb3
    go_wp2
    go_ret2
    rw [HF.out]
    rw [HE.out] at HO3
    exact resJ_some (Cs.leastEnv_len l) HO3.out HB3.out
end Go.Proofs.YtgebjnoicgmdoaaGreatDoor

namespace Go.Proofs.YtgebjnoicgmdoaaGreatDoor
open Go.RowKit
open Cs (Cn Tb)

/-- the cells of a row of bools -/
def goneA (g : Nat → Bool) (n : Nat) : Array Value := ((List.range n).map fun i => Value.bool (g i)).toArray
theorem goneA_size (g : Nat → Bool) (n : Nat) : (goneA g n).size = n := by simp [goneA]
theorem goneA_get (g : Nat → Bool) {n i : Nat} (hi : i < n) : (goneA g n)[i]? = some (.bool (g i)) := by simp [goneA, hi]
theorem goneA_set (g : Nat → Bool) (n i : Nat) (b : Bool) : (goneA g n).setIfInBounds i (.bool b) = goneA (Cs.mark g i b) n := by
  apply Array.ext_getElem?
  intro k
  by_cases hk : k < n
  · rw [Array.getElem?_setIfInBounds, goneA_get _ hk, goneA_get _ hk, goneA_size]
    unfold Cs.mark
    by_cases e : i = k
    · subst e
      rw [if_pos rfl, if_pos (by omega), if_pos rfl]
    · rw [if_neg e, if_neg (fun h => e h.symm)]
  · rw [Array.getElem?_eq_none (by rw [Array.size_setIfInBounds, goneA_size]; omega), Array.getElem?_eq_none (by rw [goneA_size]; omega)]
theorem con_new (w : World) (U R V : Int) : ∀ j u, (conCells [(U, R, V)])[j]? = some u → (w.alloc (.cells #[.int .i64 U, .int .i64 R, .int .i64 V] 41)).cell? ((⟨w.heap.size, 0, none⟩ : Addr).add j) = some u :=
  World.news_of_block (cs := #[.int .i64 U, .int .i64 R, .int .i64 V]) (t := 41) (fr := (0, 0)) (heap_alloc_new w _)
end Go.Proofs.YtgebjnoicgmdoaaGreatDoor

namespace Go.Proofs.YtgebjnoicgmdoaaGreatDoor
open Go.RowKit
open Cs (Cn Tb)

theorem con_news {w : World} {B n b off : Nat} {l : List Cn} (h : ConR w B (some ⟨b, off, none⟩) n l) : ∀ j u, (conCells l)[j]? = some u → w.cell? ((⟨b, off, none⟩ : Addr).add j) = some u := fun j u hu => by
  have hj := (List.getElem?_eq_some_iff.1 hu).1
  rw [conCells_len, h.1] at hj
  obtain ⟨b', off', e, _, hc⟩ := h.2 (by omega)
  injection e with e
  injection e with e1 e2
  subst e1; subst e2
  have hadd : (⟨b, off, none⟩ : Addr).add j = ⟨b, off + j, none⟩ := by
    unfold Addr.add
    by_cases h : j = 0
    · subst h; rfl
    · rw [if_neg h]
  rw [hadd]
  obtain ⟨k, hk⟩ : ∃ k, j = k * 3 ∨ j = k * 3 + 1 ∨ j = k * 3 + 2 := ⟨j / 3, by omega⟩
  have hat := conCells_at l k (by rw [h.1]; omega)
  obtain ⟨x1, x2, x3⟩ := hc k (by omega)
  rcases hk with rfl | rfl | rfl
  · rw [hat.1] at hu; rw [x1]; exact hu
  · rw [hat.2.1] at hu; rw [← Nat.add_assoc, x2]; exact hu
  · rw [hat.2.2] at hu; rw [← Nat.add_assoc, x3]; exact hu
/-- the list with the constraints of the first k parameters -/
def signTo (l : List Cn) (s : Int) (k : Nat) : List Cn := l ++ (List.range k).map fun (p : Nat) => Cs.signC (Sg.has s (p : Int)) p
theorem signTo_zero (l : List Cn) (s : Int) : signTo l s 0 = l := by simp [signTo]
theorem signTo_succ (l : List Cn) (s : Int) (k : Nat) : signTo l s (k + 1) = signTo l s k ++ [Cs.signC (Sg.has s (k : Int)) k] := by simp [signTo, List.range_succ]
theorem signTo_all (l : List Cn) (s : Int) : signTo l s 5 = Cs.signed l fun p => Sg.has s (p : Int) := rfl
/-- what the two give back -/
def SgnOut (w : World) (l : List Cn) (s : Int) (n : Nat) (e : Ending) (w' : World) : Prop :=
  ∃ g2 c2, e = .returned (.slice (some ⟨g2, 0, none⟩) (n + 5) c2) ∧ OwnC w' w.heap.size (some ⟨g2, 0, none⟩) (n + 5) c2 (Cs.signed l fun p => Sg.has s (p : Int)) ∧ Below w.heap.size w w'

set_option maxRecDepth 100000 in
set_option maxHeartbeats 800000 in
theorem cloneC_any (w : World) (B b off n c : Nat) (l : List Cn) (hB : B ≤ w.heap.size) (hl : ConR w B (some ⟨b, off, none⟩) n l) (hn : n ≤ 1000) :
    Calls Tryz.prog 145 #[.slice (some ⟨b, off, none⟩) n c] w fun e w' => ∃ g2 c2, e = .returned (.slice (some ⟨g2, 0, none⟩) n c2) ∧ OwnC w' w.heap.size (some ⟨g2, 0, none⟩) n c2 l ∧ Below w.heap.size w w' := by
  obtain ⟨i0, hi, hz0, hz1, hz2⟩ := info_parts info_con
  have hb0 : Below w.heap.size w (w.alloc (.cells #[] 41)) := (Below.refl _ _).alloc (Nat.le_refl _) _
  have ho0 : OwnC (w.alloc (.cells #[] 41)) w.heap.size (some ⟨w.heap.size, 0, none⟩) 0 0 [] := World.ownsRow_made w #[] 0 (Nat.le_refl _) (by simp [maxLen]) (by simp)
  have hnews := con_news (hl.below (hb0.mono hB))
  have hcl : (conCells l).length = n * 3 := by rw [conCells_len, hl.1]
  have hnil := Lib.run_eql_slice_nil (P := Tryz.prog)
  clear hl
  go_enter Tryz.func145, Tryz.ntmps145
  go_wp2_with (at_builtin; refine wpList_append_own _ rfl (.tmp 5) (.tmp 6) 24 rfl w.heap.size 41 i0 (.agg #[.int .i64 0, .int .i64 0, .int .i64 0]) 3 24 Tryz.underlying24 hi hz0 hz1 hz2 rfl (by decide) (.slice (some ⟨w.heap.size, 0, none⟩) 0 0) 0 (conCells []) rfl ho0 ⟨b, off, none⟩ n c (conCells l) rfl hcl hnews (conCells_one l) (by unfold maxLen; omega) (by omega) (by simp) ?_; intro v' w3 hown' hgrow hnil)
  obtain ⟨g', cap', rfl⟩ : ∃ g' cap', v' = .slice (some ⟨g', 0, none⟩) n cap' := by
    rcases hown'.2 with ⟨h0, _⟩ | ⟨g', cap', _, h0, _⟩
    · have := (hnil.1 h0).1
      cases this
    · rw [Nat.zero_add] at h0; exact ⟨g', cap', h0⟩
  have HB3 : Hid (Below w.heap.size w w3) := hb0.grown hgrow (by simp) (fun k h => by have h' : w.heap.size = k := (by simpa [Value.ownBlock] using h); omega)
  have HW0 : Hid (OwnC w3 w.heap.size (some ⟨g', 0, none⟩) n cap' l) := by
    have h := hown'
    rw [conCells_nil, List.nil_append, Nat.zero_add] at h
    exact h
  clear hown' hgrow hnil ho0 hb0 hnews
  go_wp2
  go_ret
  exact ⟨g', cap', rfl, HW0.out, HB3.out⟩

set_option maxRecDepth 100000 in
set_option maxHeartbeats 1600000 in
theorem l05Signed_any (w : World) (B b off n c : Nat) (l : List Cn) (s : Int) (hB : B ≤ w.heap.size) (hl : ConR w B (some ⟨b, off, none⟩) n l) (hn : n ≤ 900) :
    Calls Tryz.prog 57 #[.slice (some ⟨b, off, none⟩) n c, .int .i64 s] w (SgnOut w l s n) := by
  obtain ⟨i0, hi, hz0, hz1, hz2⟩ := info_parts info_con
  have HL := Lib.hid hl
  clear hl
  go_enter Tryz.func57, Tryz.ntmps57
  have hb0 : Below w.heap.size w (w.alloc (.cells #[] 41)) := (Below.refl _ _).alloc (Nat.le_refl _) _
  have ho0 : OwnC (w.alloc (.cells #[] 41)) w.heap.size (some ⟨w.heap.size, 0, none⟩) 0 0 [] := World.ownsRow_made w #[] 0 (Nat.le_refl _) (by simp [maxLen]) (by simp)
  have hnews := con_news (HL.out.below (hb0.mono hB))
  have hcl : (conCells l).length = n * 3 := by rw [conCells_len, HL.out.1]
  go_wp2_with (at_builtin; refine wpList_append_own _ rfl (.tmp 7) (.tmp 8) 24 rfl w.heap.size 41 i0 (.agg #[.int .i64 0, .int .i64 0, .int .i64 0]) 3 24 Tryz.underlying24 hi hz0 hz1 hz2 rfl (by decide) (.slice (some ⟨w.heap.size, 0, none⟩) 0 0) 0 (conCells []) rfl ho0 ⟨b, off, none⟩ n c (conCells l) rfl hcl hnews (conCells_one l) (by unfold maxLen; omega) (by omega) (by simp) ?_; intro v' w1 hown' hgrow hnil)
  obtain ⟨g1, c1, rfl⟩ : ∃ g' cap', v' = .slice (some ⟨g', 0, none⟩) n cap' := by
    rcases hown'.2 with ⟨h0, _⟩ | ⟨g', cap', _, h0, _⟩
    · have := (hnil.1 h0).1
      cases this
    · rw [Nat.zero_add] at h0; exact ⟨g', cap', h0⟩
  have HB1 : Hid (Below w.heap.size w w1) := hb0.grown hgrow (by simp) (fun k h => by have h' : w.heap.size = k := (by simpa [Value.ownBlock] using h); omega)
  have HO1 : Hid (OwnC w1 w.heap.size (some ⟨g1, 0, none⟩) n c1 (signTo l s 0)) := by
    show OwnC _ _ _ _ _ _
    have h := hown'
    rw [conCells_nil, List.nil_append, Nat.zero_add] at h
    rw [signTo_zero]
    exact h
  clear hown' hgrow hnil ho0 hb0 hnews hcl
  go_wp2
  go_loopw [6, 5] (fun i v wr => ∃ (k m g2 c2 : Nat), k ≤ 5 ∧ i = .int .i64 k ∧ m = n + k ∧ v = .slice (some ⟨g2, 0, none⟩) m c2 ∧ Hid (OwnC wr w.heap.size (some ⟨g2, 0, none⟩) m c2 (signTo l s k)) ∧ Hid (Below w.heap.size w wr)) (fun i _ _ => 5 - (intOf i).toNat)
  case atStart => exact ⟨0, n, g1, c1, by omega, rfl, rfl, rfl, HO1.out, HB1.out⟩
  case round =>
    clear HO1 HB1
    obtain ⟨k, m, g2, c2, hk, rfl, hmk, rfl, HO, HB⟩ := hrel
    have HMK := Lib.hid hmk
    have hm1 : m ≤ 905 := by omega
    have hmn : n ≤ m := by omega
    clear hmk
    have hszr := HB.out.size
    by_cases hlt : k < 5
    · have hki : (k : Int) < 5 := by omega
      have HST := Lib.hid (signTo_succ l s k)
      have hown := HO.out
      go_wp2_with fail
      refine (specSignHas_any wr s k).mono ?_
      rintro e w2 ⟨rfl, hw⟩
      obtain rfl : wr = w2 := hw.symm
      cases hh : Sg.has s (k : Int) with
      | true =>
        rw [hh] at HST
        clear hh
        go_wp2_with (at_builtin; refine wpList_append_own _ rfl (.tmp 17) (.tmp 20) 24 rfl w.heap.size 41 i0 (.agg #[.int .i64 0, .int .i64 0, .int .i64 0]) 3 24 Tryz.underlying24 hi hz0 hz1 hz2 rfl (by decide) (.slice (some ⟨g2, 0, none⟩) m c2) m (conCells (signTo l s k)) rfl (hown.alloc _) ⟨wr.heap.size, 0, none⟩ 1 1 (conCells [(-1, 1, (k : Int))]) rfl rfl (con_new wr (-1) 1 k) (conCells_one _) (by unfold maxLen; omega) (by omega) (by simp; omega) ?_; intro v' w3 hown' hgrow hnil)
        obtain ⟨g3, c3, rfl⟩ : ∃ g' c', v' = .slice (some ⟨g', 0, none⟩) (m + 1) c' := by
          rcases hown'.2 with ⟨h0, _⟩ | ⟨g', c', _, h0, _⟩
          · have := (hnil.1 h0).1
            cases this
          · exact ⟨g', c', h0⟩
        have HB3 : Hid (Below w.heap.size w w3) := (HB.out.alloc hszr _).grown hgrow (by simp; omega) (fun x h => (hown.lt x h).1)
        have HO3 : Hid (OwnC w3 w.heap.size (some ⟨g3, 0, none⟩) (m + 1) c3 (signTo l s (k + 1))) := by
          show OwnC _ _ _ _ _ _
          rw [HST.out]
          unfold OwnC
          rw [conCells_append]
          exact hown'
        clear hown hown' hgrow hnil
        go_wp2
        go_roundw
        case rel => exact ⟨k + 1, m + 1, g3, c3, by omega, by go_num, by have := HMK.out; omega, rfl, HO3.out, HB3.out⟩
        case measure => simp [intOf]; omega
      | false =>
        rw [hh] at HST
        clear hh
        go_wp2_with (at_builtin; refine wpList_append_own _ rfl (.tmp 22) (.tmp 25) 24 rfl w.heap.size 41 i0 (.agg #[.int .i64 0, .int .i64 0, .int .i64 0]) 3 24 Tryz.underlying24 hi hz0 hz1 hz2 rfl (by decide) (.slice (some ⟨g2, 0, none⟩) m c2) m (conCells (signTo l s k)) rfl (hown.alloc _) ⟨wr.heap.size, 0, none⟩ 1 1 (conCells [((k : Int), 0, -1)]) rfl rfl (con_new wr k 0 (-1)) (conCells_one _) (by unfold maxLen; omega) (by omega) (by simp; omega) ?_; intro v' w3 hown' hgrow hnil)
        obtain ⟨g3, c3, rfl⟩ : ∃ g' c', v' = .slice (some ⟨g', 0, none⟩) (m + 1) c' := by
          rcases hown'.2 with ⟨h0, _⟩ | ⟨g', c', _, h0, _⟩
          · have := (hnil.1 h0).1
            cases this
          · exact ⟨g', c', h0⟩
        have HB3 : Hid (Below w.heap.size w w3) := (HB.out.alloc hszr _).grown hgrow (by simp; omega) (fun x h => (hown.lt x h).1)
        have HO3 : Hid (OwnC w3 w.heap.size (some ⟨g3, 0, none⟩) (m + 1) c3 (signTo l s (k + 1))) := by
          show OwnC _ _ _ _ _ _
          rw [HST.out]
          unfold OwnC
          rw [conCells_append]
          exact hown'
        clear hown hown' hgrow hnil
        go_wp2
        go_roundw
        case rel => exact ⟨k + 1, m + 1, g3, c3, by omega, by go_num, by have := HMK.out; omega, rfl, HO3.out, HB3.out⟩
        case measure => simp [intOf]; omega
    · have hkk : ¬ (k : Int) < 5 := by omega
      obtain rfl : k = 5 := by omega
      rw [signTo_all] at HO
      have hmm := HMK.out
      go_wp2
      go_ret
      subst hmm
      exact ⟨g2, c2, rfl, HO.out, HB.out⟩
end Go.Proofs.YtgebjnoicgmdoaaGreatDoor

namespace Go.Proofs.YtgebjnoicgmdoaaGreatDoor
open Go.RowKit
open Cs (Cn Tb)

theorem leastL_cell (T : Tb) {j : Nat} {u : Value} (h : ((leastL T).map (Value.int .i64))[j]? = some u) : j < 5 ∧ u = .int .i64 (T 0 (j + 1)) := by
  have hj : j < 5 := by
    have := (List.getElem?_eq_some_iff.1 h).1
    simpa [leastL] using this
  refine ⟨hj, ?_⟩
  simp [leastL, hj] at h
  exact h.symm
end Go.Proofs.YtgebjnoicgmdoaaGreatDoor

namespace Go.Proofs.YtgebjnoicgmdoaaGreatDoor
open Go.RowKit
open Cs (Cn Tb)

/-- the list can hold at the sign -/
def sgnB (l : List Cn) (s : Int) : Bool := consOkR l && Sg.isSign s && Cs.flat (Un.sgL l s)
/-- the table of the signed list -/
def sgnT (l : List Cn) (s : Int) : Tb := if sgnB l s = true then Cs.tab (Un.sgL l s) else zeroT
theorem sgnB_bad {l : List Cn} {s : Int} (h : consOkR l = false) : sgnB l s = false := by unfold sgnB; rw [h]; rfl
theorem sgnB_not {l : List Cn} {s : Int} (h : Sg.isSign s = false) : sgnB l s = false := by unfold sgnB; rw [h, Bool.and_false]; rfl
theorem sgnB_ok {l : List Cn} {s : Int} (h1 : consOkR l = true) (h2 : Sg.isSign s = true) : sgnB l s = Cs.flat (Un.sgL l s) := by unfold sgnB; rw [h1, h2, Bool.true_and, Bool.true_and]
theorem sgnT_no {l : List Cn} {s : Int} (h : sgnB l s = false) : sgnT l s = zeroT := if_neg (by rw [h]; decide)
theorem sgnT_yes {l : List Cn} {s : Int} (h : sgnB l s = true) : sgnT l s = Cs.tab (Un.sgL l s) := if_pos h
theorem sgnT_long {l : List Cn} {s : Int} (h1 : consOkR l = true) (h2 : Sg.isSign s = true) : sgnT l s = longT (Un.sgL l s) := by unfold sgnT longT; rw [sgnB_ok h1 h2]
end Go.Proofs.YtgebjnoicgmdoaaGreatDoor

namespace Go.Proofs.YtgebjnoicgmdoaaGreatDoor
open Go.RowKit
open Cs (Cn Tb)

namespace Un
theorem leB_at {T : Tb} {p x q y : Int} {u v : Nat} (hu : p + 1 = u) (hv : q + 1 = v) : leB T (p, x) (q, y) = (decide (0 ≤ T u v) && decide (x ≤ T u v + y)) := by
  unfold leB
  show (decide (0 ≤ T (Cs.node p) (Cs.node q)) && decide (x ≤ T (Cs.node p) (Cs.node q) + y)) = _
  rw [node_of' hu, node_of' hv]
theorem atB_not {T : Tb} {x : Nm.At} {n : List Nm.At} (h : ∀ j, j < n.length → leB T x (n.getD j (0, 0)) = false) : atB T x n = false := atB_none h
end Un

set_option maxRecDepth 100000 in
set_option maxHeartbeats 1600000 in
theorem atomLe_any (w : World) (B : Nat) (T : Tb) (p x : Int) (A : Option Addr) (n c : Nat) (l : List (Int × Int)) (hB : B ≤ w.heap.size) (hl : TokR w B A n l) (hn : (n : Int) ≤ 140737488355328) (hok : Nm.AllOk l) (hp1 : -1 ≤ p) (hp2 : p < 5) (hT : ∀ i j, -1 ≤ T i j ∧ T i j ≤ 1000) :
    Calls Tryz.prog 122 #[tabV T, .agg #[.int .i64 p, .int .i64 x], .slice A n c] w fun e w' => e = .returned (.bool (Un.atB T (p, x) l)) ∧ Below w.heap.size w w' := by
  obtain ⟨W0, hW0⟩ : ∃ W, (w.alloc (.cells (tabA T) 85)).alloc (.cells #[.int .i64 p, .int .i64 x] 92) = W := ⟨_, rfl⟩
  have HB0 : Hid (Below w.heap.size w W0) := by show Below _ _ _; rw [← hW0]; exact ((Below.refl _ _).alloc (Nat.le_refl _) _).alloc (by simp) _
  have HC0 : Hid (Blk W0 w.heap.size 85 (tabA T)) := by
    show Blk _ _ _ _
    rw [← hW0]
    exact Blk.below (Blk.made w _ _) ((Below.refl _ _).alloc (Nat.le_refl _) _) (by simp)
  have HK0 : Hid (Blk W0 (w.heap.size + 1) 92 #[.int .i64 p, .int .i64 x]) := by
    show Blk _ _ _ _
    have h1 : Blk ((w.alloc (.cells (tabA T) 85)).alloc (.cells #[.int .i64 p, .int .i64 x] 92)) (w.alloc (.cells (tabA T) 85)).heap.size 92 #[.int .i64 p, .int .i64 x] := Blk.made _ _ _
    rw [show (w.alloc (.cells (tabA T) 85)).heap.size = w.heap.size + 1 by simp] at h1
    rw [← hW0]
    exact h1
  obtain ⟨u, hu⟩ : ∃ u : Nat, p + 1 = u := ⟨(p + 1).toNat, by omega⟩
  have hu6 : u < 6 := by omega
  have HU := Lib.hid hu
  have HOK := Lib.hid hok
  have HTB := Lib.hid hT
  clear hu hok hT
  go_enter Tryz.func122, Tryz.ntmps122
  go_wp2
  clear hW0
  go_loopw [12] (fun i wr => ∃ k : Nat, k ≤ n ∧ i = .int .i64 k ∧ Hid (∀ j, j < k → Un.leB T (p, x) (l.getD j (0, 0)) = false) ∧ Hid (Below w.heap.size w wr) ∧ Hid (Blk wr w.heap.size 85 (tabA T)) ∧ Hid (Blk wr (w.heap.size + 1) 92 #[.int .i64 p, .int .i64 x])) (fun i _ => n - (intOf i).toNat)
  case atStart => exact ⟨0, Nat.zero_le _, rfl, (fun j hj => absurd hj (by omega)), HB0.out, HC0.out, HK0.out⟩
  case round =>
    clear HB0 HC0 HK0
    obtain ⟨k, hk, rfl, HA, HB, HC, HK⟩ := hrel
    by_cases hlt : k < n
    · have hki : (k : Int) < (n : Int) := by omega
      obtain ⟨b, off, rfl, hb, hc⟩ := hl.2 (by omega)
      obtain ⟨c1, c2⟩ := hc k hlt
      have HL := Lib.hid hl.1
      have hat := (Nm.atOk_iff _).1 (HOK.out k (by rw [hl.1]; exact hlt))
      obtain ⟨t, ht⟩ : ∃ t, l.getD k (0, 0) = t := ⟨_, rfl⟩
      rw [ht] at c1 c2 hat
      obtain ⟨q, y⟩ := t
      simp only at hat
      obtain ⟨a1, a2, a3, a4⟩ := hat
      have HT := Lib.hid ht
      have k1 := (HB.out.cell (p := ⟨b, off + k * 2, none⟩) (by show b < _; omega)).trans c1
      have k2 := (HB.out.cell (p := ⟨b, off + k * 2 + 1, none⟩) (by show b < _; omega)).trans c2
      obtain ⟨v, hv⟩ : ∃ v : Nat, q + 1 = v := ⟨(q + 1).toNat, by omega⟩
      have hv6 : v < 6 := by omega
      obtain ⟨W1, hW1⟩ : ∃ W, wr.alloc (.cells #[.int .i64 q, .int .i64 y] 92) = W := ⟨_, rfl⟩
      have ha1 : Below wr.heap.size wr W1 := by rw [← hW1]; exact (Below.refl _ _).alloc (Nat.le_refl _) _
      have HC1 := Lib.hid (Blk.below HC.out ha1 HC.out.lt)
      have HK1 := Lib.hid (Blk.below HK.out ha1 HK.out.lt)
      have HB1 := Lib.hid (HB.out.trans (ha1.mono HB.out.size))
      have HY1 : Hid (Blk W1 wr.heap.size 92 #[.int .i64 q, .int .i64 y]) := by show Blk _ _ _ _; rw [← hW1]; exact Blk.made _ _ _
      have c0 : Blk W1 w.heap.size 85 (tabA T) := HC1.out
      have z0 : W1.cell? ⟨w.heap.size + 1, 0, none⟩ = some (.int .i64 p) := HK1.out.cell 0
      have y0 : W1.cell? ⟨wr.heap.size, 0, none⟩ = some (.int .i64 q) := HY1.out.cell 0
      obtain ⟨f, hf⟩ : ∃ f, T u v = f := ⟨_, rfl⟩
      have hfb := HTB.out u v
      rw [hf] at hfb
      have HLE : Hid (Un.leB T (p, x) (q, y) = (decide (0 ≤ f) && decide (x ≤ f + y))) := by show _ = _; rw [Un.leB_at HU.out hv, hf]
      have HF := Lib.hid hf
      have HV := Lib.hid hv
      clear c1 c2 hc ht hv hf ha1
      go_wp2_with (refine wpList_load_row rfl 85 _ rfl w.heap.size rfl 85 (tabA T) (0, 0) _ c0 Tryz.underlying85 rfl (size_tab T) ?_)
      refine (far_any W1 T p q u v HU.out hu6 HV.out hv6).mono ?_
      rintro e w2 ⟨rfl, hb2⟩
      rw [HF.out]
      have HB2 := Lib.hid (HB1.out.trans (hb2.mono HB1.out.size))
      have HC2 := Lib.hid (Blk.below HC1.out hb2 HC1.out.lt)
      have HK2 := Lib.hid (Blk.below HK1.out hb2 HK1.out.lt)
      have HY2 := Lib.hid (Blk.below HY1.out hb2 HY1.out.lt)
      have z1 : w2.cell? ⟨w.heap.size + 1, 1, none⟩ = some (.int .i64 x) := HK2.out.cell 1
      have y1 : w2.cell? ⟨wr.heap.size, 1, none⟩ = some (.int .i64 y) := HY2.out.cell 1
      have yes_of : 0 ≤ f → x ≤ f + y → Hid (Un.atB T (p, x) l = true) := fun h1 h2 => Un.atB_some (k := k) (by rw [HL.out]; exact hlt) (by rw [HT.out, HLE.out, decide_eq_true h1, decide_eq_true h2]; rfl)
      have no_of : ¬ (0 ≤ f ∧ x ≤ f + y) → Hid (∀ j, j < k + 1 → Un.leB T (p, x) (l.getD j (0, 0)) = false) := by
        intro h j hj
        by_cases e : j = k
        · subst e
          rw [HT.out, HLE.out, Bool.and_eq_false_iff]
          by_cases h1 : 0 ≤ f
          · exact .inr (decide_eq_false fun h2 => h ⟨h1, h2⟩)
          · exact .inl (decide_eq_false h1)
        · exact HA.out j (by omega)
      clear hb2 c0 z0 y0 k1 k2 hl hW1
      by_cases h1 : f = -1
      · have HA2 := no_of (fun h => by omega)
        subst h1
        clear yes_of no_of hfb
        go_wp2
        go_roundw
        case rel => exact ⟨k + 1, by omega, by go_num, HA2.out, HB2.out, HC2.out, HK2.out⟩
        case measure => simp [intOf]; omega
      · have df : (f != -1) = true := by simpa using h1
        have hf0 : 0 ≤ f := by omega
        by_cases h2 : x ≤ f + y
        · have HR := yes_of hf0 h2
          clear yes_of no_of h1
          go_wp2
          go_ret
          exact ⟨by rw [HR.out]; rfl, HB2.out⟩
        · have dx : decide (x ≤ f + y) = false := decide_eq_false h2
          have HA2 := no_of (fun h => h2 h.2)
          clear yes_of no_of h1 h2
          go_wp2
          go_roundw
          case rel => exact ⟨k + 1, by omega, by go_num, HA2.out, HB2.out, HC2.out, HK2.out⟩
          case measure => simp [intOf]; omega
    · have HR : Hid (Un.atB T (p, x) l = false) := Un.atB_not (fun j hj => HA.out j (by have := hl.1; omega))
      clear hl
      have hki : ¬ (k : Int) < (n : Int) := by omega
      go_wp2
      go_ret
      exact ⟨by rw [HR.out]; rfl, HB.out⟩
end Go.Proofs.YtgebjnoicgmdoaaGreatDoor
