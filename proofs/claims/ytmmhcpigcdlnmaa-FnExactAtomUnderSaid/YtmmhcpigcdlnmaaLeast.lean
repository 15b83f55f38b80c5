/- ConsLeast, of the program and of the reference model. -/
import Derived.Test.YtmmhcpigcdlnmaaPtSat

namespace Go.Proofs.Ytmmhcpigcdlnmaa
open Go.RowKit
open Cs (Cn Tb)

theorem own_spot {w : World} {base g n c size : Nat} {e : TypeId} {xs : List Value} (h : w.ownsRow base e size (.slice (some ⟨g, 0, none⟩) n c) n xs) {i : Nat} {u : Value} (hu : xs[i]? = some u) : w.cell? ⟨g, i, none⟩ = some u ∧ w.frozen? ⟨g, i, none⟩ = false := by
  have h1 := h.cells (g := g) rfl i u hu
  rw [own_adds] at h1
  refine ⟨h1, ?_⟩
  rcases h.2 with ⟨h0, _⟩ | ⟨g', cap, cur, hv, hb, hgg, _⟩
  · cases h0
  · injection hv with e1
    injection e1 with e1
    injection e1 with e1
    rw [e1]
    exact Blk.thawed (w := w) hgg i
theorem own_whole {w : World} {base g n : Nat} {e : TypeId} {cs : Array Value} {xs : List Value} (h : Blk w g e cs) (hb : base ≤ g) (hn : n ≤ 3000000) (hx : cs.toList = xs) (hs : xs.length = n * 1 := by rfl) : w.ownsRow base e 1 (.slice (some ⟨g, 0, none⟩) n n) n xs := by
  have hsz : cs.size = n * 1 := by rw [← hs, ← hx]; simp
  exact ⟨hs, .inr ⟨g, n, cs, rfl, hb, h, Nat.le_refl _, by unfold maxLen; omega, hsz, by rw [← hsz, List.take_of_length_le (by simp)]; exact hx⟩⟩
/-- what a function gives back: a row of numbers and whether there is one -/
def ResJ (w : World) (r : Option (List Int)) (e : Ending) (w' : World) : Prop :=
  ∃ A c, e = .returned (.tuple #[.slice A (r.getD []).length c, .bool r.isSome]) ∧ OwnI w' w.heap.size A (r.getD []).length c (r.getD []) ∧ Below w.heap.size w w'
theorem resJ_none {w w' : World} (hb : Below w.heap.size w w') : ResJ w none (.returned (.tuple #[.slice none 0 0, .bool false])) w' := ⟨none, 0, rfl, World.ownsRow_nil _ _ _ _, hb⟩
theorem resJ_some {w w' : World} {g cap n : Nat} {l : List Int} (hl : l.length = n) (ho : OwnI w' w.heap.size (some ⟨g, 0, none⟩) n cap l) (hb : Below w.heap.size w w') : ResJ w (some l) (.returned (.tuple #[.slice (some ⟨g, 0, none⟩) n cap, .bool true])) w' :=
  ⟨some ⟨g, 0, none⟩, cap, by simp [hl], by simpa [hl] using ho, hb⟩
/-- the answer of ConsLeast -/
def leastO (l : List Cn) : Option (List Int) := if satR l = true then some (Cs.leastEnv l) else none
theorem leastO_no {l : List Cn} (h : satR l = false) : leastO l = none := if_neg (by rw [h]; decide)
theorem leastO_yes {l : List Cn} (h : satR l = true) : leastO l = some (Cs.leastEnv l) := if_pos h
/-- the least env of a table, and the row that is being filled -/
def leastL (T : Tb) : List Int := (List.range 5).map fun p => T 0 (p + 1)
def fillE (T : Tb) (k : Nat) : List Int := (List.range 5).map fun p => if p < k then T 0 (p + 1) else 0
theorem fillE_zero (T : Tb) : fillE T 0 = [0, 0, 0, 0, 0] := rfl
theorem fillE_all (T : Tb) : fillE T 5 = leastL T := by
  unfold fillE leastL
  apply List.map_congr_left
  intro p hp
  rw [if_pos (List.mem_range.1 hp)]
theorem fillE_len (T : Tb) (k : Nat) : (fillE T k).length = 5 := by simp [fillE]
theorem fillE_set (T : Tb) {k : Nat} (_ : k < 5) : (fillE T k).set k (T 0 (k + 1)) = fillE T (k + 1) := by
  apply List.ext_getElem (by simp [fillE])
  intro i h1 h2
  rw [List.getElem_set]
  simp only [fillE, List.getElem_map, List.getElem_range]
  by_cases e : k = i
  · subst e
    rw [if_pos rfl, if_pos (by omega)]
  · rw [if_neg e]
    by_cases c : i < k
    · rw [if_pos c, if_pos (by omega)]
    · rw [if_neg c, if_neg (by omega)]

set_option maxRecDepth 100000 in
set_option maxHeartbeats 1600000 in
theorem least_any (w : World) (T : Tb) :
    Calls Try.prog 54 #[tabV T] w fun e w' => ∃ g, e = .returned (.slice (some ⟨g, 0, none⟩) 5 5) ∧ OwnI w' w.heap.size (some ⟨g, 0, none⟩) 5 5 (leastL T) ∧ Below w.heap.size w w' := by
  obtain ⟨i0, hi, hz0, hz1, hz2⟩ := info_parts info_int
  have hmk : ∀ wx, (Instr.makeSlice 26 (.int .i64 5) (.int .i64 5)).run Try.prog wx = .ok (.slice (some ⟨wx.heap.size, 0, none⟩) 5 5) (wx.alloc (.cells (madeCells #[Value.int .i64 0] 5) 3)) := by
    intro wx
    have hr := run_make (P := Try.prog) wx 26 3 i0 _ Try.underlying26 hi hz0 .i64 .i64 5 5 (by omega) (by omega) (by rw [hz2]; omega) (by omega)
    simp only [hz1] at hr
    exact hr
  obtain ⟨W0, hW0⟩ : ∃ W, w.alloc (.cells (tabA T) 70) = W := ⟨_, rfl⟩
  have hb0 : Below w.heap.size w W0 := by rw [← hW0]; exact (Below.refl _ _).alloc (Nat.le_refl _) _
  have hs0 : W0.heap.size = w.heap.size + 1 := by rw [← hW0]; simp
  have c0 : Blk W0 w.heap.size 70 (tabA T) := by rw [← hW0]; exact Blk.made _ _ _
  obtain ⟨W1, hW1⟩ : ∃ W, W0.alloc (.cells (madeCells #[Value.int .i64 0] 5) 3) = W := ⟨_, rfl⟩
  have HO1 : Hid (OwnI W1 w.heap.size (some ⟨w.heap.size + 1, 0, none⟩) 5 5 (fillE T 0)) := by
    show OwnI _ _ _ _ _ _
    have hb : Blk W1 (w.heap.size + 1) 3 (madeCells #[Value.int .i64 0] 5) := by rw [← hW1, ← hs0]; exact Blk.made _ _ _
    exact own_whole hb (by omega) (by omega) (by rw [fillE_zero]; kernel_rfl)
  have HB1 : Hid (Below w.heap.size w W1) := by show Below _ _ _; rw [← hW1]; exact hb0.alloc (by omega) _
  have HC1 : Hid (Blk W1 w.heap.size 70 (tabA T)) := by show Blk _ _ _ _; rw [← hW1]; exact Blk.below c0 ((Below.refl _ _).alloc (Nat.le_refl _) _) (by omega)
  clear hb0 c0 hi hz0 hz1 hz2
  go_enter Try.func54, Try.ntmps54
  go_wp2
  clear hmk hW0 hW1 hs0
  go_loopw [8] (fun i wr => ∃ k : Nat, k ≤ 5 ∧ i = .int .i64 k ∧ Hid (OwnI wr w.heap.size (some ⟨w.heap.size + 1, 0, none⟩) 5 5 (fillE T k)) ∧ Hid (Blk wr w.heap.size 70 (tabA T)) ∧ Hid (Below w.heap.size w wr)) (fun i _ => 5 - (intOf i).toNat)
  case atStart => exact ⟨0, by omega, rfl, HO1.out, HC1.out, HB1.out⟩
  case round =>
    clear HO1 HC1 HB1
    obtain ⟨k, hk, rfl, HO, HC, HB⟩ := hrel
    by_cases hlt : k < 5
    · have hki : (k : Int) < 5 := by omega
      have c1 := HC.out
      go_wp2_with (refine wpList_load_row rfl 70 _ rfl w.heap.size rfl 70 (tabA T) (0, 0) _ c1 Try.underlying70 rfl (size_tab T) ?_)
      refine (far_any wr T (-1) k 0 (k + 1) (by omega) (by omega) (by omega) (by omega)).mono ?_
      rintro e w1 ⟨rfl, hb1⟩
      have ho1 := own_below' HO.out hb1
      have hlen : k < (fillE T k).length := by rw [fillE_len]; exact hlt
      obtain ⟨q1, q2⟩ := own_spot ho1 (i := k) (u := .int .i64 ((fillE T k)[k])) (by simp)
      have HO2 : Hid (OwnI (w1.setCell ⟨w.heap.size + 1, k, none⟩ (.int .i64 (T 0 (k + 1)))) w.heap.size (some ⟨w.heap.size + 1, 0, none⟩) 5 5 (fillE T (k + 1))) := by
        have := own_set ho1 k (.int .i64 (T 0 (k + 1)))
        rw [← List.map_set, fillE_set T hlt] at this
        exact this
      have HC2 : Hid (Blk (w1.setCell ⟨w.heap.size + 1, k, none⟩ (.int .i64 (T 0 (k + 1)))) w.heap.size 70 (tabA T)) := (Wrote.set (g := w.heap.size + 1) _ _).blk (Blk.below HC.out hb1 HC.out.lt) (by omega)
      have HB2 : Hid (Below w.heap.size w (w1.setCell ⟨w.heap.size + 1, k, none⟩ (.int .i64 (T 0 (k + 1))))) := (HB.out.trans (hb1.mono HB.out.size)).setCell (p := ⟨w.heap.size + 1, k, none⟩) (by show _ ≤ w.heap.size + 1; omega) _
      generalize (fillE T k)[k] = z at q1
      clear hb1 ho1 c1
      go_wp2
      go_roundw
      case rel => exact ⟨k + 1, by omega, by go_num, HO2.out, HC2.out, HB2.out⟩
      case measure => simp [intOf]; omega
    · obtain rfl : k = 5 := by omega
      rw [fillE_all] at HO
      go_wp2
      go_ret
      exact ⟨w.heap.size + 1, rfl, HO.out, HB.out⟩

set_option maxRecDepth 100000 in
set_option maxHeartbeats 1600000 in
theorem implConsLeast_any (w : World) (B : Nat) (A : Option Addr) (n c : Nat) (l : List Cn) (hB : B ≤ w.heap.size) (hl : ConR w B A n l) (hn : (n : Int) ≤ 140737488355328) :
    Calls Try.prog 11 #[.slice A n c] w (ResJ w (leastO l)) := by
  have hz := zeros_tab
  have HL := Lib.hid hl
  clear hl
  go_enter Try.func11, Try.ntmps11
  go_wp2_with fail
  refine (pathsOf_any w B A n c l hB HL.out hn).mono ?_
  rintro e w1 ⟨rfl, hb1⟩
  obtain ⟨T, hT⟩ : ∃ T, pathT l = T := ⟨_, rfl⟩
  rw [hT]
  have HT := Lib.hid hT
  clear hT
  obtain ⟨W1, hW1⟩ : ∃ W, w1.alloc (.cells (tabA zeroT) 70) = W := ⟨_, rfl⟩
  have c1 : Blk W1 w1.heap.size 70 (tabA zeroT) := by rw [← hW1]; exact Blk.made _ _ _
  obtain ⟨S, hS⟩ : ∃ S, w1.heap.size = S := ⟨_, rfl⟩
  rw [hS] at c1
  obtain ⟨W2, hW2⟩ : ∃ W, W1.setRow S (tabA T) = W := ⟨_, rfl⟩
  have c2 : Blk W2 S 70 (tabA T) := by rw [← hW2]; exact BlkT.lay c1 T
  have HB2 : Hid (Below w.heap.size w W2) := by
    show Below _ _ _
    have q1 : Below w1.heap.size w1 W1 := by rw [← hW1]; exact (Below.refl _ _).alloc (Nat.le_refl _) _
    have := q1.size
    have := hb1.size
    rw [← hW2]
    exact (Wrote.row _ _ _).below (hb1.trans (q1.mono (by omega))) (by omega) (by omega)
  clear hb1
  cases h1 : satR l with
  | false =>
    have HF := Lib.hid (leastO_no h1)
    clear h1
    go_wp2_with (refine wpList_store_row rfl 70 _ _ rfl S (tabA T) rfl rfl 70 (tabA zeroT) c1 (size_tab T) rfl (tabA_one T) ?_)
    go_ret2
    rw [HF.out]
    exact resJ_none HB2.out
  | true =>
    have HF := Lib.hid (leastO_yes h1)
    have HE : Hid (leastL T = Cs.leastEnv l) := by show _ = _; rw [← HT.out, pathT_yes h1]; rfl
    clear h1
    go_wp2_with (first
      | (refine wpList_store_row rfl 70 _ _ rfl S (tabA T) rfl rfl 70 (tabA zeroT) c1 (size_tab T) rfl (tabA_one T) ?_)
      | (refine wpList_load_row rfl 70 _ rfl S rfl 70 (tabA T) (0, 0) _ c2 Try.underlying70 rfl (size_tab T) ?_))
    refine (least_any W2 T).mono ?_
    rintro e w3 ⟨g, rfl, ho3, hb3⟩
    have HB3 := Lib.hid (HB2.out.trans (hb3.mono HB2.out.size))
    have HO3 := Lib.hid (own_base ho3 HB2.out.size)
    clear ho3 hb3
    go_wp2
    go_ret2
    rw [HF.out]
    rw [HE.out] at HO3
    exact resJ_some (Cs.leastEnv_len l) HO3.out HB3.out
end Go.Proofs.Ytmmhcpigcdlnmaa
