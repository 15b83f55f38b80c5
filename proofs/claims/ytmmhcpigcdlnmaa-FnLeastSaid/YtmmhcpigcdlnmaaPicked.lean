/- picked of the program; indices that are left. -/
import Derived.Test.YtmmhcpigcdlnmaaDel2

namespace Go.Proofs.Ytmmhcpigcdlnmaa
open Go.RowKit
open Cs (Cn Tb)

/-- a row that is being counted up -/
def countL (n k : Nat) : List Int := (List.range n).map fun (i : Nat) => if i < k then (i : Int) else 0
theorem countL_len (n k : Nat) : (countL n k).length = n := by simp [countL]
theorem countL_all (n : Nat) : countL n n = natI (List.range n) := by
  unfold countL natI
  apply List.map_congr_left
  intro i hi
  rw [if_pos (List.mem_range.1 hi)]
theorem countL_set (n k : Nat) : (countL n k).set k (k : Int) = countL n (k + 1) := by
  apply List.ext_getElem (by simp [countL])
  intro i h1 h2
  rw [List.getElem_set]
  simp only [countL, List.getElem_map, List.getElem_range]
  by_cases e : k = i
  · subst e
    rw [if_pos rfl, if_pos (by omega)]
  · rw [if_neg e]
    by_cases c : i < k
    · rw [if_pos c, if_pos (by omega)]
    · rw [if_neg c, if_neg (by omega)]
theorem countL_made (n : Nat) : (madeCells #[Value.int .i64 0] n).toList = (countL n 0).map (Value.int .i64) := by
  apply List.ext_getElem?
  intro k
  by_cases hk : k < n
  · simp [madeCells, countL, hk, Nat.mod_one]
  · rw [List.getElem?_eq_none (by simp [madeCells]; omega), List.getElem?_eq_none (by simp [countL]; omega)]
theorem make_ints (n : Nat) (hn : n ≤ 1000) : ∀ wx, (Instr.makeSlice 26 (.int .i64 (n : Int)) (.int .i64 (n : Int))).run Try.prog wx = .ok (.slice (some ⟨wx.heap.size, 0, none⟩) n n) (wx.alloc (.cells (madeCells #[Value.int .i64 0] n) 3)) := by
  obtain ⟨i0, hi, hz0, hz1, hz2⟩ := info_parts info_int
  intro wx
  have hr := run_make (P := Try.prog) wx 26 3 i0 _ Try.underlying26 hi hz0 .i64 .i64 n n (by omega) (by omega) (by rw [hz2]; omega) (by omega)
  simp only [Int.toNat_natCast, hz1, Nat.mul_one] at hr
  exact hr
theorem natI_get (is : List Nat) {i : Nat} (hi : i < is.length) : (natI is).getD i 0 = ((is.getD i 0 : Nat) : Int) := by
  simp [natI, List.getD_eq_getElem?_getD, hi]
theorem kept_nodup (l : List Cn) (g : Nat → Bool) : (Cs.keptI l g).Nodup := List.nodup_range.filter _
/-- the place of an index that is left -/
theorem kept_place {l : List Cn} {g : Nat → Bool} {k : Nat} (hk : k < l.length) (hg : g k = false) :
    ∃ j, j < (Cs.keptI l g).length ∧ (natI (Cs.keptI l g)).getD j 0 = (k : Int) ∧ ∀ i, i < (Cs.keptI l g).length → i ≠ j → (natI (Cs.keptI l g)).getD i 0 ≠ (k : Int) := by
  have hm : k ∈ Cs.keptI l g := List.mem_filter.2 ⟨List.mem_range.2 hk, by simp [hg]⟩
  obtain ⟨j, hj, e⟩ := List.getElem_of_mem hm
  refine ⟨j, hj, ?_, fun i hi hne h => ?_⟩
  · rw [natI_get _ hj, List.getD_eq_getElem?_getD, List.getElem?_eq_getElem hj]
    show (((Cs.keptI l g)[j] : Nat) : Int) = k
    rw [e]
  · rw [natI_get _ hi, List.getD_eq_getElem?_getD, List.getElem?_eq_getElem hi] at h
    have h' : (Cs.keptI l g)[i] = k := by
      have : (((Cs.keptI l g)[i] : Nat) : Int) = k := h
      omega
    have hp := List.pairwise_iff_getElem.1 (kept_nodup l g)
    rcases Nat.lt_or_gt_of_ne hne with c | c
    · exact hp i j hi hj c (h'.trans e.symm)
    · exact hp j i hj hi c (e.trans h'.symm)
theorem natI_filter (is : List Nat) (k : Nat) : (natI is).filter (fun y => !decide (y = (k : Int))) = natI (is.filter fun i => !decide (i = k)) := by
  unfold natI
  rw [List.filter_map]
  congr 1
  apply List.filter_congr
  intro i _
  simp
  omega
theorem kept_erase {l : List Cn} {g : Nat → Bool} {k j : Nat} (hj : j < (Cs.keptI l g).length) (hx : (natI (Cs.keptI l g)).getD j 0 = (k : Int)) (hu : ∀ i, i < (Cs.keptI l g).length → i ≠ j → (natI (Cs.keptI l g)).getD i 0 ≠ (k : Int)) :
    (natI (Cs.keptI l g)).eraseIdx j = natI (Cs.keptI l (Cs.mark g k true)) := by
  rw [erase_filter _ j k (by rw [natI_len]; exact hj) hx (fun i hi hne => hu i (by rw [natI_len] at hi; exact hi) hne), natI_filter, Cs.kept_del]

set_option maxRecDepth 100000 in
set_option maxHeartbeats 1600000 in
theorem picked_any (w : World) (B : Nat) (A : Option Addr) (n c : Nat) (l : List Cn) (A1 : Option Addr) (m c1 : Nat) (is : List Nat) (hB : B ≤ w.heap.size) (hl : ConR w B A n l) (B1 : Nat) (hB1 : B1 ≤ w.heap.size) (hi1 : IntR w B1 A1 m (natI is)) (hlt : ∀ i ∈ is, i < n) (hm : m ≤ 1000) (hn : n ≤ 1000) :
    Calls Try.prog 71 #[.slice A n c, .slice A1 m c1] w fun e w' => ∃ g2 c2, e = .returned (.slice (some ⟨g2, 0, none⟩) m c2) ∧ OwnC w' w.heap.size (some ⟨g2, 0, none⟩) m c2 (Cs.pickC l is) ∧ Below w.heap.size w w' := by
  obtain ⟨i0, hi, hz0, hz1, hz2⟩ := info_parts info_con
  have hmk : ∀ wx, (Instr.makeSlice 24 (.int .i64 0) (.int .i64 (m : Int))).run Try.prog wx = .ok (.slice (some ⟨wx.heap.size, 0, none⟩) 0 m) (wx.alloc (.cells (madeCells (Value.agg #[.int .i64 0, .int .i64 0, .int .i64 0]).cells (m * 3)) 34)) := by
    intro wx
    have hr := run_make (P := Try.prog) wx 24 34 i0 _ Try.underlying24 hi hz0 .i64 .i64 0 m (by omega) (by omega) (by rw [hz2]; omega) (by omega)
    simp only [Int.toNat_natCast, hz1] at hr
    exact hr
  have hilen : is.length = m := by have := hi1.1; rw [natI_len] at this; exact this
  have HS0 : Hid (OwnC (w.alloc (.cells (madeCells (Value.agg #[.int .i64 0, .int .i64 0, .int .i64 0]).cells (m * 3)) 34)) w.heap.size (some ⟨w.heap.size, 0, none⟩) 0 m []) :=
    ⟨rfl, .inr ⟨w.heap.size, m, _, rfl, Nat.le_refl _, Blk.made w _ _, by omega, by unfold maxLen; omega, by simp [madeCells], by simp [conCells]⟩⟩
  have HB0 : Hid (Below w.heap.size w (w.alloc (.cells (madeCells (Value.agg #[.int .i64 0, .int .i64 0, .int .i64 0]).cells (m * 3)) 34))) := (Below.refl _ _).alloc (Nat.le_refl _) _
  have HL := Lib.hid hl
  have HI := Lib.hid hi1
  have HLT := Lib.hid hlt
  have HIL := Lib.hid hilen
  clear hl hi1 hlt hilen
  go_enter Try.func71, Try.ntmps71
  go_wp2
  go_loopw [5, 13] (fun v i wr => ∃ (k g2 c2 : Nat), k ≤ m ∧ i = .int .i64 k ∧ v = .slice (some ⟨g2, 0, none⟩) k c2 ∧ Hid (OwnC wr w.heap.size (some ⟨g2, 0, none⟩) k c2 (Cs.pickC l (is.take k))) ∧ Hid (Below w.heap.size w wr)) (fun _ i _ => m - (intOf i).toNat)
  case atStart => exact ⟨0, w.heap.size, m, by omega, rfl, rfl, HS0.out, HB0.out⟩
  case round =>
    clear HS0 HB0 hmk
    obtain ⟨k, g2, c2, hk, rfl, rfl, HO, HB⟩ := hrel
    have hszr := HB.out.size
    by_cases hkm : k < m
    · have hki : (k : Int) < (m : Int) := by omega
      have hkl : k < is.length := by rw [HIL.out]; exact hkm
      obtain ⟨b1, off1, hA1, hb1, hc1⟩ := HI.out.2 (by omega)
      have x0 := hc1 k hkm
      rw [natI_get is hkl] at x0
      have hin : is.getD k 0 < n := HLT.out _ (by rw [List.getD_eq_getElem?_getD, List.getElem?_eq_getElem hkl]; exact List.getElem_mem _)
      obtain ⟨q, hq⟩ : ∃ q, is.getD k 0 = q := ⟨_, rfl⟩
      rw [hq] at x0 hin
      have hqi : (q : Int) < (n : Int) := by omega
      obtain ⟨b, off, hA, hb, hc⟩ := HL.out.2 (by omega)
      obtain ⟨x1, x2, x3⟩ := hc q hin
      obtain ⟨t, ht⟩ : ∃ t, l.getD q (0, 0, 0) = t := ⟨_, rfl⟩
      rw [ht] at x1 x2 x3
      obtain ⟨U, R, V⟩ := t
      subst hA
      subst hA1
      have k0 := (HB.out.cell (p := ⟨b1, off1 + k, none⟩) (by show b1 < _; omega)).trans x0
      have k1 := (HB.out.cell (p := ⟨b, off + q * 3, none⟩) (by show b < _; omega)).trans x1
      have k2 := (HB.out.cell (p := ⟨b, off + q * 3 + 1, none⟩) (by show b < _; omega)).trans x2
      have k3 := (HB.out.cell (p := ⟨b, off + q * 3 + 2, none⟩) (by show b < _; omega)).trans x3
      have HT : Hid (Cs.pickC l (is.take (k + 1)) = Cs.pickC l (is.take k) ++ [(U, R, V)]) := by
        show _ = _
        rw [List.take_succ_eq_append_getElem hkl, pickC_snoc]
        have : is[k] = q := by rw [← hq, List.getD_eq_getElem?_getD, List.getElem?_eq_getElem hkl]; rfl
        rw [this, ht]
      have hown := HO.out
      clear hc hc1 ht hq x0 x1 x2 x3
      go_wp2_with (at_builtin; refine wpList_append_own _ rfl (.tmp 17) (.tmp 22) 24 rfl w.heap.size 34 i0 (.agg #[.int .i64 0, .int .i64 0, .int .i64 0]) 3 24 Try.underlying24 hi hz0 hz1 hz2 rfl (by decide) (.slice (some ⟨g2, 0, none⟩) k c2) k (conCells (Cs.pickC l (is.take k))) rfl (hown.alloc _) ⟨wr.heap.size, 0, none⟩ 1 1 (conCells [(U, R, V)]) rfl rfl (con_new wr U R V) (conCells_one _) (by unfold maxLen; omega) (by omega) (by simp; omega) ?_; intro v' w3 hown' hgrow hnil)
      obtain ⟨g3, c3, rfl⟩ : ∃ g' c', v' = .slice (some ⟨g', 0, none⟩) (k + 1) c' := by
        rcases hown'.2 with ⟨h0, _⟩ | ⟨g', c', _, h0, _⟩
        · have := (hnil.1 h0).1
          cases this
        · exact ⟨g', c', h0⟩
      have HB3 : Hid (Below w.heap.size w w3) := (HB.out.alloc hszr _).grown hgrow (by simp; omega) (fun x h => (hown.lt x h).1)
      have HO3 : Hid (OwnC w3 w.heap.size (some ⟨g3, 0, none⟩) (k + 1) c3 (Cs.pickC l (is.take (k + 1)))) := by
        show OwnC _ _ _ _ _ _
        rw [HT.out]
        unfold OwnC
        rw [conCells_append]
        exact hown'
      clear hown hown' hgrow hnil
      go_wp2
      go_roundw
      case rel => exact ⟨k + 1, g3, c3, by omega, by go_num, rfl, HO3.out, HB3.out⟩
      case measure => simp [intOf]; omega
    · obtain rfl : k = m := by omega
      have hkk : ¬ (k : Int) < (k : Int) := by omega
      rw [List.take_of_length_le (by rw [HIL.out]; exact Nat.le_refl _)] at HO
      go_wp2
      go_ret
      exact ⟨g2, c2, rfl, HO.out, HB.out⟩
end Go.Proofs.Ytmmhcpigcdlnmaa
