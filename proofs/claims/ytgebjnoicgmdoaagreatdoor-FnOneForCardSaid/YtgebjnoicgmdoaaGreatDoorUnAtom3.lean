/- signedList and signedPaths of the program for whatever list, nil too. -/
/- AtomUnder of the program. -/
import Derived.Test.YtgebjnoicgmdoaaGreatDoorUnMath
import Derived.Test.YtgebjnoicgmdoaaGreatDoorROk
import Derived.Test.YtgebjnoicgmdoaaGreatDoorNMath4

namespace Go.Proofs.YtgebjnoicgmdoaaGreatDoor
open Go.RowKit
open Cs (Cn Tb)

/-- a slice value that can be: it lies somewhere, or it is nil -/
def SlOk (A : Option Addr) (n c : Nat) : Prop := (∃ b off, A = some ⟨b, off, none⟩) ∨ (A = none ∧ n = 0 ∧ c = 0)
theorem own_ge {w : World} {base size n : Nat} {e : TypeId} {v : Value} {xs : List Value} (h : w.ownsRow base e size v n xs) {x : Nat} (hx : v.ownBlock = some x) : base ≤ x := (h.lt x hx).1
set_option maxRecDepth 100000 in
set_option maxHeartbeats 800000 in
theorem cloneC_all (w : World) (B : Nat) (A : Option Addr) (n c : Nat) (l : List Cn) (hA : SlOk A n c) (hB : B ≤ w.heap.size) (hl : ConR w B A n l) (hn : n ≤ 1000) :
    Calls Tryz.prog 145 #[.slice A n c] w fun e w' => ∃ A2 c2, e = .returned (.slice A2 n c2) ∧ OwnC w' w.heap.size A2 n c2 l ∧ Below w.heap.size w w' := by
  rcases hA with ⟨b, off, rfl⟩ | ⟨rfl, rfl, rfl⟩
  · refine (cloneC_any w B b off n c l hB hl hn).mono ?_
    rintro e w1 ⟨g2, c2, rfl, ho, hb⟩
    exact ⟨_, c2, rfl, ho, hb⟩
  · have hnil := Lib.run_eql_slice_nil (P := Tryz.prog)
    have hl0 : l = [] := List.eq_nil_of_length_eq_zero hl.1
    subst hl0
    clear hl
    go_enter Tryz.func145, Tryz.ntmps145
    go_wp2
    go_ret
    exact ⟨none, 0, rfl, World.ownsRow_nil _ _ _ _, Below.refl _ _⟩

set_option maxRecDepth 100000 in
set_option maxHeartbeats 1600000 in
theorem signedList_all (w : World) (B : Nat) (A : Option Addr) (n c : Nat) (l : List Cn) (s : Int) (hB : B ≤ w.heap.size) (hA : SlOk A n c) (hl : ConR w B A n l) (hn : n ≤ 900) :
    Calls Tryz.prog 121 #[.slice A n c, .int .i64 s] w (SgnOut w l s n) := by
  obtain ⟨i0, hi, hz0, hz1, hz2⟩ := info_parts info_con
  have HL := Lib.hid hl
  clear hl
  go_enter Tryz.func121, Tryz.ntmps121
  go_wp2_with fail
  refine (cloneC_all w B A n c l hA hB HL.out (by omega)).mono ?_
  rintro e w1 ⟨A1, c1, rfl, ho1, hb1⟩
  have HO1 : Hid (OwnC w1 w.heap.size A1 n c1 (signTo l s 0)) := by show OwnC _ _ _ _ _ _; rw [signTo_zero]; exact ho1
  have HB1 := Lib.hid hb1
  clear ho1 hb1
  go_wp2
  go_loopw [9, 5] (fun i v wr => ∃ (k m : Nat) (A2 : Option Addr) (c2 : Nat), k ≤ 5 ∧ i = .int .i64 k ∧ m = n + k ∧ v = .slice A2 m c2 ∧ Hid (OwnC wr w.heap.size A2 m c2 (signTo l s k)) ∧ Hid (Below w.heap.size w wr)) (fun i _ _ => 5 - (intOf i).toNat)
  case atStart => exact ⟨0, n, A1, c1, by omega, rfl, rfl, rfl, HO1.out, HB1.out⟩
  case round =>
    clear HO1 HB1
    obtain ⟨k, m, A2, c2, hk, rfl, hmk, rfl, HO, HB⟩ := hrel
    have HMK := Lib.hid hmk
    have hm1 : m ≤ 905 := by omega
    have hmn : n ≤ m := by omega
    clear hmk
    have hszr := HB.out.size
    by_cases hlt : k < 5
    · have hki : (k : Int) < 5 := by omega
      have HST := Lib.hid (signTo_succ l s k)
      have hown := HO.out
      go_wp2_with fail
      refine (implSignHas_any wr s k).mono ?_
      rintro e w2 ⟨rfl, hw⟩
      obtain rfl : wr = w2 := hw.symm
      cases hh : Sg.has s (k : Int) with
      | true =>
        rw [hh] at HST
        clear hh
        go_wp2_with (at_builtin; refine wpList_append_own _ rfl (.tmp 15) (.tmp 18) 24 rfl w.heap.size 41 i0 (.agg #[.int .i64 0, .int .i64 0, .int .i64 0]) 3 24 Tryz.underlying24 hi hz0 hz1 hz2 rfl (by decide) (.slice A2 m c2) m (conCells (signTo l s k)) rfl (hown.alloc _) ⟨wr.heap.size, 0, none⟩ 1 1 (conCells [(-1, 1, (k : Int))]) rfl rfl (con_new wr (-1) 1 k) (conCells_one _) (by unfold maxLen; omega) (by omega) (by simp; omega) ?_; intro v' w3 hown' hgrow hnil)
        obtain ⟨g3, c3, rfl⟩ : ∃ g' c', v' = .slice (some ⟨g', 0, none⟩) (m + 1) c' := by
          rcases hown'.2 with ⟨h0, h1⟩ | ⟨g', c', _, h0, _⟩
          · omega
          · exact ⟨g', c', h0⟩
        have HB3 : Hid (Below w.heap.size w w3) := (HB.out.alloc hszr _).grown hgrow (by simp; omega) (fun x h => (own_ge (v := .slice A2 m c2) hown h))
        have HO3 : Hid (OwnC w3 w.heap.size (some ⟨g3, 0, none⟩) (m + 1) c3 (signTo l s (k + 1))) := by
          show OwnC _ _ _ _ _ _
          rw [HST.out]
          unfold OwnC
          rw [conCells_append]
          exact hown'
        clear hown hown' hgrow hnil
        go_wp2
        go_roundw
        case rel => exact ⟨k + 1, m + 1, _, c3, by omega, by go_num, by have := HMK.out; omega, rfl, HO3.out, HB3.out⟩
        case measure => simp [intOf]; omega
      | false =>
        rw [hh] at HST
        clear hh
        go_wp2_with (at_builtin; refine wpList_append_own _ rfl (.tmp 20) (.tmp 23) 24 rfl w.heap.size 41 i0 (.agg #[.int .i64 0, .int .i64 0, .int .i64 0]) 3 24 Tryz.underlying24 hi hz0 hz1 hz2 rfl (by decide) (.slice A2 m c2) m (conCells (signTo l s k)) rfl (hown.alloc _) ⟨wr.heap.size, 0, none⟩ 1 1 (conCells [((k : Int), 0, -1)]) rfl rfl (con_new wr k 0 (-1)) (conCells_one _) (by unfold maxLen; omega) (by omega) (by simp; omega) ?_; intro v' w3 hown' hgrow hnil)
        obtain ⟨g3, c3, rfl⟩ : ∃ g' c', v' = .slice (some ⟨g', 0, none⟩) (m + 1) c' := by
          rcases hown'.2 with ⟨h0, h1⟩ | ⟨g', c', _, h0, _⟩
          · omega
          · exact ⟨g', c', h0⟩
        have HB3 : Hid (Below w.heap.size w w3) := (HB.out.alloc hszr _).grown hgrow (by simp; omega) (fun x h => (own_ge (v := .slice A2 m c2) hown h))
        have HO3 : Hid (OwnC w3 w.heap.size (some ⟨g3, 0, none⟩) (m + 1) c3 (signTo l s (k + 1))) := by
          show OwnC _ _ _ _ _ _
          rw [HST.out]
          unfold OwnC
          rw [conCells_append]
          exact hown'
        clear hown hown' hgrow hnil
        go_wp2
        go_roundw
        case rel => exact ⟨k + 1, m + 1, _, c3, by omega, by go_num, by have := HMK.out; omega, rfl, HO3.out, HB3.out⟩
        case measure => simp [intOf]; omega
    · have hkk : ¬ (k : Int) < 5 := by omega
      obtain rfl : k = 5 := by omega
      rw [signTo_all] at HO
      have hmm := HMK.out
      obtain ⟨g2, hg2⟩ : ∃ g2, A2 = some ⟨g2, 0, none⟩ := by
        rcases HO.out.2 with ⟨h0, h1⟩ | ⟨g', cap, cur, hv, _⟩
        · omega
        · injection hv with e1 e2 e3
          exact ⟨g', e1⟩
      subst hg2
      go_wp2
      go_ret
      subst hmm
      exact ⟨g2, c2, rfl, HO.out, HB.out⟩

set_option maxRecDepth 100000 in
set_option maxHeartbeats 1600000 in
theorem signedPaths_all (w : World) (B : Nat) (A : Option Addr) (n c : Nat) (l : List Cn) (s : Int) (hA : SlOk A n c) (hB : B ≤ w.heap.size) (hl : ConR w B A n l) (hn : (n : Int) ≤ 140737488355328) :
    Calls Tryz.prog 92 #[.slice A n c, .int .i64 s] w fun e w' => e = .returned (.tuple #[tabV (sgnT l s), .bool (sgnB l s)]) ∧ Below w.heap.size w w' := by
  have hz := zeros_tab
  obtain ⟨W0, hW0⟩ : ∃ W, w.alloc (.cells (tabA zeroT) 85) = W := ⟨_, rfl⟩
  have hb0 : Below w.heap.size w W0 := by rw [← hW0]; exact (Below.refl _ _).alloc (Nat.le_refl _) _
  have hs0 : W0.heap.size = w.heap.size + 1 := by rw [← hW0]; simp
  have hk0 : Blk W0 w.heap.size 85 (tabA zeroT) := by rw [← hW0]; exact Blk.made _ _ _
  have HL := Lib.hid (hl.below (hb0.mono hB))
  have HB0 := Lib.hid hb0
  have HK0 := Lib.hid hk0
  clear hl hb0 hk0
  go_enter Tryz.func92, Tryz.ntmps92
  go_wp2_with fail
  refine (implConsOk_any W0 B A n c l (by omega) HL.out hn).mono ?_
  rintro e w1 ⟨rfl, hb1⟩
  have HB1 := Lib.hid (HB0.out.trans (hb1.mono (by omega)))
  have hs1 := hb1.size
  have HK1 := Lib.hid (Blk.below HK0.out hb1 (by omega))
  have HL1 := Lib.hid (HL.out.below (hb1.mono (by omega)))
  clear hb1 hW0
  have hbd := build_tab
  have c0 := HK1.out
  have HB6 : Hid (Below w.heap.size w (w1.setRow w.heap.size (tabA zeroT))) := (Wrote.row _ _ _).below HB1.out HB1.out.size (Nat.le_refl _)
  have HB7 : Hid (Blk (w1.setRow w.heap.size (tabA zeroT)) w.heap.size 85 (tabA zeroT)) := BlkT.lay c0 _
  cases hc : consOkR l with
  | false =>
    have HF := Lib.hid (sgnB_bad (s := s) hc)
    have HT := Lib.hid (sgnT_no (sgnB_bad (s := s) hc))
    clear hc
    go_wp2_with (refine wpList_store_row rfl 85 _ _ rfl w.heap.size (tabA zeroT) rfl rfl 85 (tabA zeroT) c0 (size_tab zeroT) rfl (tabA_one zeroT) ?_)
    refine bodyPost_ret (results_cell_tmp2 (p := 4) (q := 5) rfl _ _ w.heap.size 85 (tabA zeroT) (0, 0) _ rfl HB7.out Tryz.underlying85 rfl (size_tab _)) rfl ⟨?_, HB6.out⟩
    show Ending.returned (.tuple #[tabV zeroT, .bool false]) = _
    rw [HF.out, HT.out]
  | true =>
    have HC := Lib.hid hc
    have HP := Lib.hid (consOk_parts hc)
    have HN : Hid (n ≤ 24) := by
      show n ≤ 24
      have h := (consOkR_ok hc).2
      rw [HL1.out.1] at h
      exact h
    clear hc
    go_wp2_with fail
    refine (signOk_any w1 s).mono ?_
    rintro e w1' ⟨rfl, hw⟩
    obtain rfl : w1 = w1' := hw.symm
    cases hs : Sg.isSign s with
    | false =>
      have HF := Lib.hid (sgnB_not (l := l) hs)
      have HT := Lib.hid (sgnT_no (sgnB_not (l := l) hs))
      clear hs
      go_wp2_with (refine wpList_store_row rfl 85 _ _ rfl w.heap.size (tabA zeroT) rfl rfl 85 (tabA zeroT) c0 (size_tab zeroT) rfl (tabA_one zeroT) ?_)
      refine bodyPost_ret (results_cell_tmp2 (p := 4) (q := 5) rfl _ _ w.heap.size 85 (tabA zeroT) (0, 0) _ rfl HB7.out Tryz.underlying85 rfl (size_tab _)) rfl ⟨?_, HB6.out⟩
      show Ending.returned (.tuple #[tabV zeroT, .bool false]) = _
      rw [HF.out, HT.out]
    | true =>
      have HF := Lib.hid (sgnB_ok HC.out hs)
      have HT := Lib.hid (sgnT_long HC.out hs)
      clear hs c0 HB6 HB7 hbd
      have hn24 := HN.out
      go_wp2_with fail
      refine (signedList_all w1 B A n c l s (by omega) hA HL1.out (by omega)).mono ?_
      rintro e w2 ⟨g2, c2, rfl, ho2, hb2⟩
      have HR2 := Lib.hid (OwnC.reads ho2)
      have HB2 := Lib.hid (HB1.out.trans (hb2.mono (by omega)))
      have HK2 := Lib.hid (Blk.below HK1.out hb2 HK1.out.lt)
      have hs2 := hb2.size
      clear ho2 hb2
      go_wp2_with fail
      refine (longestPaths_any w2 w2.heap.size (some ⟨g2, 0, none⟩) (n + 5) c2 (Un.sgL l s) (Nat.le_refl _) HR2.out (Cs.signed_ok HP.out.1 _) (by omega)).mono ?_
      rintro e w3 ⟨rfl, hb3⟩
      rw [← HT.out, ← HF.out]
      obtain ⟨T, hT⟩ : ∃ T, sgnT l s = T := ⟨_, rfl⟩
      have HT2 := Lib.hid hT
      rw [hT]
      have HB3 := Lib.hid (HB2.out.trans (hb3.mono (by omega)))
      have c3 := Blk.below HK2.out hb3 HK2.out.lt
      clear hb3 hT
      have HB8 : Hid (Below w.heap.size w (w3.setRow w.heap.size (tabA T))) := (Wrote.row _ _ _).below HB3.out HB3.out.size (Nat.le_refl _)
      have HB9 : Hid (Blk (w3.setRow w.heap.size (tabA T)) w.heap.size 85 (tabA T)) := BlkT.lay c3 _
      go_wp2_with (refine wpList_store_row rfl 85 _ _ rfl w.heap.size (tabA T) rfl rfl 85 (tabA zeroT) c3 (size_tab T) rfl (tabA_one T) ?_)
      refine bodyPost_ret (results_cell_tmp2 (p := 4) (q := 5) rfl _ _ w.heap.size 85 (tabA T) (0, 0) _ rfl HB9.out Tryz.underlying85 rfl (size_tab _)) rfl ⟨?_, HB8.out⟩
      show Ending.returned (.tuple #[tabV T, .bool (sgnB l s)]) = _
      rw [HT2.out]

end Go.Proofs.YtgebjnoicgmdoaaGreatDoor

namespace Go.Proofs.YtgebjnoicgmdoaaGreatDoor
open Go.RowKit
open Cs (Cn Tb)

theorem sgnB_flat {l : List Cn} {s : Int} (h : sgnB l s = true) : Cs.flat (Un.sgL l s) = true := by
  unfold sgnB at h
  rw [Bool.and_eq_true] at h
  exact h.2
end Go.Proofs.YtgebjnoicgmdoaaGreatDoor
