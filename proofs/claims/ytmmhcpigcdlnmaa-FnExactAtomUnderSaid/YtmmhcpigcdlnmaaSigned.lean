/- A list of constraints with those of a sign: signedList of the program, l05Signed of the reference model. -/
import Derived.Test.YtmmhcpigcdlnmaaSkip
import Derived.Test.YtmmhcpigcdlnmaaSgHas
import Derived.Lib.SliceRun

namespace Go.Proofs.Ytmmhcpigcdlnmaa
open Go.RowKit
open Cs (Cn Tb)

theorem con_news {w : World} {B n b off : Nat} {l : List Cn} (h : ConR w B (some ⟨b, off, none⟩) n l) : ∀ j u, (conCells l)[j]? = some u → w.cell? ((⟨b, off, none⟩ : Addr).add j) = some u := fun j u hu => by
  have hj := (List.getElem?_eq_some_iff.1 hu).1
  rw [conCells_len, h.1] at hj
  obtain ⟨b', off', e, _, hc⟩ := h.2 (by omega)
  injection e with e
  injection e with e1 e2
  subst e1; subst e2
  have hadd : (⟨b, off, none⟩ : Addr).add j = ⟨b, off + j, none⟩ := by
    unfold Addr.add
    by_cases h : j = 0
    · subst h; rfl
    · rw [if_neg h]
  rw [hadd]
  obtain ⟨k, hk⟩ : ∃ k, j = k * 3 ∨ j = k * 3 + 1 ∨ j = k * 3 + 2 := ⟨j / 3, by omega⟩
  have hat := conCells_at l k (by rw [h.1]; omega)
  obtain ⟨x1, x2, x3⟩ := hc k (by omega)
  rcases hk with rfl | rfl | rfl
  · rw [hat.1] at hu; rw [x1]; exact hu
  · rw [hat.2.1] at hu; rw [← Nat.add_assoc, x2]; exact hu
  · rw [hat.2.2] at hu; rw [← Nat.add_assoc, x3]; exact hu
/-- the list with the constraints of the first k parameters -/
def signTo (l : List Cn) (s : Int) (k : Nat) : List Cn := l ++ (List.range k).map fun (p : Nat) => Cs.signC (Sg.has s (p : Int)) p
theorem signTo_zero (l : List Cn) (s : Int) : signTo l s 0 = l := by simp [signTo]
theorem signTo_succ (l : List Cn) (s : Int) (k : Nat) : signTo l s (k + 1) = signTo l s k ++ [Cs.signC (Sg.has s (k : Int)) k] := by simp [signTo, List.range_succ]
theorem signTo_len (l : List Cn) (s : Int) (k : Nat) : (signTo l s k).length = l.length + k := by simp [signTo]
theorem signTo_all (l : List Cn) (s : Int) : signTo l s 5 = Cs.signed l fun p => Sg.has s (p : Int) := rfl
/-- what the two give back -/
def SgnOut (w : World) (l : List Cn) (s : Int) (n : Nat) (e : Ending) (w' : World) : Prop :=
  ∃ g2 c2, e = .returned (.slice (some ⟨g2, 0, none⟩) (n + 5) c2) ∧ OwnC w' w.heap.size (some ⟨g2, 0, none⟩) (n + 5) c2 (Cs.signed l fun p => Sg.has s (p : Int)) ∧ Below w.heap.size w w'

set_option maxRecDepth 100000 in
set_option maxHeartbeats 800000 in
theorem cloneC_any (w : World) (B b off n c : Nat) (l : List Cn) (hB : B ≤ w.heap.size) (hl : ConR w B (some ⟨b, off, none⟩) n l) (hn : n ≤ 1000) :
    Calls Try.prog 93 #[.slice (some ⟨b, off, none⟩) n c] w fun e w' => ∃ g2 c2, e = .returned (.slice (some ⟨g2, 0, none⟩) n c2) ∧ OwnC w' w.heap.size (some ⟨g2, 0, none⟩) n c2 l ∧ Below w.heap.size w w' := by
  obtain ⟨i0, hi, hz0, hz1, hz2⟩ := info_parts info_con
  have hb0 : Below w.heap.size w (w.alloc (.cells #[] 34)) := (Below.refl _ _).alloc (Nat.le_refl _) _
  have ho0 : OwnC (w.alloc (.cells #[] 34)) w.heap.size (some ⟨w.heap.size, 0, none⟩) 0 0 [] := World.ownsRow_made w #[] 0 (Nat.le_refl _) (by simp [maxLen]) (by simp)
  have hnews := con_news (hl.below (hb0.mono hB))
  have hcl : (conCells l).length = n * 3 := by rw [conCells_len, hl.1]
  have hnil := Lib.run_eql_slice_nil (P := Try.prog)
  clear hl
  go_enter Try.func93, Try.ntmps93
  go_wp2_with (at_builtin; refine wpList_append_own _ rfl (.tmp 5) (.tmp 6) 24 rfl w.heap.size 34 i0 (.agg #[.int .i64 0, .int .i64 0, .int .i64 0]) 3 24 Try.underlying24 hi hz0 hz1 hz2 rfl (by decide) (.slice (some ⟨w.heap.size, 0, none⟩) 0 0) 0 (conCells []) rfl ho0 ⟨b, off, none⟩ n c (conCells l) rfl hcl hnews (conCells_one l) (by unfold maxLen; omega) (by omega) (by simp) ?_; intro v' w3 hown' hgrow hnil)
  obtain ⟨g', cap', rfl⟩ : ∃ g' cap', v' = .slice (some ⟨g', 0, none⟩) n cap' := by
    rcases hown'.2 with ⟨h0, _⟩ | ⟨g', cap', _, h0, _⟩
    · have := (hnil.1 h0).1
      cases this
    · rw [Nat.zero_add] at h0; exact ⟨g', cap', h0⟩
  have HB3 : Hid (Below w.heap.size w w3) := hb0.grown hgrow (by simp) (fun k h => by have h' : w.heap.size = k := (by simpa [Value.ownBlock] using h); omega)
  have HW0 : Hid (OwnC w3 w.heap.size (some ⟨g', 0, none⟩) n cap' l) := by
    have h := hown'
    rw [conCells_nil, List.nil_append, Nat.zero_add] at h
    exact h
  clear hown' hgrow hnil ho0 hb0 hnews
  go_wp2
  go_ret
  exact ⟨g', cap', rfl, HW0.out, HB3.out⟩

set_option maxRecDepth 100000 in
set_option maxHeartbeats 1600000 in
theorem signedList_any (w : World) (B b off n c : Nat) (l : List Cn) (s : Int) (hB : B ≤ w.heap.size) (hl : ConR w B (some ⟨b, off, none⟩) n l) (hn : n ≤ 900) :
    Calls Try.prog 74 #[.slice (some ⟨b, off, none⟩) n c, .int .i64 s] w (SgnOut w l s n) := by
  obtain ⟨i0, hi, hz0, hz1, hz2⟩ := info_parts info_con
  have HL := Lib.hid hl
  clear hl
  go_enter Try.func74, Try.ntmps74
  go_wp2_with fail
  refine (cloneC_any w B b off n c l hB HL.out (by omega)).mono ?_
  rintro e w1 ⟨g1, c1, rfl, ho1, hb1⟩
  have HO1 : Hid (OwnC w1 w.heap.size (some ⟨g1, 0, none⟩) n c1 (signTo l s 0)) := by show OwnC _ _ _ _ _ _; rw [signTo_zero]; exact ho1
  have HB1 := Lib.hid hb1
  clear ho1 hb1
  go_wp2
  go_loopw [9, 5] (fun i v wr => ∃ (k m g2 c2 : Nat), k ≤ 5 ∧ i = .int .i64 k ∧ m = n + k ∧ v = .slice (some ⟨g2, 0, none⟩) m c2 ∧ Hid (OwnC wr w.heap.size (some ⟨g2, 0, none⟩) m c2 (signTo l s k)) ∧ Hid (Below w.heap.size w wr)) (fun i _ _ => 5 - (intOf i).toNat)
  case atStart => exact ⟨0, n, g1, c1, by omega, rfl, rfl, rfl, HO1.out, HB1.out⟩
  case round =>
    clear HO1 HB1
    obtain ⟨k, m, g2, c2, hk, rfl, hmk, rfl, HO, HB⟩ := hrel
    have HMK := Lib.hid hmk
    have hm1 : m ≤ 905 := by omega
    have hmn : n ≤ m := by omega
    clear hmk
    have hszr := HB.out.size
    by_cases hlt : k < 5
    · have hki : (k : Int) < 5 := by omega
      have HST := Lib.hid (signTo_succ l s k)
      have hown := HO.out
      go_wp2_with fail
      refine (implSignHas_any wr s k).mono ?_
      rintro e w2 ⟨rfl, hw⟩
      obtain rfl : wr = w2 := hw.symm
      cases hh : Sg.has s (k : Int) with
      | true =>
        rw [hh] at HST
        clear hh
        go_wp2_with (at_builtin; refine wpList_append_own _ rfl (.tmp 15) (.tmp 18) 24 rfl w.heap.size 34 i0 (.agg #[.int .i64 0, .int .i64 0, .int .i64 0]) 3 24 Try.underlying24 hi hz0 hz1 hz2 rfl (by decide) (.slice (some ⟨g2, 0, none⟩) m c2) m (conCells (signTo l s k)) rfl (hown.alloc _) ⟨wr.heap.size, 0, none⟩ 1 1 (conCells [(-1, 1, (k : Int))]) rfl rfl (con_new wr (-1) 1 k) (conCells_one _) (by unfold maxLen; omega) (by omega) (by simp; omega) ?_; intro v' w3 hown' hgrow hnil)
        obtain ⟨g3, c3, rfl⟩ : ∃ g' c', v' = .slice (some ⟨g', 0, none⟩) (m + 1) c' := by
          rcases hown'.2 with ⟨h0, _⟩ | ⟨g', c', _, h0, _⟩
          · have := (hnil.1 h0).1
            cases this
          · exact ⟨g', c', h0⟩
        have HB3 : Hid (Below w.heap.size w w3) := (HB.out.alloc hszr _).grown hgrow (by simp; omega) (fun x h => (hown.lt x h).1)
        have HO3 : Hid (OwnC w3 w.heap.size (some ⟨g3, 0, none⟩) (m + 1) c3 (signTo l s (k + 1))) := by
          show OwnC _ _ _ _ _ _
          rw [HST.out]
          unfold OwnC
          rw [conCells_append]
          exact hown'
        clear hown hown' hgrow hnil
        go_wp2
        go_roundw
        case rel => exact ⟨k + 1, m + 1, g3, c3, by omega, by go_num, by have := HMK.out; omega, rfl, HO3.out, HB3.out⟩
        case measure => simp [intOf]; omega
      | false =>
        rw [hh] at HST
        clear hh
        go_wp2_with (at_builtin; refine wpList_append_own _ rfl (.tmp 20) (.tmp 23) 24 rfl w.heap.size 34 i0 (.agg #[.int .i64 0, .int .i64 0, .int .i64 0]) 3 24 Try.underlying24 hi hz0 hz1 hz2 rfl (by decide) (.slice (some ⟨g2, 0, none⟩) m c2) m (conCells (signTo l s k)) rfl (hown.alloc _) ⟨wr.heap.size, 0, none⟩ 1 1 (conCells [((k : Int), 0, -1)]) rfl rfl (con_new wr k 0 (-1)) (conCells_one _) (by unfold maxLen; omega) (by omega) (by simp; omega) ?_; intro v' w3 hown' hgrow hnil)
        obtain ⟨g3, c3, rfl⟩ : ∃ g' c', v' = .slice (some ⟨g', 0, none⟩) (m + 1) c' := by
          rcases hown'.2 with ⟨h0, _⟩ | ⟨g', c', _, h0, _⟩
          · have := (hnil.1 h0).1
            cases this
          · exact ⟨g', c', h0⟩
        have HB3 : Hid (Below w.heap.size w w3) := (HB.out.alloc hszr _).grown hgrow (by simp; omega) (fun x h => (hown.lt x h).1)
        have HO3 : Hid (OwnC w3 w.heap.size (some ⟨g3, 0, none⟩) (m + 1) c3 (signTo l s (k + 1))) := by
          show OwnC _ _ _ _ _ _
          rw [HST.out]
          unfold OwnC
          rw [conCells_append]
          exact hown'
        clear hown hown' hgrow hnil
        go_wp2
        go_roundw
        case rel => exact ⟨k + 1, m + 1, g3, c3, by omega, by go_num, by have := HMK.out; omega, rfl, HO3.out, HB3.out⟩
        case measure => simp [intOf]; omega
    · have hkk : ¬ (k : Int) < 5 := by omega
      obtain rfl : k = 5 := by omega
      rw [signTo_all] at HO
      have hmm := HMK.out
      go_wp2
      go_ret
      subst hmm
      exact ⟨g2, c2, rfl, HO.out, HB.out⟩

set_option maxRecDepth 100000 in
set_option maxHeartbeats 1600000 in
theorem l05Signed_any (w : World) (B b off n c : Nat) (l : List Cn) (s : Int) (hB : B ≤ w.heap.size) (hl : ConR w B (some ⟨b, off, none⟩) n l) (hn : n ≤ 900) :
    Calls Try.prog 75 #[.slice (some ⟨b, off, none⟩) n c, .int .i64 s] w (SgnOut w l s n) := by
  obtain ⟨i0, hi, hz0, hz1, hz2⟩ := info_parts info_con
  have HL := Lib.hid hl
  clear hl
  go_enter Try.func75, Try.ntmps75
  have hb0 : Below w.heap.size w (w.alloc (.cells #[] 34)) := (Below.refl _ _).alloc (Nat.le_refl _) _
  have ho0 : OwnC (w.alloc (.cells #[] 34)) w.heap.size (some ⟨w.heap.size, 0, none⟩) 0 0 [] := World.ownsRow_made w #[] 0 (Nat.le_refl _) (by simp [maxLen]) (by simp)
  have hnews := con_news (HL.out.below (hb0.mono hB))
  have hcl : (conCells l).length = n * 3 := by rw [conCells_len, HL.out.1]
  go_wp2_with (at_builtin; refine wpList_append_own _ rfl (.tmp 7) (.tmp 8) 24 rfl w.heap.size 34 i0 (.agg #[.int .i64 0, .int .i64 0, .int .i64 0]) 3 24 Try.underlying24 hi hz0 hz1 hz2 rfl (by decide) (.slice (some ⟨w.heap.size, 0, none⟩) 0 0) 0 (conCells []) rfl ho0 ⟨b, off, none⟩ n c (conCells l) rfl hcl hnews (conCells_one l) (by unfold maxLen; omega) (by omega) (by simp) ?_; intro v' w1 hown' hgrow hnil)
  obtain ⟨g1, c1, rfl⟩ : ∃ g' cap', v' = .slice (some ⟨g', 0, none⟩) n cap' := by
    rcases hown'.2 with ⟨h0, _⟩ | ⟨g', cap', _, h0, _⟩
    · have := (hnil.1 h0).1
      cases this
    · rw [Nat.zero_add] at h0; exact ⟨g', cap', h0⟩
  have HB1 : Hid (Below w.heap.size w w1) := hb0.grown hgrow (by simp) (fun k h => by have h' : w.heap.size = k := (by simpa [Value.ownBlock] using h); omega)
  have HO1 : Hid (OwnC w1 w.heap.size (some ⟨g1, 0, none⟩) n c1 (signTo l s 0)) := by
    show OwnC _ _ _ _ _ _
    have h := hown'
    rw [conCells_nil, List.nil_append, Nat.zero_add] at h
    rw [signTo_zero]
    exact h
  clear hown' hgrow hnil ho0 hb0 hnews hcl
  go_wp2
  go_loopw [6, 5] (fun i v wr => ∃ (k m g2 c2 : Nat), k ≤ 5 ∧ i = .int .i64 k ∧ m = n + k ∧ v = .slice (some ⟨g2, 0, none⟩) m c2 ∧ Hid (OwnC wr w.heap.size (some ⟨g2, 0, none⟩) m c2 (signTo l s k)) ∧ Hid (Below w.heap.size w wr)) (fun i _ _ => 5 - (intOf i).toNat)
  case atStart => exact ⟨0, n, g1, c1, by omega, rfl, rfl, rfl, HO1.out, HB1.out⟩
  case round =>
    clear HO1 HB1
    obtain ⟨k, m, g2, c2, hk, rfl, hmk, rfl, HO, HB⟩ := hrel
    have HMK := Lib.hid hmk
    have hm1 : m ≤ 905 := by omega
    have hmn : n ≤ m := by omega
    clear hmk
    have hszr := HB.out.size
    by_cases hlt : k < 5
    · have hki : (k : Int) < 5 := by omega
      have HST := Lib.hid (signTo_succ l s k)
      have hown := HO.out
      go_wp2_with fail
      refine (specSignHas_any wr s k).mono ?_
      rintro e w2 ⟨rfl, hw⟩
      obtain rfl : wr = w2 := hw.symm
      cases hh : Sg.has s (k : Int) with
      | true =>
        rw [hh] at HST
        clear hh
        go_wp2_with (at_builtin; refine wpList_append_own _ rfl (.tmp 17) (.tmp 20) 24 rfl w.heap.size 34 i0 (.agg #[.int .i64 0, .int .i64 0, .int .i64 0]) 3 24 Try.underlying24 hi hz0 hz1 hz2 rfl (by decide) (.slice (some ⟨g2, 0, none⟩) m c2) m (conCells (signTo l s k)) rfl (hown.alloc _) ⟨wr.heap.size, 0, none⟩ 1 1 (conCells [(-1, 1, (k : Int))]) rfl rfl (con_new wr (-1) 1 k) (conCells_one _) (by unfold maxLen; omega) (by omega) (by simp; omega) ?_; intro v' w3 hown' hgrow hnil)
        obtain ⟨g3, c3, rfl⟩ : ∃ g' c', v' = .slice (some ⟨g', 0, none⟩) (m + 1) c' := by
          rcases hown'.2 with ⟨h0, _⟩ | ⟨g', c', _, h0, _⟩
          · have := (hnil.1 h0).1
            cases this
          · exact ⟨g', c', h0⟩
        have HB3 : Hid (Below w.heap.size w w3) := (HB.out.alloc hszr _).grown hgrow (by simp; omega) (fun x h => (hown.lt x h).1)
        have HO3 : Hid (OwnC w3 w.heap.size (some ⟨g3, 0, none⟩) (m + 1) c3 (signTo l s (k + 1))) := by
          show OwnC _ _ _ _ _ _
          rw [HST.out]
          unfold OwnC
          rw [conCells_append]
          exact hown'
        clear hown hown' hgrow hnil
        go_wp2
        go_roundw
        case rel => exact ⟨k + 1, m + 1, g3, c3, by omega, by go_num, by have := HMK.out; omega, rfl, HO3.out, HB3.out⟩
        case measure => simp [intOf]; omega
      | false =>
        rw [hh] at HST
        clear hh
        go_wp2_with (at_builtin; refine wpList_append_own _ rfl (.tmp 22) (.tmp 25) 24 rfl w.heap.size 34 i0 (.agg #[.int .i64 0, .int .i64 0, .int .i64 0]) 3 24 Try.underlying24 hi hz0 hz1 hz2 rfl (by decide) (.slice (some ⟨g2, 0, none⟩) m c2) m (conCells (signTo l s k)) rfl (hown.alloc _) ⟨wr.heap.size, 0, none⟩ 1 1 (conCells [((k : Int), 0, -1)]) rfl rfl (con_new wr k 0 (-1)) (conCells_one _) (by unfold maxLen; omega) (by omega) (by simp; omega) ?_; intro v' w3 hown' hgrow hnil)
        obtain ⟨g3, c3, rfl⟩ : ∃ g' c', v' = .slice (some ⟨g', 0, none⟩) (m + 1) c' := by
          rcases hown'.2 with ⟨h0, _⟩ | ⟨g', c', _, h0, _⟩
          · have := (hnil.1 h0).1
            cases this
          · exact ⟨g', c', h0⟩
        have HB3 : Hid (Below w.heap.size w w3) := (HB.out.alloc hszr _).grown hgrow (by simp; omega) (fun x h => (hown.lt x h).1)
        have HO3 : Hid (OwnC w3 w.heap.size (some ⟨g3, 0, none⟩) (m + 1) c3 (signTo l s (k + 1))) := by
          show OwnC _ _ _ _ _ _
          rw [HST.out]
          unfold OwnC
          rw [conCells_append]
          exact hown'
        clear hown hown' hgrow hnil
        go_wp2
        go_roundw
        case rel => exact ⟨k + 1, m + 1, g3, c3, by omega, by go_num, by have := HMK.out; omega, rfl, HO3.out, HB3.out⟩
        case measure => simp [intOf]; omega
    · have hkk : ¬ (k : Int) < 5 := by omega
      obtain rfl : k = 5 := by omega
      rw [signTo_all] at HO
      have hmm := HMK.out
      go_wp2
      go_ret
      subst hmm
      exact ⟨g2, c2, rfl, HO.out, HB.out⟩
end Go.Proofs.Ytmmhcpigcdlnmaa
