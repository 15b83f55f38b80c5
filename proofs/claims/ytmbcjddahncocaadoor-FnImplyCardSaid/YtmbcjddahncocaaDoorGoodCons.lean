/- A list of constraints with those of a sign: signedList of the program, l05Signed of the reference model. -/
/- The cursor draws a list of constraints that can all hold: goodCons, given that con draws a constraint. -/
import Derived.Test.YtmbcjddahncocaaDoorSgHas
import Derived.Lib.SliceRun
import Derived.Test.YtmbcjddahncocaaDoorConDraw
import Derived.Test.YtmbcjddahncocaaDoorDrawN4

namespace Go.Proofs.YtmbcjddahncocaaDoor
open Go.RowKit
open Cs (Cn Tb)

theorem con_news {w : World} {B n b off : Nat} {l : List Cn} (h : ConR w B (some ⟨b, off, none⟩) n l) : ∀ j u, (conCells l)[j]? = some u → w.cell? ((⟨b, off, none⟩ : Addr).add j) = some u := fun j u hu => by
  have hj := (List.getElem?_eq_some_iff.1 hu).1
  rw [conCells_len, h.1] at hj
  obtain ⟨b', off', e, _, hc⟩ := h.2 (by omega)
  injection e with e
  injection e with e1 e2
  subst e1; subst e2
  have hadd : (⟨b, off, none⟩ : Addr).add j = ⟨b, off + j, none⟩ := by
    unfold Addr.add
    by_cases h : j = 0
    · subst h; rfl
    · rw [if_neg h]
  rw [hadd]
  obtain ⟨k, hk⟩ : ∃ k, j = k * 3 ∨ j = k * 3 + 1 ∨ j = k * 3 + 2 := ⟨j / 3, by omega⟩
  have hat := conCells_at l k (by rw [h.1]; omega)
  obtain ⟨x1, x2, x3⟩ := hc k (by omega)
  rcases hk with rfl | rfl | rfl
  · rw [hat.1] at hu; rw [x1]; exact hu
  · rw [hat.2.1] at hu; rw [← Nat.add_assoc, x2]; exact hu
  · rw [hat.2.2] at hu; rw [← Nat.add_assoc, x3]; exact hu
/-- the list with the constraints of the first k parameters -/
def signTo (l : List Cn) (s : Int) (k : Nat) : List Cn := l ++ (List.range k).map fun (p : Nat) => Cs.signC (Sg.has s (p : Int)) p
theorem signTo_zero (l : List Cn) (s : Int) : signTo l s 0 = l := by simp [signTo]
theorem signTo_succ (l : List Cn) (s : Int) (k : Nat) : signTo l s (k + 1) = signTo l s k ++ [Cs.signC (Sg.has s (k : Int)) k] := by simp [signTo, List.range_succ]
theorem signTo_all (l : List Cn) (s : Int) : signTo l s 5 = Cs.signed l fun p => Sg.has s (p : Int) := rfl
/-- what the two give back -/
def SgnOut (w : World) (l : List Cn) (s : Int) (n : Nat) (e : Ending) (w' : World) : Prop :=
  ∃ g2 c2, e = .returned (.slice (some ⟨g2, 0, none⟩) (n + 5) c2) ∧ OwnC w' w.heap.size (some ⟨g2, 0, none⟩) (n + 5) c2 (Cs.signed l fun p => Sg.has s (p : Int)) ∧ Below w.heap.size w w'

set_option maxRecDepth 100000 in
set_option maxHeartbeats 800000 in
theorem cloneC_any (w : World) (B b off n c : Nat) (l : List Cn) (hB : B ≤ w.heap.size) (hl : ConR w B (some ⟨b, off, none⟩) n l) (hn : n ≤ 1000) :
    Calls Tryd.prog 132 #[.slice (some ⟨b, off, none⟩) n c] w fun e w' => ∃ g2 c2, e = .returned (.slice (some ⟨g2, 0, none⟩) n c2) ∧ OwnC w' w.heap.size (some ⟨g2, 0, none⟩) n c2 l ∧ Below w.heap.size w w' := by
  obtain ⟨i0, hi, hz0, hz1, hz2⟩ := info_parts info_con
  have hb0 : Below w.heap.size w (w.alloc (.cells #[] 39)) := (Below.refl _ _).alloc (Nat.le_refl _) _
  have ho0 : OwnC (w.alloc (.cells #[] 39)) w.heap.size (some ⟨w.heap.size, 0, none⟩) 0 0 [] := World.ownsRow_made w #[] 0 (Nat.le_refl _) (by simp [maxLen]) (by simp)
  have hnews := con_news (hl.below (hb0.mono hB))
  have hcl : (conCells l).length = n * 3 := by rw [conCells_len, hl.1]
  have hnil := Lib.run_eql_slice_nil (P := Tryd.prog)
  clear hl
  go_enter Tryd.func132, Tryd.ntmps132
  go_wp2_with (at_builtin; refine wpList_append_own _ rfl (.tmp 5) (.tmp 6) 37 rfl w.heap.size 39 i0 (.agg #[.int .i64 0, .int .i64 0, .int .i64 0]) 3 24 Tryd.underlying37 hi hz0 hz1 hz2 rfl (by decide) (.slice (some ⟨w.heap.size, 0, none⟩) 0 0) 0 (conCells []) rfl ho0 ⟨b, off, none⟩ n c (conCells l) rfl hcl hnews (conCells_one l) (by unfold maxLen; omega) (by omega) (by simp) ?_; intro v' w3 hown' hgrow hnil)
  obtain ⟨g', cap', rfl⟩ : ∃ g' cap', v' = .slice (some ⟨g', 0, none⟩) n cap' := by
    rcases hown'.2 with ⟨h0, _⟩ | ⟨g', cap', _, h0, _⟩
    · have := (hnil.1 h0).1
      cases this
    · rw [Nat.zero_add] at h0; exact ⟨g', cap', h0⟩
  have HB3 : Hid (Below w.heap.size w w3) := hb0.grown hgrow (by simp) (fun k h => by have h' : w.heap.size = k := (by simpa [Value.ownBlock] using h); omega)
  have HW0 : Hid (OwnC w3 w.heap.size (some ⟨g', 0, none⟩) n cap' l) := by
    have h := hown'
    rw [conCells_nil, List.nil_append, Nat.zero_add] at h
    exact h
  clear hown' hgrow hnil ho0 hb0 hnews
  go_wp2
  go_ret
  exact ⟨g', cap', rfl, HW0.out, HB3.out⟩

set_option maxRecDepth 100000 in
set_option maxHeartbeats 1600000 in
theorem signedList_any (w : World) (B b off n c : Nat) (l : List Cn) (s : Int) (hB : B ≤ w.heap.size) (hl : ConR w B (some ⟨b, off, none⟩) n l) (hn : n ≤ 900) :
    Calls Tryd.prog 91 #[.slice (some ⟨b, off, none⟩) n c, .int .i64 s] w (SgnOut w l s n) := by
  obtain ⟨i0, hi, hz0, hz1, hz2⟩ := info_parts info_con
  have HL := Lib.hid hl
  clear hl
  go_enter Tryd.func91, Tryd.ntmps91
  go_wp2_with fail
  refine (cloneC_any w B b off n c l hB HL.out (by omega)).mono ?_
  rintro e w1 ⟨g1, c1, rfl, ho1, hb1⟩
  have HO1 : Hid (OwnC w1 w.heap.size (some ⟨g1, 0, none⟩) n c1 (signTo l s 0)) := by show OwnC _ _ _ _ _ _; rw [signTo_zero]; exact ho1
  have HB1 := Lib.hid hb1
  clear ho1 hb1
  go_wp2
  go_loopw [9, 5] (fun i v wr => ∃ (k m g2 c2 : Nat), k ≤ 5 ∧ i = .int .i64 k ∧ m = n + k ∧ v = .slice (some ⟨g2, 0, none⟩) m c2 ∧ Hid (OwnC wr w.heap.size (some ⟨g2, 0, none⟩) m c2 (signTo l s k)) ∧ Hid (Below w.heap.size w wr)) (fun i _ _ => 5 - (intOf i).toNat)
  case atStart => exact ⟨0, n, g1, c1, by omega, rfl, rfl, rfl, HO1.out, HB1.out⟩
  case round =>
    clear HO1 HB1
    obtain ⟨k, m, g2, c2, hk, rfl, hmk, rfl, HO, HB⟩ := hrel
    have HMK := Lib.hid hmk
    have hm1 : m ≤ 905 := by omega
    have hmn : n ≤ m := by omega
    clear hmk
    have hszr := HB.out.size
    by_cases hlt : k < 5
    · have hki : (k : Int) < 5 := by omega
      have HST := Lib.hid (signTo_succ l s k)
      have hown := HO.out
      go_wp2_with fail
      refine (implSignHas_any wr s k).mono ?_
      rintro e w2 ⟨rfl, hw⟩
      obtain rfl : wr = w2 := hw.symm
      cases hh : Sg.has s (k : Int) with
      | true =>
        rw [hh] at HST
        clear hh
        go_wp2_with (at_builtin; refine wpList_append_own _ rfl (.tmp 15) (.tmp 18) 37 rfl w.heap.size 39 i0 (.agg #[.int .i64 0, .int .i64 0, .int .i64 0]) 3 24 Tryd.underlying37 hi hz0 hz1 hz2 rfl (by decide) (.slice (some ⟨g2, 0, none⟩) m c2) m (conCells (signTo l s k)) rfl (hown.alloc _) ⟨wr.heap.size, 0, none⟩ 1 1 (conCells [(-1, 1, (k : Int))]) rfl rfl (con_new wr (-1) 1 k) (conCells_one _) (by unfold maxLen; omega) (by omega) (by simp; omega) ?_; intro v' w3 hown' hgrow hnil)
        obtain ⟨g3, c3, rfl⟩ : ∃ g' c', v' = .slice (some ⟨g', 0, none⟩) (m + 1) c' := by
          rcases hown'.2 with ⟨h0, _⟩ | ⟨g', c', _, h0, _⟩
          · have := (hnil.1 h0).1
            cases this
          · exact ⟨g', c', h0⟩
        have HB3 : Hid (Below w.heap.size w w3) := (HB.out.alloc hszr _).grown hgrow (by simp; omega) (fun x h => (hown.lt x h).1)
        have HO3 : Hid (OwnC w3 w.heap.size (some ⟨g3, 0, none⟩) (m + 1) c3 (signTo l s (k + 1))) := by
          show OwnC _ _ _ _ _ _
          rw [HST.out]
          unfold OwnC
          rw [conCells_append]
          exact hown'
        clear hown hown' hgrow hnil
        go_wp2
        go_roundw
        case rel => exact ⟨k + 1, m + 1, g3, c3, by omega, by go_num, by have := HMK.out; omega, rfl, HO3.out, HB3.out⟩
        case measure => simp [intOf]; omega
      | false =>
        rw [hh] at HST
        clear hh
        go_wp2_with (at_builtin; refine wpList_append_own _ rfl (.tmp 20) (.tmp 23) 37 rfl w.heap.size 39 i0 (.agg #[.int .i64 0, .int .i64 0, .int .i64 0]) 3 24 Tryd.underlying37 hi hz0 hz1 hz2 rfl (by decide) (.slice (some ⟨g2, 0, none⟩) m c2) m (conCells (signTo l s k)) rfl (hown.alloc _) ⟨wr.heap.size, 0, none⟩ 1 1 (conCells [((k : Int), 0, -1)]) rfl rfl (con_new wr k 0 (-1)) (conCells_one _) (by unfold maxLen; omega) (by omega) (by simp; omega) ?_; intro v' w3 hown' hgrow hnil)
        obtain ⟨g3, c3, rfl⟩ : ∃ g' c', v' = .slice (some ⟨g', 0, none⟩) (m + 1) c' := by
          rcases hown'.2 with ⟨h0, _⟩ | ⟨g', c', _, h0, _⟩
          · have := (hnil.1 h0).1
            cases this
          · exact ⟨g', c', h0⟩
        have HB3 : Hid (Below w.heap.size w w3) := (HB.out.alloc hszr _).grown hgrow (by simp; omega) (fun x h => (hown.lt x h).1)
        have HO3 : Hid (OwnC w3 w.heap.size (some ⟨g3, 0, none⟩) (m + 1) c3 (signTo l s (k + 1))) := by
          show OwnC _ _ _ _ _ _
          rw [HST.out]
          unfold OwnC
          rw [conCells_append]
          exact hown'
        clear hown hown' hgrow hnil
        go_wp2
        go_roundw
        case rel => exact ⟨k + 1, m + 1, g3, c3, by omega, by go_num, by have := HMK.out; omega, rfl, HO3.out, HB3.out⟩
        case measure => simp [intOf]; omega
    · have hkk : ¬ (k : Int) < 5 := by omega
      obtain rfl : k = 5 := by omega
      rw [signTo_all] at HO
      have hmm := HMK.out
      go_wp2
      go_ret
      subst hmm
      exact ⟨g2, c2, rfl, HO.out, HB.out⟩

set_option maxRecDepth 100000 in
set_option maxHeartbeats 1600000 in
theorem l05Signed_any (w : World) (B b off n c : Nat) (l : List Cn) (s : Int) (hB : B ≤ w.heap.size) (hl : ConR w B (some ⟨b, off, none⟩) n l) (hn : n ≤ 900) :
    Calls Tryd.prog 99 #[.slice (some ⟨b, off, none⟩) n c, .int .i64 s] w (SgnOut w l s n) := by
  obtain ⟨i0, hi, hz0, hz1, hz2⟩ := info_parts info_con
  have HL := Lib.hid hl
  clear hl
  go_enter Tryd.func99, Tryd.ntmps99
  have hb0 : Below w.heap.size w (w.alloc (.cells #[] 39)) := (Below.refl _ _).alloc (Nat.le_refl _) _
  have ho0 : OwnC (w.alloc (.cells #[] 39)) w.heap.size (some ⟨w.heap.size, 0, none⟩) 0 0 [] := World.ownsRow_made w #[] 0 (Nat.le_refl _) (by simp [maxLen]) (by simp)
  have hnews := con_news (HL.out.below (hb0.mono hB))
  have hcl : (conCells l).length = n * 3 := by rw [conCells_len, HL.out.1]
  go_wp2_with (at_builtin; refine wpList_append_own _ rfl (.tmp 7) (.tmp 8) 37 rfl w.heap.size 39 i0 (.agg #[.int .i64 0, .int .i64 0, .int .i64 0]) 3 24 Tryd.underlying37 hi hz0 hz1 hz2 rfl (by decide) (.slice (some ⟨w.heap.size, 0, none⟩) 0 0) 0 (conCells []) rfl ho0 ⟨b, off, none⟩ n c (conCells l) rfl hcl hnews (conCells_one l) (by unfold maxLen; omega) (by omega) (by simp) ?_; intro v' w1 hown' hgrow hnil)
  obtain ⟨g1, c1, rfl⟩ : ∃ g' cap', v' = .slice (some ⟨g', 0, none⟩) n cap' := by
    rcases hown'.2 with ⟨h0, _⟩ | ⟨g', cap', _, h0, _⟩
    · have := (hnil.1 h0).1
      cases this
    · rw [Nat.zero_add] at h0; exact ⟨g', cap', h0⟩
  have HB1 : Hid (Below w.heap.size w w1) := hb0.grown hgrow (by simp) (fun k h => by have h' : w.heap.size = k := (by simpa [Value.ownBlock] using h); omega)
  have HO1 : Hid (OwnC w1 w.heap.size (some ⟨g1, 0, none⟩) n c1 (signTo l s 0)) := by
    show OwnC _ _ _ _ _ _
    have h := hown'
    rw [conCells_nil, List.nil_append, Nat.zero_add] at h
    rw [signTo_zero]
    exact h
  clear hown' hgrow hnil ho0 hb0 hnews hcl
  go_wp2
  go_loopw [6, 5] (fun i v wr => ∃ (k m g2 c2 : Nat), k ≤ 5 ∧ i = .int .i64 k ∧ m = n + k ∧ v = .slice (some ⟨g2, 0, none⟩) m c2 ∧ Hid (OwnC wr w.heap.size (some ⟨g2, 0, none⟩) m c2 (signTo l s k)) ∧ Hid (Below w.heap.size w wr)) (fun i _ _ => 5 - (intOf i).toNat)
  case atStart => exact ⟨0, n, g1, c1, by omega, rfl, rfl, rfl, HO1.out, HB1.out⟩
  case round =>
    clear HO1 HB1
    obtain ⟨k, m, g2, c2, hk, rfl, hmk, rfl, HO, HB⟩ := hrel
    have HMK := Lib.hid hmk
    have hm1 : m ≤ 905 := by omega
    have hmn : n ≤ m := by omega
    clear hmk
    have hszr := HB.out.size
    by_cases hlt : k < 5
    · have hki : (k : Int) < 5 := by omega
      have HST := Lib.hid (signTo_succ l s k)
      have hown := HO.out
      go_wp2_with fail
      refine (specSignHas_any wr s k).mono ?_
      rintro e w2 ⟨rfl, hw⟩
      obtain rfl : wr = w2 := hw.symm
      cases hh : Sg.has s (k : Int) with
      | true =>
        rw [hh] at HST
        clear hh
        go_wp2_with (at_builtin; refine wpList_append_own _ rfl (.tmp 17) (.tmp 20) 37 rfl w.heap.size 39 i0 (.agg #[.int .i64 0, .int .i64 0, .int .i64 0]) 3 24 Tryd.underlying37 hi hz0 hz1 hz2 rfl (by decide) (.slice (some ⟨g2, 0, none⟩) m c2) m (conCells (signTo l s k)) rfl (hown.alloc _) ⟨wr.heap.size, 0, none⟩ 1 1 (conCells [(-1, 1, (k : Int))]) rfl rfl (con_new wr (-1) 1 k) (conCells_one _) (by unfold maxLen; omega) (by omega) (by simp; omega) ?_; intro v' w3 hown' hgrow hnil)
        obtain ⟨g3, c3, rfl⟩ : ∃ g' c', v' = .slice (some ⟨g', 0, none⟩) (m + 1) c' := by
          rcases hown'.2 with ⟨h0, _⟩ | ⟨g', c', _, h0, _⟩
          · have := (hnil.1 h0).1
            cases this
          · exact ⟨g', c', h0⟩
        have HB3 : Hid (Below w.heap.size w w3) := (HB.out.alloc hszr _).grown hgrow (by simp; omega) (fun x h => (hown.lt x h).1)
        have HO3 : Hid (OwnC w3 w.heap.size (some ⟨g3, 0, none⟩) (m + 1) c3 (signTo l s (k + 1))) := by
          show OwnC _ _ _ _ _ _
          rw [HST.out]
          unfold OwnC
          rw [conCells_append]
          exact hown'
        clear hown hown' hgrow hnil
        go_wp2
        go_roundw
        case rel => exact ⟨k + 1, m + 1, g3, c3, by omega, by go_num, by have := HMK.out; omega, rfl, HO3.out, HB3.out⟩
        case measure => simp [intOf]; omega
      | false =>
        rw [hh] at HST
        clear hh
        go_wp2_with (at_builtin; refine wpList_append_own _ rfl (.tmp 22) (.tmp 25) 37 rfl w.heap.size 39 i0 (.agg #[.int .i64 0, .int .i64 0, .int .i64 0]) 3 24 Tryd.underlying37 hi hz0 hz1 hz2 rfl (by decide) (.slice (some ⟨g2, 0, none⟩) m c2) m (conCells (signTo l s k)) rfl (hown.alloc _) ⟨wr.heap.size, 0, none⟩ 1 1 (conCells [((k : Int), 0, -1)]) rfl rfl (con_new wr k 0 (-1)) (conCells_one _) (by unfold maxLen; omega) (by omega) (by simp; omega) ?_; intro v' w3 hown' hgrow hnil)
        obtain ⟨g3, c3, rfl⟩ : ∃ g' c', v' = .slice (some ⟨g', 0, none⟩) (m + 1) c' := by
          rcases hown'.2 with ⟨h0, _⟩ | ⟨g', c', _, h0, _⟩
          · have := (hnil.1 h0).1
            cases this
          · exact ⟨g', c', h0⟩
        have HB3 : Hid (Below w.heap.size w w3) := (HB.out.alloc hszr _).grown hgrow (by simp; omega) (fun x h => (hown.lt x h).1)
        have HO3 : Hid (OwnC w3 w.heap.size (some ⟨g3, 0, none⟩) (m + 1) c3 (signTo l s (k + 1))) := by
          show OwnC _ _ _ _ _ _
          rw [HST.out]
          unfold OwnC
          rw [conCells_append]
          exact hown'
        clear hown hown' hgrow hnil
        go_wp2
        go_roundw
        case rel => exact ⟨k + 1, m + 1, g3, c3, by omega, by go_num, by have := HMK.out; omega, rfl, HO3.out, HB3.out⟩
        case measure => simp [intOf]; omega
    · have hkk : ¬ (k : Int) < 5 := by omega
      obtain rfl : k = 5 := by omega
      rw [signTo_all] at HO
      have hmm := HMK.out
      go_wp2
      go_ret
      subst hmm
      exact ⟨g2, c2, rfl, HO.out, HB.out⟩
end Go.Proofs.YtmbcjddahncocaaDoor

namespace Go.Proofs.YtmbcjddahncocaaDoor
open Go.RowKit
open Cs (Cn)

/-- what is said of con -/
def ConDraws : Prop := ∀ (w : World) (bc : Nat) (A : Option Addr) (n c K : Nat), Cur w bc A n c K → K ≤ 900000 → n ≤ 1048576 →
  Calls Tryd.prog 73 #[.pointer (some ⟨bc, 0, none⟩)] w fun e w' => ∃ U R V : Int, e = .returned (.agg #[.int .i64 U, .int .i64 R, .int .i64 V]) ∧ Cur w' bc A n c (K + 4) ∧ Kp bc w w'

set_option maxRecDepth 100000 in
set_option maxHeartbeats 4000000 in
theorem goodCons_any (HCON : ConDraws) (w : World) (bc : Nat) (A : Option Addr) (n c K : Nat) (hc : Cur w bc A n c K) (hK : K ≤ 800000) (hn : n ≤ 1048576) :
    Calls Tryd.prog 125 #[.pointer (some ⟨bc, 0, none⟩)] w fun e w' => ∃ (g cap m : Nat), e = .returned (.slice (some ⟨g, 0, none⟩) m cap) ∧ m ≤ 8 ∧ (∃ l : List Cn, OwnC w' w.heap.size (some ⟨g, 0, none⟩) m cap l) ∧ Cur w' bc A n c (K + 33) ∧ Kp bc w w' := by
  obtain ⟨i0, hi, hz0, hz1, hz2⟩ := info_parts info_con
  have hlt := hc.lt
  have HO1 : Hid (OwnC (w.alloc (.cells #[] 39)) w.heap.size (some ⟨w.heap.size, 0, none⟩) 0 0 []) := World.ownsRow_made w #[] 0 (Nat.le_refl _) (by simp [maxLen]) (by simp)
  have HCD := Lib.hid HCON
  clear HCON
  go_enter Tryd.func125, Tryd.ntmps125
  go_wp2_with fail
  refine (size8_any _ bc A n c K (hc.alloc _) (by omega) hn).mono ?_
  rintro e w2 ⟨r, rfl, hr8, hc2, hk2⟩
  have HO2 := Lib.hid (Kp.own HO1.out hk2 hlt)
  have HK2 := Lib.hid (((Kp.refl bc w).alloc (.cells #[] 39)).trans hk2)
  have HC2 := Lib.hid hc2
  clear hk2 hc hc2 HO1
  go_wp2
  go_loopw [3, 4] (fun v i wr => ∃ (j g cap m : Nat) (l : List Cn), j ≤ 8 ∧ i = .int .i64 j ∧ v = .slice (some ⟨g, 0, none⟩) m cap ∧ m + j ≤ 8 ∧ Hid (OwnC wr w.heap.size (some ⟨g, 0, none⟩) m cap l) ∧ Hid (Cur wr bc A n c (K + 33 - 4 * j)) ∧ Hid (Kp bc w wr)) (fun _ i _ => (intOf i).toNat)
  case atStart => exact ⟨r, w.heap.size, 0, 0, [], hr8, rfl, rfl, by omega, HO2.out, HC2.out.more (by omega), HK2.out⟩
  case round =>
    clear HO2 HC2 HK2
    obtain ⟨j, g, cap, m, l, hj, rfl, rfl, hm8, HO, HC, HK⟩ := hrel
    have hsr := HK.out.size
    by_cases hj0 : 0 < j
    · have hji : (0 : Int) < (j : Int) := by omega
      have ho0 : OwnC (wr.alloc (.cells #[] 39)) wr.heap.size (some ⟨wr.heap.size, 0, none⟩) 0 0 [] := World.ownsRow_made wr #[] 0 (Nat.le_refl _) (by simp [maxLen]) (by simp)
      have hA0 : Below wr.heap.size wr (wr.alloc (.cells #[] 39)) := (Below.refl _ _).alloc (Nat.le_refl _) _
      have hla := own_below' HO.out hA0
      have hnews : ∀ i u, (conCells l)[i]? = some u → (wr.alloc (.cells #[] 39)).cell? ((⟨g, 0, none⟩ : Addr).add i) = some u := fun i u hu => hla.cells (g := g) rfl i u hu
      have hcl : (conCells l).length = m * 3 := HO.out.1
      have hlen : l.length = m := by rw [conCells_len] at hcl; omega
      clear hla
      go_wp2_with (at_builtin; refine wpList_append_own _ rfl (.tmp 13) (.tmp 14) 37 rfl wr.heap.size 39 i0 (.agg #[.int .i64 0, .int .i64 0, .int .i64 0]) 3 24 Tryd.underlying37 hi hz0 hz1 hz2 rfl (by decide) (.slice (some ⟨wr.heap.size, 0, none⟩) 0 0) 0 (conCells []) rfl ho0 ⟨g, 0, none⟩ m cap (conCells l) rfl hcl hnews (conCells_one l) (by unfold maxLen; omega) (by omega) (by simp) ?_; intro v' w3 hown' hgrow hnil)
      obtain ⟨g3, c3, rfl⟩ : ∃ g' cap', v' = .slice (some ⟨g', 0, none⟩) m cap' := by
        rcases hown'.2 with ⟨h0, _⟩ | ⟨g', cap', _, h0, _⟩
        · have := (hnil.1 h0).1
          cases this
        · rw [Nat.zero_add] at h0; exact ⟨g', cap', h0⟩
      have hro : ∀ k, (Value.slice (some ⟨wr.heap.size, 0, none⟩) 0 0).ownBlock = some k → wr.heap.size ≤ k := fun k h => by have h' : wr.heap.size = k := (by simpa [Value.ownBlock] using h); omega
      have HC3 := Lib.hid ((HC.out.alloc (.cells #[] 39)).grown hgrow (fun k h => by have := hro k h; omega))
      have HK3 := Lib.hid ((HK.out.alloc (.cells #[] 39)).more hgrow (fun k h => by have := hro k h; omega))
      have hB3 : Below wr.heap.size wr w3 := hA0.grown hgrow (by simp) hro
      have HO3 : Hid (OwnC w3 wr.heap.size (some ⟨g3, 0, none⟩) m c3 l) := by
        have h := hown'
        rw [conCells_nil, List.nil_append, Nat.zero_add] at h
        exact h
      have HL3 := Lib.hid (own_below' HO.out hB3)
      have hs3 := hB3.size
      clear hown' hgrow hnil ho0 hA0 hnews hcl hro hB3
      go_wp2_with fail
      refine (HCD.out w3 bc A n c _ HC3.out (by omega) hn).mono ?_
      rintro e w4 ⟨U, R, V, rfl, hc4, hk4⟩
      have ho4 := Kp.own HO3.out hk4 (by omega)
      have hl4 := Kp.own HL3.out hk4 hlt
      have HK4 := Lib.hid (HK3.out.trans hk4)
      have hs4 := HK4.out.size
      have hs4' := hk4.size
      have HC4 := Lib.hid hc4
      have HL4 := Lib.hid hl4
      clear hk4 hc4 hl4 HC3 HK3 HO3 HL3
      go_wp2_with (at_builtin; refine wpList_append_own _ rfl (.tmp 15) (.tmp 18) 37 rfl wr.heap.size 39 i0 (.agg #[.int .i64 0, .int .i64 0, .int .i64 0]) 3 24 Tryd.underlying37 hi hz0 hz1 hz2 rfl (by decide) (.slice (some ⟨g3, 0, none⟩) m c3) m (conCells l) rfl (ho4.alloc _) ⟨w4.heap.size, 0, none⟩ 1 1 (conCells [(U, R, V)]) rfl rfl (con_new w4 U R V) (conCells_one _) (by unfold maxLen; omega) (by omega) (by simp; omega) ?_; intro v' w5 hown' hgrow hnil)
      obtain ⟨g5, c5, rfl⟩ : ∃ g' c', v' = .slice (some ⟨g', 0, none⟩) (m + 1) c' := by
        rcases hown'.2 with ⟨h0, _⟩ | ⟨g', c', _, h0, _⟩
        · have := (hnil.1 h0).1
          cases this
        · exact ⟨g', c', h0⟩
      have hr5 : ∀ k, (Value.slice (some ⟨g3, 0, none⟩) m c3).ownBlock = some k → wr.heap.size ≤ k := fun k h => (ho4.lt k h).1
      have HC5 := Lib.hid ((HC4.out.alloc (.cells #[.int .i64 U, .int .i64 R, .int .i64 V] 39)).grown hgrow (fun k h => by have := hr5 k h; omega))
      have HK5 := Lib.hid ((HK4.out.alloc (.cells #[.int .i64 U, .int .i64 R, .int .i64 V] 39)).more hgrow (fun k h => by have := hr5 k h; omega))
      have HO5 : Hid (OwnC w5 wr.heap.size (some ⟨g5, 0, none⟩) (m + 1) c5 (l ++ [(U, R, V)])) := by
        show OwnC _ _ _ _ _ _
        unfold OwnC
        rw [conCells_append]
        exact hown'
      have hgl := (HO.out.lt g rfl).2
      have HL5 : Hid (OwnC w5 w.heap.size (some ⟨g, 0, none⟩) m cap l) := (World.ownsRow.alloc HL4.out _).kept hgrow (.inr (fun e => by have h : some g = some g3 := e; injection h with h; have := hr5 g3 rfl; omega))
      clear hown' hgrow hnil ho4 hr5 HC4 HK4 HL4
      go_wp2_with fail
      refine (specConsSat_any w5 w5.heap.size (some ⟨g5, 0, none⟩) (m + 1) c5 (l ++ [(U, R, V)]) (Nat.le_refl _) (OwnC.reads HO5.out) (by omega)).mono ?_
      rintro e w6 ⟨rfl, hb6⟩
      have HC6 := Lib.hid (HC5.out.below hb6)
      have HK6 := Lib.hid (HK5.out.trans (Kp.of_below hb6))
      have HO6 := Lib.hid (own_base (own_below' HO5.out hb6) hsr)
      have HL6 := Lib.hid (own_below' HL5.out hb6)
      clear hb6 HC5 HK5 HO5 HL5
      cases hsat : satR (l ++ [(U, R, V)]) with
      | true =>
        clear hsat
        go_wp2
        go_roundw
        case rel => exact ⟨j - 1, g5, c5, m + 1, l ++ [(U, R, V)], by omega, by congr 1; omega, rfl, by omega, HO6.out, HC6.out.more (by omega), HK6.out⟩
        case measure => simp [intOf]; omega
      | false =>
        clear hsat
        go_wp2
        go_roundw
        case rel => exact ⟨j - 1, g, cap, m, l, by omega, by congr 1; omega, rfl, by omega, HL6.out, HC6.out.more (by omega), HK6.out⟩
        case measure => simp [intOf]; omega
    · have hji : ¬ (0 : Int) < (j : Int) := by omega
      have HE : Hid (j = 0) := by show j = 0; omega
      rw [HE.out] at HC
      have hm8' : m ≤ 8 := by omega
      go_wp2
      go_ret
      exact ⟨g, cap, m, rfl, hm8', ⟨l, HO.out⟩, HC.out.more (by omega), HK.out⟩
end Go.Proofs.YtmbcjddahncocaaDoor
