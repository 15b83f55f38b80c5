/- A list with a sign: signedPaths of the program, SignEnv of both sides. -/
import Derived.Test.YtmmhcpigcdlnmaaUnBase
import Derived.Test.YtmmhcpigcdlnmaaSigned
import Derived.Test.YtmmhcpigcdlnmaaLeast2
import Derived.Test.YtmmhcpigcdlnmaaSgMath2

namespace Go.Proofs.Ytmmhcpigcdlnmaa
open Go.RowKit
open Cs (Cn Tb)

/-- the list can hold at the sign -/
def sgnB (l : List Cn) (s : Int) : Bool := consOkR l && Sg.isSign s && Cs.flat (Un.sgL l s)
/-- the table of the signed list -/
def sgnT (l : List Cn) (s : Int) : Tb := if sgnB l s = true then Cs.tab (Un.sgL l s) else zeroT
theorem sgnB_bad {l : List Cn} {s : Int} (h : consOkR l = false) : sgnB l s = false := by unfold sgnB; rw [h]; rfl
theorem sgnB_not {l : List Cn} {s : Int} (h : Sg.isSign s = false) : sgnB l s = false := by unfold sgnB; rw [h, Bool.and_false]; rfl
theorem sgnB_ok {l : List Cn} {s : Int} (h1 : consOkR l = true) (h2 : Sg.isSign s = true) : sgnB l s = Cs.flat (Un.sgL l s) := by unfold sgnB; rw [h1, h2, Bool.true_and, Bool.true_and]
theorem sgnT_no {l : List Cn} {s : Int} (h : sgnB l s = false) : sgnT l s = zeroT := if_neg (by rw [h]; decide)
theorem sgnT_yes {l : List Cn} {s : Int} (h : sgnB l s = true) : sgnT l s = Cs.tab (Un.sgL l s) := if_pos h
theorem sgnT_long {l : List Cn} {s : Int} (h1 : consOkR l = true) (h2 : Sg.isSign s = true) : sgnT l s = longT (Un.sgL l s) := by unfold sgnT longT; rw [sgnB_ok h1 h2]
/-- the answer of SignEnv -/
def signO (l : List Cn) (s : Int) : Option (List Int) := if sgnB l s = true then some (Cs.leastEnv (Un.sgL l s)) else none
theorem signO_no {l : List Cn} {s : Int} (h : sgnB l s = false) : signO l s = none := if_neg (by rw [h]; decide)
theorem signO_yes {l : List Cn} {s : Int} (h : sgnB l s = true) : signO l s = some (Cs.leastEnv (Un.sgL l s)) := if_pos h

set_option maxRecDepth 100000 in
set_option maxHeartbeats 1600000 in
theorem signedPaths_any (w : World) (B b off n c : Nat) (l : List Cn) (s : Int) (hB : B ≤ w.heap.size) (hl : ConR w B (some ⟨b, off, none⟩) n l) (hn : (n : Int) ≤ 140737488355328) :
    Calls Try.prog 76 #[.slice (some ⟨b, off, none⟩) n c, .int .i64 s] w fun e w' => e = .returned (.tuple #[tabV (sgnT l s), .bool (sgnB l s)]) ∧ Below w.heap.size w w' := by
  have hz := zeros_tab
  obtain ⟨W0, hW0⟩ : ∃ W, w.alloc (.cells (tabA zeroT) 70) = W := ⟨_, rfl⟩
  have hb0 : Below w.heap.size w W0 := by rw [← hW0]; exact (Below.refl _ _).alloc (Nat.le_refl _) _
  have hs0 : W0.heap.size = w.heap.size + 1 := by rw [← hW0]; simp
  have hk0 : Blk W0 w.heap.size 70 (tabA zeroT) := by rw [← hW0]; exact Blk.made _ _ _
  have HL := Lib.hid (hl.below (hb0.mono hB))
  have HB0 := Lib.hid hb0
  have HK0 := Lib.hid hk0
  clear hl hb0 hk0
  go_enter Try.func76, Try.ntmps76
  go_wp2_with fail
  refine (implConsOk_any W0 B (some ⟨b, off, none⟩) n c l (by omega) HL.out hn).mono ?_
  rintro e w1 ⟨rfl, hb1⟩
  have HB1 := Lib.hid (HB0.out.trans (hb1.mono (by omega)))
  have hs1 := hb1.size
  have HK1 := Lib.hid (Blk.below HK0.out hb1 (by omega))
  have HL1 := Lib.hid (HL.out.below (hb1.mono (by omega)))
  clear hb1 hW0
  have hbd := build_tab
  have c0 := HK1.out
  have HB6 : Hid (Below w.heap.size w (w1.setRow w.heap.size (tabA zeroT))) := (Wrote.row _ _ _).below HB1.out HB1.out.size (Nat.le_refl _)
  have HB7 : Hid (Blk (w1.setRow w.heap.size (tabA zeroT)) w.heap.size 70 (tabA zeroT)) := BlkT.lay c0 _
  cases hc : consOkR l with
  | false =>
    have HF := Lib.hid (sgnB_bad (s := s) hc)
    have HT := Lib.hid (sgnT_no (sgnB_bad (s := s) hc))
    clear hc
    go_wp2_with (refine wpList_store_row rfl 70 _ _ rfl w.heap.size (tabA zeroT) rfl rfl 70 (tabA zeroT) c0 (size_tab zeroT) rfl (tabA_one zeroT) ?_)
    refine bodyPost_ret (results_cell_tmp2 (p := 4) (q := 5) rfl _ _ w.heap.size 70 (tabA zeroT) (0, 0) _ rfl HB7.out Try.underlying70 rfl (size_tab _)) rfl ⟨?_, HB6.out⟩
    show Ending.returned (.tuple #[tabV zeroT, .bool false]) = _
    rw [HF.out, HT.out]
  | true =>
    have HC := Lib.hid hc
    have HP := Lib.hid (consOk_parts hc)
    have HN : Hid (n ≤ 24) := by
      show n ≤ 24
      have h := (consOkR_ok hc).2
      rw [HL1.out.1] at h
      exact h
    clear hc
    go_wp2_with fail
    refine (signOk_any w1 s).mono ?_
    rintro e w1' ⟨rfl, hw⟩
    obtain rfl : w1 = w1' := hw.symm
    cases hs : Sg.isSign s with
    | false =>
      have HF := Lib.hid (sgnB_not (l := l) hs)
      have HT := Lib.hid (sgnT_no (sgnB_not (l := l) hs))
      clear hs
      go_wp2_with (refine wpList_store_row rfl 70 _ _ rfl w.heap.size (tabA zeroT) rfl rfl 70 (tabA zeroT) c0 (size_tab zeroT) rfl (tabA_one zeroT) ?_)
      refine bodyPost_ret (results_cell_tmp2 (p := 4) (q := 5) rfl _ _ w.heap.size 70 (tabA zeroT) (0, 0) _ rfl HB7.out Try.underlying70 rfl (size_tab _)) rfl ⟨?_, HB6.out⟩
      show Ending.returned (.tuple #[tabV zeroT, .bool false]) = _
      rw [HF.out, HT.out]
    | true =>
      have HF := Lib.hid (sgnB_ok HC.out hs)
      have HT := Lib.hid (sgnT_long HC.out hs)
      clear hs c0 HB6 HB7 hbd
      have hn24 := HN.out
      go_wp2_with fail
      refine (signedList_any w1 B b off n c l s (by omega) HL1.out (by omega)).mono ?_
      rintro e w2 ⟨g2, c2, rfl, ho2, hb2⟩
      have HR2 := Lib.hid (OwnC.reads ho2)
      have HB2 := Lib.hid (HB1.out.trans (hb2.mono (by omega)))
      have HK2 := Lib.hid (Blk.below HK1.out hb2 HK1.out.lt)
      have hs2 := hb2.size
      clear ho2 hb2
      go_wp2_with fail
      refine (longestPaths_any w2 w2.heap.size (some ⟨g2, 0, none⟩) (n + 5) c2 (Un.sgL l s) (Nat.le_refl _) HR2.out (Cs.signed_ok HP.out.1 _) (by omega)).mono ?_
      rintro e w3 ⟨rfl, hb3⟩
      rw [← HT.out, ← HF.out]
      obtain ⟨T, hT⟩ : ∃ T, sgnT l s = T := ⟨_, rfl⟩
      have HT2 := Lib.hid hT
      rw [hT]
      have HB3 := Lib.hid (HB2.out.trans (hb3.mono (by omega)))
      have c3 := Blk.below HK2.out hb3 HK2.out.lt
      clear hb3 hT
      have HB8 : Hid (Below w.heap.size w (w3.setRow w.heap.size (tabA T))) := (Wrote.row _ _ _).below HB3.out HB3.out.size (Nat.le_refl _)
      have HB9 : Hid (Blk (w3.setRow w.heap.size (tabA T)) w.heap.size 70 (tabA T)) := BlkT.lay c3 _
      go_wp2_with (refine wpList_store_row rfl 70 _ _ rfl w.heap.size (tabA T) rfl rfl 70 (tabA zeroT) c3 (size_tab T) rfl (tabA_one T) ?_)
      refine bodyPost_ret (results_cell_tmp2 (p := 4) (q := 5) rfl _ _ w.heap.size 70 (tabA T) (0, 0) _ rfl HB9.out Try.underlying70 rfl (size_tab _)) rfl ⟨?_, HB8.out⟩
      show Ending.returned (.tuple #[tabV T, .bool (sgnB l s)]) = _
      rw [HT2.out]

set_option maxRecDepth 100000 in
set_option maxHeartbeats 1600000 in
theorem implSignEnv_any (w : World) (B b off n c : Nat) (l : List Cn) (s : Int) (hB : B ≤ w.heap.size) (hl : ConR w B (some ⟨b, off, none⟩) n l) (hn : (n : Int) ≤ 140737488355328) :
    Calls Try.prog 33 #[.slice (some ⟨b, off, none⟩) n c, .int .i64 s] w (ResJ w (signO l s)) := by
  have hz := zeros_tab
  have HL := Lib.hid hl
  clear hl
  go_enter Try.func33, Try.ntmps33
  go_wp2_with fail
  refine (signedPaths_any w B b off n c l s hB HL.out hn).mono ?_
  rintro e w1 ⟨rfl, hb1⟩
  obtain ⟨T, hT⟩ : ∃ T, sgnT l s = T := ⟨_, rfl⟩
  rw [hT]
  have HT := Lib.hid hT
  clear hT
  obtain ⟨W1, hW1⟩ : ∃ W, w1.alloc (.cells (tabA zeroT) 70) = W := ⟨_, rfl⟩
  have c1 : Blk W1 w1.heap.size 70 (tabA zeroT) := by rw [← hW1]; exact Blk.made _ _ _
  obtain ⟨S, hS⟩ : ∃ S, w1.heap.size = S := ⟨_, rfl⟩
  rw [hS] at c1
  obtain ⟨W2, hW2⟩ : ∃ W, W1.setRow S (tabA T) = W := ⟨_, rfl⟩
  have c2 : Blk W2 S 70 (tabA T) := by rw [← hW2]; exact BlkT.lay c1 T
  have HB2 : Hid (Below w.heap.size w W2) := by
    show Below _ _ _
    have q1 : Below w1.heap.size w1 W1 := by rw [← hW1]; exact (Below.refl _ _).alloc (Nat.le_refl _) _
    have := q1.size
    have := hb1.size
    rw [← hW2]
    exact (Wrote.row _ _ _).below (hb1.trans (q1.mono (by omega))) (by omega) (by omega)
  clear hb1
  cases h1 : sgnB l s with
  | false =>
    have HF := Lib.hid (signO_no h1)
    clear h1
    go_wp2_with (refine wpList_store_row rfl 70 _ _ rfl S (tabA T) rfl rfl 70 (tabA zeroT) c1 (size_tab T) rfl (tabA_one T) ?_)
    go_ret2
    rw [HF.out]
    exact resJ_none HB2.out
  | true =>
    have HF := Lib.hid (signO_yes h1)
    have HE : Hid (leastL T = Cs.leastEnv (Un.sgL l s)) := by show _ = _; rw [← HT.out, sgnT_yes h1]; rfl
    clear h1
    go_wp2_with (first
      | (refine wpList_store_row rfl 70 _ _ rfl S (tabA T) rfl rfl 70 (tabA zeroT) c1 (size_tab T) rfl (tabA_one T) ?_)
      | (refine wpList_load_row rfl 70 _ rfl S rfl 70 (tabA T) (0, 0) _ c2 Try.underlying70 rfl (size_tab T) ?_))
    refine (least_any W2 T).mono ?_
    rintro e w3 ⟨g, rfl, ho3, hb3⟩
    have HB3 := Lib.hid (HB2.out.trans (hb3.mono HB2.out.size))
    have HO3 := Lib.hid (own_base ho3 HB2.out.size)
    clear ho3 hb3
    go_wp2
    go_ret2
    rw [HF.out]
    rw [HE.out] at HO3
    exact resJ_some (Cs.leastEnv_len (Un.sgL l s)) HO3.out HB3.out

set_option maxRecDepth 100000 in
set_option maxHeartbeats 1600000 in
theorem specSignEnv_any (w : World) (B b off n c : Nat) (l : List Cn) (s : Int) (hB : B ≤ w.heap.size) (hl : ConR w B (some ⟨b, off, none⟩) n l) (hn : (n : Int) ≤ 140737488355328) :
    Calls Try.prog 36 #[.slice (some ⟨b, off, none⟩) n c, .int .i64 s] w (ResJ w (signO l s)) := by
  obtain ⟨i0, hi, hz0, hz1, hz2⟩ := info_parts info_int
  have HL := Lib.hid hl
  clear hl
  go_enter Try.func36, Try.ntmps36
  go_wp2_with fail
  refine (specConsOk_any w B (some ⟨b, off, none⟩) n c l hB HL.out hn).mono ?_
  rintro e w0 ⟨rfl, hb0⟩
  have HB0 := Lib.hid hb0
  have hs0 := hb0.size
  clear hb0
  cases hc : consOkR l with
  | false =>
    have HF := Lib.hid (signO_no (sgnB_bad (s := s) hc))
    clear hc
    go_wp2
    go_ret2
    rw [HF.out]
    exact resJ_none HB0.out
  | true =>
    have HC := Lib.hid hc
    have HP := Lib.hid (consOk_parts hc)
    have hn24 : n ≤ 24 := by have h := (consOkR_ok hc).2; rw [HL.out.1] at h; exact h
    clear hc
    go_wp2_with fail
    refine (l03Sign_any w0 s).mono ?_
    rintro e w0' ⟨rfl, hw⟩
    obtain rfl : w0 = w0' := hw.symm
    cases hs : Sg.isSign s with
    | false =>
      have HF := Lib.hid (signO_no (sgnB_not (l := l) hs))
      clear hs
      go_wp2
      go_ret2
      rw [HF.out]
      exact resJ_none HB0.out
    | true =>
      have HFB := Lib.hid (sgnB_ok HC.out hs)
      clear hs
      go_wp2_with fail
      refine (l05Signed_any w0 B b off n c l s (by omega) (HL.out.below (HB0.out.mono hB)) (by omega)).mono ?_
      rintro e w1 ⟨g1, c1, rfl, ho1, hb1⟩
      have HB1 := Lib.hid (HB0.out.trans (hb1.mono hs0))
      have HR1 := Lib.hid (OwnC.reads ho1)
      have hs1 := HB1.out.size
      clear ho1 hb1
      go_wp2_with fail
      refine (l05Paths_any w1 w1.heap.size (some ⟨g1, 0, none⟩) (n + 5) c1 (Un.sgL l s) (Nat.le_refl _) HR1.out (Cs.signed_ok HP.out.1 _) (by omega)).mono ?_
      rintro e w2 ⟨hb2, ⟨hf, g, cap, rw', cp, rfl, ht⟩ | ⟨hf, rfl⟩⟩
      · have HF := Lib.hid (signO_yes (HFB.out.trans hf))
        have HB2 := Lib.hid (HB1.out.trans (hb2.mono hs1))
        have q0 := ht.head (i := 0) (by omega)
        have hrow := ht.row 0 (by omega)
        have hcp : 6 ≤ cp 0 := by
          rcases hrow.2 with ⟨h0, _⟩ | ⟨g', cap', cur, hv, _, _, hle, _⟩
          · cases h0
          · injection hv with _ _ e3
            rw [e3]; exact hle
        have HC2 : Hid (∀ j, j < 5 → w2.cell? ⟨rw' 0, 1 + j, none⟩ = some (.int .i64 (Cs.tab (Un.sgL l s) 0 (j + 1)))) := fun j hj => by
          have := (ht.spot (i := 0) (j := j + 1) (by omega) (by omega)).1
          rw [show 1 + j = j + 1 by omega]
          exact this
        have hlt0 := (ht.base (i := 0) (by omega)).2
        obtain ⟨r0, hr0⟩ : ∃ r0, rw' 0 = r0 := ⟨_, rfl⟩
        obtain ⟨p0, hp0⟩ : ∃ p0, cp 0 = p0 := ⟨_, rfl⟩
        rw [hr0] at q0 HC2 hlt0
        rw [hp0] at q0 hcp
        have hs2 := HB2.out.size
        clear hb2 ht hrow hr0 hp0 hf
        obtain ⟨W3, hW3⟩ : ∃ W, w2.alloc (.cells #[] 3) = W := ⟨_, rfl⟩
        have ho3 : OwnI W3 w2.heap.size (some ⟨w2.heap.size, 0, none⟩) 0 0 [] := by rw [← hW3]; exact World.ownsRow_made w2 #[] 0 (Nat.le_refl _) (by simp [maxLen]) (by simp)
        have hb3 : Below w2.heap.size w2 W3 := by rw [← hW3]; exact (Below.refl _ _).alloc (Nat.le_refl _) _
        have q1 : W3.cell? ⟨g, 0, none⟩ = some (.slice (some ⟨r0, 0, none⟩) 6 p0) := (hb3.cell (World.block_lt_of_cell? w2 _ q0)).trans q0
        have HC3 : Hid (∀ j u, ((leastL (Cs.tab (Un.sgL l s))).map (Value.int .i64))[j]? = some u → W3.cell? ((⟨r0, 1, none⟩ : Addr).add j) = some u) := fun j u hu => by
          obtain ⟨hj, rfl⟩ := leastL_cell (Cs.tab (Un.sgL l s)) hu
          have hadd : (⟨r0, 1, none⟩ : Addr).add j = ⟨r0, 1 + j, none⟩ := by
            unfold Addr.add
            by_cases h : j = 0
            · subst h; rfl
            · rw [if_neg h]
          rw [hadd, hb3.cell (by exact hlt0), HC2.out j hj]
        have hs3 : W3.heap.size = w2.heap.size + 1 := by rw [← hW3]; simp
        have HB3 := Lib.hid (HB2.out.trans (hb3.mono hs2))
        clear hb3 q0
        have hones : ∀ u ∈ (leastL (Cs.tab (Un.sgL l s))).map (Value.int .i64), u.oneCell' = true := fun u hu => by
          simp only [List.mem_map] at hu
          obtain ⟨x, _, rfl⟩ := hu
          rfl
        go_wp2_with (at_builtin; refine wpList_append_own _ rfl (.tmp 25) (.tmp 29) 26 rfl w2.heap.size 3 i0 (.int .i64 0) 1 8 Try.underlying26 hi hz0 hz1 hz2 rfl (by decide) (.slice (some ⟨w2.heap.size, 0, none⟩) 0 0) 0 [] rfl ho3 ⟨r0, 1, none⟩ 5 (p0 - 1) ((leastL (Cs.tab (Un.sgL l s))).map (Value.int .i64)) rfl rfl HC3.out hones (by unfold maxLen; omega) (by omega) (by omega) ?_; intro v' w4 hown' hgrow hnil)
        obtain ⟨g2, c2, rfl⟩ : ∃ g' c', v' = .slice (some ⟨g', 0, none⟩) (0 + 5) c' := by
          rcases hown'.2 with ⟨h0, _⟩ | ⟨g', c', _, h0, _⟩
          · have := (hnil.1 h0).1
            cases this
          · exact ⟨g', c', h0⟩
        have HB4 : Hid (Below w.heap.size w w4) := HB3.out.grown hgrow (by omega) (fun x h => by have := (ho3.lt x h).1; omega)
        have HO4 : Hid (OwnI w4 w.heap.size (some ⟨g2, 0, none⟩) 5 c2 (Cs.leastEnv (Un.sgL l s))) := by
          have := own_base hown' hs2
          simp only [Nat.zero_add, List.nil_append] at this
          exact this
        clear hown' hgrow hnil ho3
        go_wp2
        go_ret2
        rw [HF.out]
        exact resJ_some (Cs.leastEnv_len (Un.sgL l s)) HO4.out HB4.out
      · have HF := Lib.hid (signO_no (HFB.out.trans hf))
        have HB2 := Lib.hid (HB1.out.trans (hb2.mono hs1))
        clear hb2 hf
        go_wp2
        go_ret2
        rw [HF.out]
        exact resJ_none HB2.out
end Go.Proofs.Ytmmhcpigcdlnmaa
