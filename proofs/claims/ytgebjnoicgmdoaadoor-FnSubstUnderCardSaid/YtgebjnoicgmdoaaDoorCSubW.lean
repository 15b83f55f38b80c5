/- ConsSubst of the reference model. -/
/- The laws' work on rows of pairs: equal, marked, held. -/
/- ConsSubst, both sides in one form of answer. -/
import Derived.Test.YtgebjnoicgmdoaaDoorCSub
import Derived.Test.YtgebjnoicgmdoaaDoorUnPairs
import Derived.Test.YtgebjnoicgmdoaaDoorMarks

namespace Go.Proofs.YtgebjnoicgmdoaaDoor
open Go.RowKit
open Cs (Cn)

/-- what a row of tokens of the call's own holds -/
theorem own_news {w : World} {base g n c : Nat} {l : List (Int × Int)} {o : Obj} (h : OwnT w base (some ⟨g, 0, none⟩) n c l) : ∀ j u, (tokCells l)[j]? = some u → (w.alloc o).cell? ((⟨g, 0, none⟩ : Addr).add j) = some u :=
  fun j u hu => (h.alloc o).cells (g := g) rfl j u hu
theorem tok_zero {w : World} {base n g c : Nat} {l : List (Int × Int)} (h : w.ownsRow base 56 2 (.slice (some ⟨g, 0, none⟩) n c) (0 + n) (tokCells [] ++ tokCells l)) : OwnT w base (some ⟨g, 0, none⟩) n c l := by
  rw [tokCells_nil, List.nil_append, Nat.zero_add] at h
  exact h
set_option maxRecDepth 100000 in
set_option maxHeartbeats 16000000 in
theorem specCSub_any (w : World) (B : Nat) (A : Option Addr) (n c : Nat) (l : List Cn) (A2 : Option Addr) (n2 c2 : Nat) (ls : List (List (Int × Int))) (hB : B ≤ w.heap.size) (hl : ConR w B A n l) (hn : (n : Int) ≤ 140737488355328) (hls : LvlR w B A2 n2 ls) (hn2 : (n2 : Int) ≤ 140737488355328) (hm : bulk ls ≤ 1048576) :
    Calls Tryd.prog 7 #[.slice A n c, .slice A2 n2 c2] w (CsbOut w (csubR l ls)) := by
  obtain ⟨i0, hi, hz0, hz1, hz2⟩ := info_parts info_pair
  obtain ⟨j0, ji, jz0, jz1, jz2⟩ := info_parts info_tok
  have hoE : ∀ X : World, OwnT (X.alloc (.cells #[] 56)) X.heap.size (some ⟨X.heap.size, 0, none⟩) 0 0 [] := fun X => World.ownsRow_made X #[] 0 (Nat.le_refl _) (by simp [maxLen]) (by simp)
  have HL := Lib.hid hl
  have HLS := Lib.hid hls
  clear hl hls
  go_enter Tryd.func7, Tryd.ntmps7
  go_wp2_with fail
  refine (specConsOk_any w B A n c l hB HL.out hn).mono ?_
  rintro e w1 ⟨rfl, hb1⟩
  have HB1 := Lib.hid hb1
  have hs1 := hb1.size
  clear hb1
  cases hc : consOkR l with
  | false =>
    have HR := Lib.hid (csubR_bad (ls := ls) hc)
    clear hc
    go_wp2
    go_ret2
    rw [HR.out]
    exact .inl ⟨rfl, rfl, HB1.out⟩
  | true =>
    have HC := Lib.hid hc
    have hn24 : n ≤ 24 := by have h := (consOkR_ok hc).2; rw [HL.out.1] at h; exact h
    have HP0 : Hid (PairO (w1.alloc (.cells #[] 39)) w.heap.size (some ⟨w1.heap.size, 0, none⟩) 0 0 [] (fun _ => 0) (fun _ => 0)) := ⟨rfl, own_base (World.ownsRow_made w1 #[] 0 (Nat.le_refl _) (by simp [maxLen]) (by simp)) hs1, fun i hi => absurd hi (by omega), fun i hi => absurd hi (by omega), fun i j hi => absurd hi (by omega)⟩
    have HB2 := Lib.hid (HB1.out.alloc hs1 (.cells #[] 39))
    clear hc
    go_wp2
    go_loopw [7, 6] (fun i v wr => ∃ (k m : Nat) (Ao : Option Addr) (cap : Nat) (ps : List Pr) (rb rc : Nat → Nat), k ≤ n ∧ m ≤ 2 * k ∧ i = .int .i64 k ∧ v = .slice Ao m cap ∧ Hid (subTo l ls k = some ps) ∧ Hid (PairO wr w.heap.size Ao cap m ps rb rc) ∧ Hid (Below w.heap.size w wr)) (fun i _ _ => n - (intOf i).toNat)
    case atStart => exact ⟨0, 0, _, 0, [], _, _, Nat.zero_le _, Nat.zero_le _, rfl, rfl, rfl, HP0.out, HB2.out⟩
    case round =>
      clear HP0 HB1 HB2 hs1
      obtain ⟨k, m, Ao, cap, ps, rb, rc, hk, hmk, rfl, rfl, HST, HP, HB⟩ := hrel
      have hsr := HB.out.size
      by_cases hlt : k < n
      · have hki : (k : Int) < (n : Int) := by omega
        obtain ⟨b, off, rfl, hb, hcc⟩ := HL.out.2 (by omega)
        obtain ⟨d1, d2, d3⟩ := hcc k hlt
        have HLL : Hid (l.length = n) := HL.out.1
        obtain ⟨t, ht⟩ : ∃ t, l.getD k (0, 0, 0) = t := ⟨_, rfl⟩
        have hmem : t ∈ l := by
          rw [← ht, List.getD_eq_getElem?_getD, List.getElem?_eq_getElem (by rw [HLL.out]; exact hlt), Option.getD_some]
          exact List.getElem_mem _
        have hcok := (consOkR_ok HC.out).1 t hmem
        rw [ht] at d1 d2 d3
        obtain ⟨U, R, V⟩ := t
        have hbd := (Cs.cOk_iff _).1 hcok
        simp only at hbd d1 d2 d3
        obtain ⟨⟨u1, u5⟩, ⟨v1, v5⟩, r0, r2⟩ := hbd
        have HT := Lib.hid ht
        have HBW := HB
        have k1 := (HBW.out.cell (p := ⟨b, off + k * 3, none⟩) (by show b < _; omega)).trans d1
        have k2 := (HBW.out.cell (p := ⟨b, off + k * 3 + 1, none⟩) (by show b < _; omega)).trans d2
        have k3 := (HBW.out.cell (p := ⟨b, off + k * 3 + 2, none⟩) (by show b < _; omega)).trans d3
        have KC : ∀ X : World, Below w.heap.size w X → X.cell? ⟨b, off + k * 3, none⟩ = some (.int .i64 U) ∧ X.cell? ⟨b, off + k * 3 + 1, none⟩ = some (.int .i64 R) ∧ X.cell? ⟨b, off + k * 3 + 2, none⟩ = some (.int .i64 V) := fun X h => ⟨(h.cell (p := ⟨b, off + k * 3, none⟩) (by show b < _; omega)).trans d1, (h.cell (p := ⟨b, off + k * 3 + 1, none⟩) (by show b < _; omega)).trans d2, (h.cell (p := ⟨b, off + k * 3 + 2, none⟩) (by show b < _; omega)).trans d3⟩
        have HKC := Lib.hid KC
        clear hcc hmem hcok d1 d2 d3 ht KC
        go_wp2_with fail
        refine (specSide_any wr B A2 n2 c2 ls U (by omega) (HLS.out.below (HB.out.mono hB)) hn2 hm).mono ?_
        clear k1 k2 k3
        rintro e w2 (⟨hu, rfl, hb2⟩ | ⟨u, gu, cu, hu, rfl, hou, hb2⟩)
        · have HS := Lib.hid (csubR_stop HC.out (by rw [HLL.out]; exact hlt) HST.out HT.out (sub1_u hu))
          have HX2 := Lib.hid (HB.out.trans (hb2.mono hsr))
          have z2 := (HKC.out _ HX2.out).2.2
          have hsx2 := HX2.out.size
          clear hu hb2
          go_wp2_with fail
          refine (specSide_any w2 B A2 n2 c2 ls V (by omega) (HLS.out.below (HX2.out.mono hB)) hn2 hm).mono ?_
          rintro e w3 (⟨_, rfl, hb3⟩ | ⟨v, gv, cv, _, rfl, _, hb3⟩)
          · have HX3 := Lib.hid (HX2.out.trans (hb3.mono hsx2))
            clear hb3 z2
            go_wp2
            go_ret2
            rw [HS.out]
            exact .inl ⟨rfl, rfl, HX3.out⟩
          · have HX3 := Lib.hid (HX2.out.trans (hb3.mono hsx2))
            clear hb3 z2
            go_wp2
            go_ret2
            rw [HS.out]
            exact .inl ⟨rfl, rfl, HX3.out⟩
        · have HX2 := Lib.hid (HB.out.trans (hb2.mono hsr))
          have z2 := (HKC.out _ HX2.out).2.2
          have hsx2 := HX2.out.size
          have HP2 := Lib.hid (HP.out.below hb2)
          have hgu := hou.lt gu rfl
          have HOU := Lib.hid hou
          have HU := Lib.hid hu
          have hs12 := hb2.size
          clear hu hb2 hou
          go_wp2_with fail
          refine (specSide_any w2 B A2 n2 c2 ls V (by omega) (HLS.out.below (HX2.out.mono hB)) hn2 hm).mono ?_
          clear z2
          rintro e w3 (⟨hv, rfl, hb3⟩ | ⟨v, gv, cv, hv, rfl, hov, hb3⟩)
          · have HS := Lib.hid (csubR_stop HC.out (by rw [HLL.out]; exact hlt) HST.out HT.out (sub1_v hv))
            have HX3 := Lib.hid (HX2.out.trans (hb3.mono hsx2))
            clear hb3 hv
            go_wp2
            go_ret2
            rw [HS.out]
            exact .inl ⟨rfl, rfl, HX3.out⟩
          · have HX3 := Lib.hid (HX2.out.trans (hb3.mono hsx2))
            have hsx3 := HX3.out.size
            have HP3 := Lib.hid (HP2.out.below hb3)
            have hgv := hov.lt gv rfl
            have HS := Lib.hid (subTo_go HST.out HT.out (sub1_y HU.out hv))
            have hou3 : OwnT w3 w.heap.size (some ⟨gu, 0, none⟩) u.length cu u := own_base (own_below' HOU.out hb3) hsr
            have hov3 : OwnT w3 w.heap.size (some ⟨gv, 0, none⟩) v.length cv v := own_base hov hsx2
            have hxy : gu ≠ gv := by omega
            have hxo : ∀ i, i < 2 * m → rb i ≠ gu := fun i hi => by have := HP.out.lt hi; omega
            have hxv : ∀ i, i < 2 * m → rb i ≠ gv := fun i hi => by have := HP.out.lt hi; omega
            have hul := (sdR_ok HU.out).2
            have hvl := (sdR_ok hv).2
            have z1 := (HKC.out _ HX3.out).2.1
            have hR3 : R = 0 ∨ R = 1 ∨ R = 2 := by omega
            have hs23 := hb3.size
            clear hb3 hov hv
            rcases hR3 with rfl | rfl | rfl
            · have HT2 : Hid (subTo l ls (k + 1) = some (ps ++ [(u, false, v)])) := by show _ = _; rw [HS.out]; simp
              go_wp2_with (at_builtin; refine wpList_append_own _ rfl (.tmp 48) (.tmp 58) 28 rfl w.heap.size 39 i0 (.agg #[.slice none 0 0, .bool false, .slice none 0 0]) 3 56 Tryd.underlying28 hi hz0 hz1 hz2 rfl (by decide) (.slice Ao m cap) m (pairVs rb rc ps) rfl (HP3.out.out.alloc _) ⟨w3.heap.size, 0, none⟩ 1 1 [.slice (some ⟨gu, 0, none⟩) u.length cu, .bool false, .slice (some ⟨gv, 0, none⟩) v.length cv] rfl rfl (pair_new w3 _ _ _) (pair_one _ _ _ rfl rfl) (by unfold maxLen; omega) (by omega) (by simp; omega) ?_; intro v' w9 hown' hgrow hnil; obtain ⟨gw9, cw9, rfl⟩ := pair_more hown'; have hb9 : Below w.heap.size w w9 := (HX3.out.alloc hsx3 _).grown hgrow (by simp; omega) (fun x h => (HP3.out.out.lt x h).1); have hP9 : PairO w9 w.heap.size (some ⟨gw9, 0, none⟩) cw9 (m + 1) (ps ++ [(u, false, v)]) (ins rb m gu gv) (ins rc m cu cv) := PairO.add (t := (u, false, v)) (HP3.out.below ((Below.refl _ _).alloc (Nat.le_refl _) _)) rfl hgrow (hou3.alloc _) (hov3.alloc _) hxy hxo hxv hown'; have y1 := (HKC.out _ hb9).2.1; clear hown' hgrow hnil)
              go_roundw
              case rel => exact ⟨k + 1, m + 1, _, _, _, _, _, by omega, by omega, by go_num, rfl, HT2.out, hP9, hb9⟩
              case measure => simp [intOf]; omega
            · have HT2 : Hid (subTo l ls (k + 1) = some (ps ++ [(u, true, v)])) := by show _ = _; rw [HS.out]; simp
              go_wp2_with (at_builtin; refine wpList_append_own _ rfl (.tmp 48) (.tmp 58) 28 rfl w.heap.size 39 i0 (.agg #[.slice none 0 0, .bool false, .slice none 0 0]) 3 56 Tryd.underlying28 hi hz0 hz1 hz2 rfl (by decide) (.slice Ao m cap) m (pairVs rb rc ps) rfl (HP3.out.out.alloc _) ⟨w3.heap.size, 0, none⟩ 1 1 [.slice (some ⟨gu, 0, none⟩) u.length cu, .bool true, .slice (some ⟨gv, 0, none⟩) v.length cv] rfl rfl (pair_new w3 _ _ _) (pair_one _ _ _ rfl rfl) (by unfold maxLen; omega) (by omega) (by simp; omega) ?_; intro v' w9 hown' hgrow hnil; obtain ⟨gw9, cw9, rfl⟩ := pair_more hown'; have hb9 : Below w.heap.size w w9 := (HX3.out.alloc hsx3 _).grown hgrow (by simp; omega) (fun x h => (HP3.out.out.lt x h).1); have hP9 : PairO w9 w.heap.size (some ⟨gw9, 0, none⟩) cw9 (m + 1) (ps ++ [(u, true, v)]) (ins rb m gu gv) (ins rc m cu cv) := PairO.add (t := (u, true, v)) (HP3.out.below ((Below.refl _ _).alloc (Nat.le_refl _) _)) rfl hgrow (hou3.alloc _) (hov3.alloc _) hxy hxo hxv hown'; have y1 := (HKC.out _ hb9).2.1; clear hown' hgrow hnil)
              go_roundw
              case rel => exact ⟨k + 1, m + 1, _, _, _, _, _, by omega, by omega, by go_num, rfl, HT2.out, hP9, hb9⟩
              case measure => simp [intOf]; omega
            · have HT2 : Hid (subTo l ls (k + 1) = some ((ps ++ [(u, false, v)]) ++ [(v, false, u)])) := by show _ = _; rw [HS.out]; simp
              go_wp2_with (at_builtin; first
                | (refine wpList_append_own _ rfl (.tmp 48) (.tmp 58) 28 rfl w.heap.size 39 i0 (.agg #[.slice none 0 0, .bool false, .slice none 0 0]) 3 56 Tryd.underlying28 hi hz0 hz1 hz2 rfl (by decide) (.slice Ao m cap) m (pairVs rb rc ps) rfl (HP3.out.out.alloc _) ⟨w3.heap.size, 0, none⟩ 1 1 [.slice (some ⟨gu, 0, none⟩) u.length cu, .bool false, .slice (some ⟨gv, 0, none⟩) v.length cv] rfl rfl (pair_new w3 _ _ _) (pair_one _ _ _ rfl rfl) (by unfold maxLen; omega) (by omega) (by simp; omega) ?_; intro v' w9 hown' hgrow hnil; obtain ⟨gw9, cw9, rfl⟩ := pair_more hown'; have hb9 : Below w.heap.size w w9 := (HX3.out.alloc hsx3 _).grown hgrow (by simp; omega) (fun x h => (HP3.out.out.lt x h).1); have hP9 : PairO w9 w.heap.size (some ⟨gw9, 0, none⟩) cw9 (m + 1) (ps ++ [(u, false, v)]) (ins rb m gu gv) (ins rc m cu cv) := PairO.add (t := (u, false, v)) (HP3.out.below ((Below.refl _ _).alloc (Nat.le_refl _) _)) rfl hgrow (hou3.alloc _) (hov3.alloc _) hxy hxo hxv hown'; have y1 := (HKC.out _ hb9).2.1; have hou9 := pair_keep hou3 HP3.out.out hgrow; have hov9 := pair_keep hov3 HP3.out.out hgrow; have hs9 := hb9.size; have HP9 := Lib.hid hP9; have HX9 := Lib.hid hb9; clear hown' hgrow hnil)
                | (refine wpList_append_own _ rfl (.tmp 67) (.tmp 68) 35 rfl w9.heap.size 56 j0 (.agg #[.int .i64 0, .int .i64 0]) 2 16 Tryd.underlying35 ji jz0 jz1 jz2 rfl (by decide) (.slice (some ⟨w9.heap.size, 0, none⟩) 0 0) 0 (tokCells []) rfl (hoE w9) ⟨gv, 0, none⟩ v.length cv (tokCells v) rfl (tokCells_len v) (own_news hov9) (tokCells_one v) (by unfold maxLen; omega) (by omega) (by simp) ?_; intro v' x10 hown' hgrow hnil; obtain ⟨ga, cga, rfl⟩ := side_take hown' hnil; have hbx10 : Below w9.heap.size w9 x10 := ((Below.refl _ _).alloc (Nat.le_refl _) _).grown hgrow (by simp) (fun k h => by have h' : w9.heap.size = k := (by simpa [Value.ownBlock] using h); omega); have hoga : OwnT x10 w9.heap.size (some ⟨ga, 0, none⟩) v.length cga v := tok_zero hown'; have hga := hoga.lt ga rfl; have hou10 := own_below' hou9 hbx10; have hs10 := hbx10.size; clear hown' hgrow hnil)
                | (refine wpList_append_own _ rfl (.tmp 70) (.tmp 71) 35 rfl x10.heap.size 56 j0 (.agg #[.int .i64 0, .int .i64 0]) 2 16 Tryd.underlying35 ji jz0 jz1 jz2 rfl (by decide) (.slice (some ⟨x10.heap.size, 0, none⟩) 0 0) 0 (tokCells []) rfl (hoE x10) ⟨gu, 0, none⟩ u.length cu (tokCells u) rfl (tokCells_len u) (own_news hou10) (tokCells_one u) (by unfold maxLen; omega) (by omega) (by simp) ?_; intro v' x11 hown' hgrow hnil; obtain ⟨gb, cgb, rfl⟩ := side_take hown' hnil; have hbx11 : Below x10.heap.size x10 x11 := ((Below.refl _ _).alloc (Nat.le_refl _) _).grown hgrow (by simp) (fun k h => by have h' : x10.heap.size = k := (by simpa [Value.ownBlock] using h); omega); have hogb : OwnT x11 x10.heap.size (some ⟨gb, 0, none⟩) u.length cgb u := tok_zero hown'; have hgb := hogb.lt gb rfl; have hov11 : OwnT x11 w.heap.size (some ⟨ga, 0, none⟩) v.length cga v := own_base (own_below' hoga hbx11) (by omega); have hou11 : OwnT x11 w.heap.size (some ⟨gb, 0, none⟩) u.length cgb u := own_base hogb (by omega); have HP11 := Lib.hid ((HP9.out.below hbx10).below hbx11); have HX11 := Lib.hid ((HX9.out.trans (hbx10.mono hs9)).trans (hbx11.mono (by omega))); have hsx11 := HX11.out.size; have hab : ga ≠ gb := (by omega); have hao : ∀ i, i < 2 * (m + 1) → ins rb m gu gv i ≠ ga := (fun i hi => by have := HP9.out.lt hi; omega); have hbo : ∀ i, i < 2 * (m + 1) → ins rb m gu gv i ≠ gb := (fun i hi => by have := HP9.out.lt hi; omega); clear hown' hgrow hnil)
                | (refine wpList_append_own _ rfl (.tmp 66) (.tmp 74) 28 rfl w.heap.size 39 i0 (.agg #[.slice none 0 0, .bool false, .slice none 0 0]) 3 56 Tryd.underlying28 hi hz0 hz1 hz2 rfl (by decide) (.slice (some ⟨gw9, 0, none⟩) (m + 1) cw9) (m + 1) (pairVs (ins rb m gu gv) (ins rc m cu cv) (ps ++ [(u, false, v)])) rfl (HP11.out.out.alloc _) ⟨x11.heap.size, 0, none⟩ 1 1 [.slice (some ⟨ga, 0, none⟩) v.length cga, .bool false, .slice (some ⟨gb, 0, none⟩) u.length cgb] rfl rfl (pair_new x11 _ _ _) (pair_one _ _ _ rfl rfl) (by unfold maxLen; omega) (by omega) (by simp; omega) ?_; intro v' w12 hown' hgrow hnil; obtain ⟨gw12, cw12, rfl⟩ := pair_more hown'; have hb12 : Below w.heap.size w w12 := (HX11.out.alloc hsx11 _).grown hgrow (by simp; omega) (fun x h => (HP11.out.out.lt x h).1); have hP12 : PairO w12 w.heap.size (some ⟨gw12, 0, none⟩) cw12 (m + 1 + 1) ((ps ++ [(u, false, v)]) ++ [(v, false, u)]) (ins (ins rb m gu gv) (m + 1) ga gb) (ins (ins rc m cu cv) (m + 1) cga cgb) := PairO.add (t := (v, false, u)) (HP11.out.below ((Below.refl _ _).alloc (Nat.le_refl _) _)) rfl hgrow (hov11.alloc _) (hou11.alloc _) hab hao hbo hown'; clear hown' hgrow hnil))
              go_roundw
              case rel => exact ⟨k + 1, m + 1 + 1, _, _, _, _, _, by omega, by omega, by go_num, rfl, HT2.out, hP12, hb12⟩
              case measure => simp [intOf]; omega
      · have hki : ¬ (k : Int) < (n : Int) := by omega
        have HS : Hid (csubR l ls = some ps) := by
          show _ = _
          unfold csubR
          rw [if_pos HC.out, show l.length = k by have := HL.out.1; omega]
          exact HST.out
        have HBW := HB
        go_wp2
        go_ret2
        rw [HS.out]
        exact .inr ⟨ps, Ao, m, cap, rb, rc, rfl, by omega, rfl, HP.out, HBW.out⟩
end Go.Proofs.YtgebjnoicgmdoaaDoor

namespace Go.Proofs.YtgebjnoicgmdoaaDoor
open Go.RowKit

/-- where the marks of pair i begin -/
def pos (ln : Nat → Nat) (k : Nat) : Nat → Nat
  | 0 => k
  | i + 1 => pos ln k i + ln (2 * i) * 2 + 1 + ln (2 * i + 1) * 2
def mk (ln : Nat → Nat) (k i : Nat) : Nat := if i % 2 = 0 then pos ln k (i / 2) else pos ln k (i / 2) + ln (i - 1) * 2 + 1
end Go.Proofs.YtgebjnoicgmdoaaDoor

namespace Go.Proofs.YtgebjnoicgmdoaaDoor
open Go.RowKit
open Cs (Cn)

/-- what ConsSubst gives back: ps, of which there are m, each row of tokens a level -/
def CsbW (w : World) (ps : List Pr) (m : Nat) (ok : Bool) (e : Ending) (w' : World) : Prop :=
  ∃ A cap rb rc, e = .returned (.tuple #[.slice A m cap, .bool ok]) ∧ PairP w' w.heap.size w'.heap.size A cap m ps rb rc ∧ Below w.heap.size w w'
theorem csbW_of {w w' : World} {R : Option (List Pr)} {ps : List Pr} {m : Nat} {ok : Bool} {e : Ending} (h : CsbOut w R e w') (hps : R.getD [] = ps) (hm : ps.length = m) (hok : R.isSome = ok) : CsbW w ps m ok e w' := by
  rcases h with ⟨rfl, rfl, hb⟩ | ⟨qs, A, m', cap, rb, rc, rfl, _, rfl, hp, hb⟩
  · subst hps
    subst hok
    subst hm
    exact ⟨none, 0, fun _ => 0, fun _ => 0, rfl, ((PairO.nil w' w.heap.size _ _).words), hb⟩
  · subst hps
    subst hok
    obtain rfl : m' = m := by rw [← hm, ← hp.len]; rfl
    exact ⟨A, cap, rb, rc, rfl, hp.words, hb⟩
theorem sub1_len {ls : List (List (Int × Int))} {t : Cn} {qs : List Pr} (h : sub1 ls t = some qs) : qs.length ≤ 2 ∧ ∀ q ∈ qs, q.1.length ≤ 24 ∧ q.2.2.length ≤ 24 := by
  unfold sub1 at h
  split at h
  · rename_i u v hu hv
    injection h with h
    subst h
    have a := (sdR_ok hu).2.2
    have b := (sdR_ok hv).2.2
    by_cases e : t.2.1 = 2
    · rw [if_pos e]
      refine ⟨Nat.le_refl _, fun q hq => ?_⟩
      rcases List.mem_cons.1 hq with rfl | hq
      · exact ⟨a, b⟩
      · rcases List.mem_cons.1 hq with rfl | hq
        · exact ⟨b, a⟩
        · cases hq
    · rw [if_neg e]
      refine ⟨by simp, fun q hq => ?_⟩
      rcases List.mem_cons.1 hq with rfl | hq
      · exact ⟨a, b⟩
      · cases hq
  · cases h
theorem subTo_len {l : List Cn} {ls : List (List (Int × Int))} : ∀ {k : Nat} {ps : List Pr}, subTo l ls k = some ps → ps.length ≤ 2 * k ∧ ∀ q ∈ ps, q.1.length ≤ 24 ∧ q.2.2.length ≤ 24
  | 0, ps, h => by
    injection h with h
    subst h
    exact ⟨Nat.le_refl _, fun q hq => by cases hq⟩
  | k + 1, ps, h => by
    change (subTo l ls k).bind _ = _ at h
    cases h1 : subTo l ls k with
    | none => rw [h1] at h; cases h
    | some qs =>
      rw [h1] at h
      change (sub1 ls (l.getD k (0, 0, 0))).map _ = _ at h
      cases h2 : sub1 ls (l.getD k (0, 0, 0)) with
      | none => rw [h2] at h; cases h
      | some rs =>
        rw [h2] at h
        injection h with h
        subst h
        have a := subTo_len h1
        have b := sub1_len h2
        refine ⟨by rw [List.length_append]; omega, fun q hq => ?_⟩
        rcases List.mem_append.1 hq with hq | hq
        · exact a.2 q hq
        · exact b.2 q hq
theorem csub_len (l : List Cn) (ls : List (List (Int × Int))) : ((csubR l ls).getD []).length ≤ 48 ∧ ∀ i, i < 2 * ((csubR l ls).getD []).length → (toks ((csubR l ls).getD []) i).length ≤ 24 := by
  cases h : csubR l ls with
  | none => exact ⟨by decide, fun i hi => absurd hi (by simp)⟩
  | some ps =>
    show ps.length ≤ 48 ∧ ∀ i, i < 2 * ps.length → (toks ps i).length ≤ 24
    unfold csubR at h
    split at h
    · rename_i hc
      have a := subTo_len h
      have b := (consOkR_ok hc).2
      refine ⟨by omega, fun i hi => ?_⟩
      have hm : ps.getD (i / 2) pr0 ∈ ps := by
        rw [List.getD_eq_getElem?_getD, List.getElem?_eq_getElem (by omega), Option.getD_some]
        exact List.getElem_mem _
      unfold toks
      split
      · exact (a.2 _ hm).1
      · exact (a.2 _ hm).2
    · cases h
end Go.Proofs.YtgebjnoicgmdoaaDoor
