/- ConsSubst of the program. -/
import Derived.Test.YtgebjnoicgmdoaaDoorUnPairs
import Derived.Test.YtgebjnoicgmdoaaDoorSgHas

namespace Go.Proofs.YtgebjnoicgmdoaaDoor
open Go.RowKit
open Cs (Cn)

theorem pair_more {w : World} {base n : Nat} {v : Value} {xs : List Value} (h : w.ownsRow base 39 3 v (n + 1) xs) : ∃ g c, v = .slice (some ⟨g, 0, none⟩) (n + 1) c := by
  rcases h.2 with ⟨_, h0⟩ | ⟨g', cap', _, h0, _⟩
  · omega
  · exact ⟨g', cap', h0⟩
theorem pair_one (u v : Value) (b : Bool) (h1 : u.oneCell' = true) (h2 : v.oneCell' = true) : ∀ z ∈ [u, .bool b, v], z.oneCell' = true := by
  intro z hz
  simp only [List.mem_cons, List.not_mem_nil, or_false] at hz
  rcases hz with rfl | rfl | rfl
  · exact h1
  · rfl
  · exact h2
theorem pair_keep {w w' : World} {base bs x m c n : Nat} {l : List (Int × Int)} {v : Value} {xs : List Value} {o : Obj} (hz : OwnT w bs (some ⟨x, 0, none⟩) m c l) (h : w.ownsRow base 39 3 v n xs) (hg : (w.alloc o).grownBy w' v.ownBlock) : OwnT w' bs (some ⟨x, 0, none⟩) m c l :=
  (hz.alloc o).kept hg (by
    rcases own_apartK hz h (by decide) with q | q
    · exact .inl q
    · exact .inr fun e => q e)
/-- what ConsSubst gives back -/
def CsbOut (w : World) (r : Option (List Pr)) (e : Ending) (w' : World) : Prop :=
  (r = none ∧ e = .returned (.tuple #[.slice none 0 0, .bool false]) ∧ Below w.heap.size w w') ∨ ∃ ps A m cap rb rc, r = some ps ∧ m ≤ 48 ∧ e = .returned (.tuple #[.slice A m cap, .bool true]) ∧ PairO w' w.heap.size A cap m ps rb rc ∧ Below w.heap.size w w'
theorem csubR_bad {l : List Cn} {ls : List (List (Int × Int))} (h : consOkR l = false) : csubR l ls = none := if_neg (by rw [h]; decide)
theorem csubR_stop {l : List Cn} {ls : List (List (Int × Int))} {k : Nat} {ps : List Pr} {t : Cn} (hc : consOkR l = true) (hk : k < l.length) (h : subTo l ls k = some ps) (ht : l.getD k (0, 0, 0) = t) (h1 : sub1 ls t = none) : csubR l ls = none := by
  have h2 : subTo l ls (k + 1) = none := by
    show (subTo l ls k).bind _ = none
    rw [h]
    show (sub1 ls (l.getD k (0, 0, 0))).map _ = none
    rw [ht, h1]
    rfl
  unfold csubR
  rw [if_pos hc, show l.length = (k + 1) + (l.length - (k + 1)) by omega]
  exact subTo_stop h2 _
theorem subTo_go {l : List Cn} {ls : List (List (Int × Int))} {k : Nat} {ps qs : List Pr} {t : Cn} (h : subTo l ls k = some ps) (ht : l.getD k (0, 0, 0) = t) (h1 : sub1 ls t = some qs) : subTo l ls (k + 1) = some (ps ++ qs) := by
  show (subTo l ls k).bind _ = _
  rw [h]
  show (sub1 ls (l.getD k (0, 0, 0))).map _ = _
  rw [ht, h1]
  rfl

set_option maxRecDepth 100000 in
set_option maxHeartbeats 16000000 in
theorem implCSub_any (w : World) (B : Nat) (A : Option Addr) (n c : Nat) (l : List Cn) (A2 : Option Addr) (n2 c2 : Nat) (ls : List (List (Int × Int))) (T : TypeId) (pv : Value) (h0 : 0 < B) (hB : B ≤ w.heap.size) (hl : ConR w B A n l) (hn : (n : Int) ≤ 140737488355328) (hls : LvlR w B A2 n2 ls) (hn2 : (n2 : Int) ≤ 140737488355328) (hm : bulk ls ≤ 1048576) (hE : ErrAt w T pv) :
    Calls Tryd.prog 6 #[.slice A n c, .slice A2 n2 c2] w (CsbOut w (csubR l ls)) := by
  obtain ⟨i0, hi, hz0, hz1, hz2⟩ := info_parts info_pair
  have HL := Lib.hid hl
  have HLS := Lib.hid hls
  clear hl hls
  go_enter Tryd.func6, Tryd.ntmps6
  go_wp2_with fail
  refine (implConsOk_any w B A n c l hB HL.out hn).mono ?_
  rintro e w1 ⟨rfl, hb1⟩
  have HB1 := Lib.hid hb1
  have hs1 := hb1.size
  clear hb1
  cases hc : consOkR l with
  | false =>
    have HR := Lib.hid (csubR_bad (ls := ls) hc)
    clear hc
    go_wp2
    go_ret2
    rw [HR.out]
    exact .inl ⟨rfl, rfl, HB1.out⟩
  | true =>
    have HC := Lib.hid hc
    have hn24 : n ≤ 24 := by have h := (consOkR_ok hc).2; rw [HL.out.1] at h; exact h
    have HP0 := Lib.hid (PairO.nil w1 w.heap.size (fun _ => 0) (fun _ => 0))
    clear hc
    go_wp2
    go_loopw [18, 6] (fun i v wr => ∃ (k m : Nat) (Ao : Option Addr) (cap : Nat) (ps : List Pr) (rb rc : Nat → Nat), k ≤ n ∧ m ≤ 2 * k ∧ i = .int .i64 k ∧ v = .slice Ao m cap ∧ Hid (subTo l ls k = some ps) ∧ Hid (PairO wr w.heap.size Ao cap m ps rb rc) ∧ Hid (Below w.heap.size w wr)) (fun i _ _ => n - (intOf i).toNat)
    case atStart => exact ⟨0, 0, none, 0, [], _, _, Nat.zero_le _, Nat.zero_le _, rfl, rfl, rfl, HP0.out, HB1.out⟩
    case round =>
      clear HP0 HB1 hs1
      obtain ⟨k, m, Ao, cap, ps, rb, rc, hk, hmk, rfl, rfl, HST, HP, HB⟩ := hrel
      have hsr := HB.out.size
      by_cases hlt : k < n
      · have hki : (k : Int) < (n : Int) := by omega
        obtain ⟨b, off, rfl, hb, hcc⟩ := HL.out.2 (by omega)
        obtain ⟨d1, d2, d3⟩ := hcc k hlt
        have HLL : Hid (l.length = n) := HL.out.1
        obtain ⟨t, ht⟩ : ∃ t, l.getD k (0, 0, 0) = t := ⟨_, rfl⟩
        have hmem : t ∈ l := by
          rw [← ht, List.getD_eq_getElem?_getD, List.getElem?_eq_getElem (by rw [HLL.out]; exact hlt), Option.getD_some]
          exact List.getElem_mem _
        have hcok := (consOkR_ok HC.out).1 t hmem
        rw [ht] at d1 d2 d3
        obtain ⟨U, R, V⟩ := t
        have hbd := (Cs.cOk_iff _).1 hcok
        simp only at hbd d1 d2 d3
        obtain ⟨⟨u1, u5⟩, ⟨v1, v5⟩, r0, r2⟩ := hbd
        have HT := Lib.hid ht
        have HBW := HB
        have k1 := (HBW.out.cell (p := ⟨b, off + k * 3, none⟩) (by show b < _; omega)).trans d1
        have k2 := (HBW.out.cell (p := ⟨b, off + k * 3 + 1, none⟩) (by show b < _; omega)).trans d2
        have k3 := (HBW.out.cell (p := ⟨b, off + k * 3 + 2, none⟩) (by show b < _; omega)).trans d3
        obtain ⟨X1, hX1⟩ : ∃ X, wr.alloc (.cells #[.int .i64 U, .int .i64 R, .int .i64 V] 51) = X := ⟨_, rfl⟩
        have hx1 : Below wr.heap.size wr X1 := by rw [← hX1]; exact (Below.refl _ _).alloc (Nat.le_refl _) _
        have HK1 : Hid (Blk X1 wr.heap.size 51 #[.int .i64 U, .int .i64 R, .int .i64 V]) := by show Blk _ _ _ _; rw [← hX1]; exact Blk.made _ _ _
        have HX1 := Lib.hid (HBW.out.trans (hx1.mono HBW.out.size))
        have hsx1 := HX1.out.size
        have HP1 := Lib.hid (HP.out.below hx1)
        have hlo : wr.heap.size ≤ X1.heap.size := hx1.size
        have z0 : X1.cell? ⟨wr.heap.size, 0, none⟩ = some (.int .i64 U) := HK1.out.cell 0
        clear hcc hmem hcok d1 d2 d3 ht hx1
        go_wp2_with fail
        refine (implSide_any X1 B A2 n2 c2 ls U T pv h0 (by omega) (HLS.out.below (HX1.out.mono hB)) hn2 hm u1 (hE.below (HX1.out.mono hB) h0)).mono ?_
        clear z0 k1 k2 k3 hX1
        rintro e w2 (⟨hu, rfl, hb2⟩ | ⟨u, gu, cu, hu, rfl, hou, hb2⟩)
        · have HS := Lib.hid (csubR_stop HC.out (by rw [HLL.out]; exact hlt) HST.out HT.out (sub1_u hu))
          have z2 : w2.cell? ⟨wr.heap.size, 2, none⟩ = some (.int .i64 V) := (Blk.below HK1.out hb2 HK1.out.lt).cell 2
          have HX2 := Lib.hid (HX1.out.trans (hb2.mono hsx1))
          have hsx2 := HX2.out.size
          clear hu hb2
          go_wp2_with fail
          refine (implSide_any w2 B A2 n2 c2 ls V T pv h0 (by omega) (HLS.out.below (HX2.out.mono hB)) hn2 hm v1 (hE.below (HX2.out.mono hB) h0)).mono ?_
          rintro e w3 (⟨_, rfl, hb3⟩ | ⟨v, gv, cv, _, rfl, _, hb3⟩)
          · have HX3 := Lib.hid (HX2.out.trans (hb3.mono hsx2))
            clear hb3 z2
            go_wp2
            go_ret2
            rw [HS.out]
            exact .inl ⟨rfl, rfl, HX3.out⟩
          · have HX3 := Lib.hid (HX2.out.trans (hb3.mono hsx2))
            clear hb3 z2
            go_wp2
            go_ret2
            rw [HS.out]
            exact .inl ⟨rfl, rfl, HX3.out⟩
        · have hK2 := Blk.below HK1.out hb2 HK1.out.lt
          have HK2 := Lib.hid hK2
          have z2 : w2.cell? ⟨wr.heap.size, 2, none⟩ = some (.int .i64 V) := hK2.cell 2
          have HX2 := Lib.hid (HX1.out.trans (hb2.mono hsx1))
          have hsx2 := HX2.out.size
          have HP2 := Lib.hid (HP1.out.below hb2)
          have hgu := hou.lt gu rfl
          have HOU := Lib.hid hou
          have HU := Lib.hid hu
          have hs12 := hb2.size
          clear hu hb2 hou hK2
          go_wp2_with fail
          refine (implSide_any w2 B A2 n2 c2 ls V T pv h0 (by omega) (HLS.out.below (HX2.out.mono hB)) hn2 hm v1 (hE.below (HX2.out.mono hB) h0)).mono ?_
          clear z2
          rintro e w3 (⟨hv, rfl, hb3⟩ | ⟨v, gv, cv, hv, rfl, hov, hb3⟩)
          · have HS := Lib.hid (csubR_stop HC.out (by rw [HLL.out]; exact hlt) HST.out HT.out (sub1_v hv))
            have HX3 := Lib.hid (HX2.out.trans (hb3.mono hsx2))
            clear hb3 hv
            go_wp2
            go_ret2
            rw [HS.out]
            exact .inl ⟨rfl, rfl, HX3.out⟩
          · have HX3 := Lib.hid (HX2.out.trans (hb3.mono hsx2))
            have hsx3 := HX3.out.size
            have HP3 := Lib.hid (HP2.out.below hb3)
            have hgv := hov.lt gv rfl
            have hK3 := Blk.below HK2.out hb3 HK2.out.lt
            have HK3 := Lib.hid hK3
            have HS := Lib.hid (subTo_go HST.out HT.out (sub1_y HU.out hv))
            have hou3 : OwnT w3 w.heap.size (some ⟨gu, 0, none⟩) u.length cu u := own_base (own_below' HOU.out hb3) hsx1
            have hov3 : OwnT w3 w.heap.size (some ⟨gv, 0, none⟩) v.length cv v := own_base hov hsx2
            have hxy : gu ≠ gv := by omega
            have hxo : ∀ i, i < 2 * m → rb i ≠ gu := fun i hi => by have := HP.out.lt hi; omega
            have hxv : ∀ i, i < 2 * m → rb i ≠ gv := fun i hi => by have := HP.out.lt hi; omega
            have hul := (sdR_ok HU.out).2
            have hvl := (sdR_ok hv).2
            have z1 : w3.cell? ⟨wr.heap.size, 1, none⟩ = some (.int .i64 R) := hK3.cell 1
            have hR3 : R = 0 ∨ R = 1 ∨ R = 2 := by omega
            have hs23 := hb3.size
            clear hb3 hov hK3 hv
            rcases hR3 with rfl | rfl | rfl
            · have HT2 : Hid (subTo l ls (k + 1) = some (ps ++ [(u, false, v)])) := by show _ = _; rw [HS.out]; simp
              go_wp2_with (at_builtin; refine wpList_append_own _ rfl (.tmp 42) (.tmp 49) 28 rfl w.heap.size 39 i0 (.agg #[.slice none 0 0, .bool false, .slice none 0 0]) 3 56 Tryd.underlying28 hi hz0 hz1 hz2 rfl (by decide) (.slice Ao m cap) m (pairVs rb rc ps) rfl (HP3.out.out.alloc _) ⟨w3.heap.size, 0, none⟩ 1 1 [.slice (some ⟨gu, 0, none⟩) u.length cu, .bool false, .slice (some ⟨gv, 0, none⟩) v.length cv] rfl rfl (pair_new w3 _ _ _) (pair_one _ _ _ rfl rfl) (by unfold maxLen; omega) (by omega) (by simp; omega) ?_; intro v' w9 hown' hgrow hnil; obtain ⟨gw9, cw9, rfl⟩ := pair_more hown'; have hb9 : Below w.heap.size w w9 := (HX3.out.alloc hsx3 _).grown hgrow (by simp; omega) (fun x h => (HP3.out.out.lt x h).1); have hP9 : PairO w9 w.heap.size (some ⟨gw9, 0, none⟩) cw9 (m + 1) (ps ++ [(u, false, v)]) (ins rb m gu gv) (ins rc m cu cv) := PairO.add (t := (u, false, v)) (HP3.out.below ((Below.refl _ _).alloc (Nat.le_refl _) _)) rfl hgrow (hou3.alloc _) (hov3.alloc _) hxy hxo hxv hown'; have y1 : w9.cell? ⟨wr.heap.size, 1, none⟩ = some (.int .i64 0) := (((HK3.out.alloc _).grown hgrow (fun he => own_apart HP3.out.out HK3.out (by decide) he.symm)).cell 1); clear hown' hgrow hnil)
              go_roundw
              case rel => exact ⟨k + 1, m + 1, _, _, _, _, _, by omega, by omega, by go_num, rfl, HT2.out, hP9, hb9⟩
              case measure => simp [intOf]; omega
            · have HT2 : Hid (subTo l ls (k + 1) = some (ps ++ [(u, true, v)])) := by show _ = _; rw [HS.out]; simp
              go_wp2_with (at_builtin; refine wpList_append_own _ rfl (.tmp 42) (.tmp 49) 28 rfl w.heap.size 39 i0 (.agg #[.slice none 0 0, .bool false, .slice none 0 0]) 3 56 Tryd.underlying28 hi hz0 hz1 hz2 rfl (by decide) (.slice Ao m cap) m (pairVs rb rc ps) rfl (HP3.out.out.alloc _) ⟨w3.heap.size, 0, none⟩ 1 1 [.slice (some ⟨gu, 0, none⟩) u.length cu, .bool true, .slice (some ⟨gv, 0, none⟩) v.length cv] rfl rfl (pair_new w3 _ _ _) (pair_one _ _ _ rfl rfl) (by unfold maxLen; omega) (by omega) (by simp; omega) ?_; intro v' w9 hown' hgrow hnil; obtain ⟨gw9, cw9, rfl⟩ := pair_more hown'; have hb9 : Below w.heap.size w w9 := (HX3.out.alloc hsx3 _).grown hgrow (by simp; omega) (fun x h => (HP3.out.out.lt x h).1); have hP9 : PairO w9 w.heap.size (some ⟨gw9, 0, none⟩) cw9 (m + 1) (ps ++ [(u, true, v)]) (ins rb m gu gv) (ins rc m cu cv) := PairO.add (t := (u, true, v)) (HP3.out.below ((Below.refl _ _).alloc (Nat.le_refl _) _)) rfl hgrow (hou3.alloc _) (hov3.alloc _) hxy hxo hxv hown'; have y1 : w9.cell? ⟨wr.heap.size, 1, none⟩ = some (.int .i64 1) := (((HK3.out.alloc _).grown hgrow (fun he => own_apart HP3.out.out HK3.out (by decide) he.symm)).cell 1); clear hown' hgrow hnil)
              go_roundw
              case rel => exact ⟨k + 1, m + 1, _, _, _, _, _, by omega, by omega, by go_num, rfl, HT2.out, hP9, hb9⟩
              case measure => simp [intOf]; omega
            · have HT2 : Hid (subTo l ls (k + 1) = some ((ps ++ [(u, false, v)]) ++ [(v, false, u)])) := by show _ = _; rw [HS.out]; simp
              go_wp2_with (at_builtin; refine wpList_append_own _ rfl (.tmp 42) (.tmp 49) 28 rfl w.heap.size 39 i0 (.agg #[.slice none 0 0, .bool false, .slice none 0 0]) 3 56 Tryd.underlying28 hi hz0 hz1 hz2 rfl (by decide) (.slice Ao m cap) m (pairVs rb rc ps) rfl (HP3.out.out.alloc _) ⟨w3.heap.size, 0, none⟩ 1 1 [.slice (some ⟨gu, 0, none⟩) u.length cu, .bool false, .slice (some ⟨gv, 0, none⟩) v.length cv] rfl rfl (pair_new w3 _ _ _) (pair_one _ _ _ rfl rfl) (by unfold maxLen; omega) (by omega) (by simp; omega) ?_; intro v' w9 hown' hgrow hnil; obtain ⟨gw9, cw9, rfl⟩ := pair_more hown'; have hb9 : Below w.heap.size w w9 := (HX3.out.alloc hsx3 _).grown hgrow (by simp; omega) (fun x h => (HP3.out.out.lt x h).1); have hP9 : PairO w9 w.heap.size (some ⟨gw9, 0, none⟩) cw9 (m + 1) (ps ++ [(u, false, v)]) (ins rb m gu gv) (ins rc m cu cv) := PairO.add (t := (u, false, v)) (HP3.out.below ((Below.refl _ _).alloc (Nat.le_refl _) _)) rfl hgrow (hou3.alloc _) (hov3.alloc _) hxy hxo hxv hown'; have y1 : w9.cell? ⟨wr.heap.size, 1, none⟩ = some (.int .i64 2) := (((HK3.out.alloc _).grown hgrow (fun he => own_apart HP3.out.out HK3.out (by decide) he.symm)).cell 1); have hou9 := pair_keep hou3 HP3.out.out hgrow; have hov9 := pair_keep hov3 HP3.out.out hgrow; clear hown' hgrow hnil)
              have hs9 := hb9.size
              have HP9 := Lib.hid hP9
              have HX9 := Lib.hid hb9
              refine (cloneT_any w9 w9.heap.size (some ⟨gv, 0, none⟩) v.length cv v (Nat.le_refl _) (OwnT.reads hov9) hvl.1 (by omega)).mono ?_
              clear y1
              rintro e w10 ⟨ga, ca, rfl, hoa, hb10⟩
              have hga := hoa.lt ga rfl
              have hs10 := hb10.size
              have hou10 := own_below' hou9 hb10
              go_wp2_with fail
              refine (cloneT_any w10 w10.heap.size (some ⟨gu, 0, none⟩) u.length cu u (Nat.le_refl _) (OwnT.reads hou10) hul.1 (by omega)).mono ?_
              rintro e w11 ⟨gb, cb, rfl, hob, hb11⟩
              have hgb := hob.lt gb rfl
              have hov11 : OwnT w11 w.heap.size (some ⟨ga, 0, none⟩) v.length ca v := own_base (own_below' hoa hb11) (by omega)
              have hou11 : OwnT w11 w.heap.size (some ⟨gb, 0, none⟩) u.length cb u := own_base hob (by omega)
              have HP11 := Lib.hid ((HP9.out.below hb10).below hb11)
              have HX11 := Lib.hid ((HX9.out.trans (hb10.mono hs9)).trans (hb11.mono (by omega)))
              have hsx11 := HX11.out.size
              have hab : ga ≠ gb := by omega
              have hao : ∀ i, i < 2 * (m + 1) → ins rb m gu gv i ≠ ga := fun i hi => by have := HP9.out.lt hi; omega
              have hbo : ∀ i, i < 2 * (m + 1) → ins rb m gu gv i ≠ gb := fun i hi => by have := HP9.out.lt hi; omega
              clear hoa hob hb10 hb11 hou10 hou9 hov9 hP9 hb9
              go_wp2_with (at_builtin; refine wpList_append_own _ rfl (.tmp 54) (.tmp 60) 28 rfl w.heap.size 39 i0 (.agg #[.slice none 0 0, .bool false, .slice none 0 0]) 3 56 Tryd.underlying28 hi hz0 hz1 hz2 rfl (by decide) (.slice (some ⟨gw9, 0, none⟩) (m + 1) cw9) (m + 1) (pairVs (ins rb m gu gv) (ins rc m cu cv) (ps ++ [(u, false, v)])) rfl (HP11.out.out.alloc _) ⟨w11.heap.size, 0, none⟩ 1 1 [.slice (some ⟨ga, 0, none⟩) v.length ca, .bool false, .slice (some ⟨gb, 0, none⟩) u.length cb] rfl rfl (pair_new w11 _ _ _) (pair_one _ _ _ rfl rfl) (by unfold maxLen; omega) (by omega) (by simp; omega) ?_; intro v' w12 hown' hgrow hnil; obtain ⟨gw12, cw12, rfl⟩ := pair_more hown'; have hb12 : Below w.heap.size w w12 := (HX11.out.alloc hsx11 _).grown hgrow (by simp; omega) (fun x h => (HP11.out.out.lt x h).1); have hP12 : PairO w12 w.heap.size (some ⟨gw12, 0, none⟩) cw12 (m + 1 + 1) ((ps ++ [(u, false, v)]) ++ [(v, false, u)]) (ins (ins rb m gu gv) (m + 1) ga gb) (ins (ins rc m cu cv) (m + 1) ca cb) := PairO.add (t := (v, false, u)) (HP11.out.below ((Below.refl _ _).alloc (Nat.le_refl _) _)) rfl hgrow (hov11.alloc _) (hou11.alloc _) hab hao hbo hown'; clear hown' hgrow hnil)
              go_roundw
              case rel => exact ⟨k + 1, m + 1 + 1, _, _, _, _, _, by omega, by omega, by go_num, rfl, HT2.out, hP12, hb12⟩
              case measure => simp [intOf]; omega
      · have hki : ¬ (k : Int) < (n : Int) := by omega
        have HS : Hid (csubR l ls = some ps) := by
          show _ = _
          unfold csubR
          rw [if_pos HC.out, show l.length = k by have := HL.out.1; omega]
          exact HST.out
        have HBW := HB
        go_wp2
        go_ret2
        rw [HS.out]
        exact .inr ⟨ps, Ao, m, cap, rb, rc, rfl, by omega, rfl, HP.out, HBW.out⟩
end Go.Proofs.YtgebjnoicgmdoaaDoor
