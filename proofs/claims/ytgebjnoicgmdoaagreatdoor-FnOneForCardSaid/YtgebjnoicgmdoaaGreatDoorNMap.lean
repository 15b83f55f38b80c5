/- The reference model's norm of a list of atoms. -/
/- The program's map of the greatest Offs, and whether its number is redundant. -/
import Derived.Test.YtgebjnoicgmdoaaGreatDoorNUp
import Derived.Maps.RangeWalk
import Derived.Maps.OwnSet

namespace Go.Proofs.YtgebjnoicgmdoaaGreatDoor
open Go.RowKit

set_option maxRecDepth 100000 in
theorem own_lit (w : World) (base : Nat) (a b : Int) (hb : base ≤ w.heap.size) : OwnA (w.alloc (.cells #[.int .i64 a, .int .i64 b] 92)) base (some ⟨w.heap.size, 0, none⟩) 1 1 [(a, b)] :=
  ⟨rfl, .inr ⟨w.heap.size, 1, #[.int .i64 a, .int .i64 b], rfl, hb, heap_alloc_new w _, Nat.le_refl _, by simp [maxLen], rfl, rfl⟩⟩

set_option maxRecDepth 100000 in
set_option maxHeartbeats 3200000 in
theorem specNorm_any (w : World) (B : Nat) (A : Option Addr) (n c : Nat) (l : List (Int × Int)) (hB : B ≤ w.heap.size) (hl : TokR w B A n l) (hn : (n : Int) ≤ 140737488355328) :
    Calls Tryz.prog 153 #[.slice A n c] w fun e w' => ∃ g cap, e = .returned (.slice (some ⟨g, 0, none⟩) (Nm.norm l).length cap) ∧ OwnA w' w.heap.size (some ⟨g, 0, none⟩) (Nm.norm l).length cap (Nm.norm l) ∧ Below w.heap.size w w' := by
  obtain ⟨i0, hi, hz0, hz1, hz2⟩ := info_parts info_atom
  have HO0 : Hid (OwnA (w.alloc (.cells #[] 92)) w.heap.size (some ⟨w.heap.size, 0, none⟩) 0 0 []) := World.ownsRow_made w #[] 0 (Nat.le_refl _) (by simp [maxLen]) (by simp)
  have HB0 : Hid (Below w.heap.size w (w.alloc (.cells #[] 92))) := (Below.refl _ _).alloc (Nat.le_refl _) _
  go_enter Tryz.func153, Tryz.ntmps153
  go_wp2
  go_loopw [3, 4, 5] (fun v m p wr => ∃ (k g cap : Nat), k ≤ 5 ∧ p = .int .i64 k ∧ m = .int .i64 (Nm.most l k) ∧ v = .slice (some ⟨g, 0, none⟩) (Nm.pars l k).length cap ∧ OwnA wr w.heap.size (some ⟨g, 0, none⟩) (Nm.pars l k).length cap (Nm.pars l k) ∧ Below w.heap.size w wr) (fun _ _ p _ => 5 - (intOf p).toNat)
  case atStart => exact ⟨0, w.heap.size, 0, by omega, rfl, rfl, rfl, HO0.out, HB0.out⟩
  case round =>
    obtain ⟨k, g, cap, hk, rfl, rfl, rfl, hown, hbel⟩ := hrel
    have hszr := hbel.size
    have hpl := Nm.pars_len l k
    by_cases hlt : k < 5
    · have HOW := Lib.hid hown
      have hlr := hl.below (hbel.mono hB)
      have hmg := Nm.most_ge l k
      have HPS := Lib.hid (Nm.pars_succ l k)
      have HMS : Hid (Nm.most l (k + 1) = max (Nm.most l k) (Nm.best k l)) := rfl
      have hki : (k : Int) < 5 := by omega
      clear hown
      generalize Nm.most l k = mv at hmg HMS ⊢
      go_wp2
      go_loop [6, 7] (fun v i => ∃ j : Nat, j ≤ n ∧ i = .int .i64 j ∧ v = .int .i64 (Nm.best k (l.take j))) (fun _ i => n - (intOf i).toNat)
      case atStart => exact ⟨0, Nat.zero_le _, rfl, rfl⟩
      case round =>
        obtain ⟨j, hj, rfl, rfl⟩ := hrel
        by_cases hlt2 : j < n
        · have HBT := Lib.hid (Nm.best_take k l j (by rw [hl.1]; exact hlt2))
          obtain ⟨b, off, rfl, hb, hc⟩ := hlr.2 (by omega)
          obtain ⟨e1, e2⟩ := hc j hlt2
          generalize Nm.best k (l.take j) = bv at HBT ⊢
          generalize l.getD j (0, 0) = t at e1 e2 HBT
          obtain ⟨p, x⟩ := t
          simp only at e1 e2 HBT
          have HL := Lib.hid hl
          have HLR := Lib.hid hlr
          have hji : (j : Int) < (n : Int) := by omega
          clear hc hl hlr
          by_cases ep : p = (k : Int)
          · subst ep
            have HB2 : Hid (Nm.best k (l.take (j + 1)) = if bv < x then x else bv) := by show _ = _; rw [HBT.out, if_pos rfl]; split <;> omega
            go_wp2
            go_round
            case rel => exact ⟨j + 1, by omega, by go_num, by rw [HB2.out]⟩
            case measure => simp [intOf]; omega
          · have HB2 : Hid (Nm.best k (l.take (j + 1)) = bv) := by show _ = _; rw [HBT.out, if_neg ep]
            have dp : (p == (k : Int)) = false := by simpa using ep
            clear ep
            go_wp2
            go_round
            case rel => exact ⟨j + 1, by omega, by go_num, by rw [HB2.out]⟩
            case measure => simp [intOf]; omega
        · rw [List.take_of_length_le (by have := hl.1; omega)]
          have hbg := Nm.best_ge k l
          generalize Nm.best k l = bv at HPS HMS hbg ⊢
          clear hlr
          by_cases h0 : 0 ≤ bv
          · have HM2 : Hid (Nm.most l (k + 1) = if mv < bv then bv else mv) := by show _ = _; rw [HMS.out]; split <;> omega
            have HP2 : Hid (Nm.pars l (k + 1) = Nm.pars l k ++ [((k : Int), bv)]) := by show _ = _; rw [HPS.out, if_pos h0]
            generalize Nm.pars l k = a at HOW hpl HP2 ⊢
            have HNB : Hid (∀ j u, ([Value.int .i64 (k : Int), .int .i64 bv] : List Value)[j]? = some u → (wr.alloc (.cells #[.int .i64 (k : Int), .int .i64 bv] 92)).cell? ((⟨wr.heap.size, 0, none⟩ : Addr).add j) = some u) := World.news_of_block (cs := #[.int .i64 (k : Int), .int .i64 bv]) (t := 92) (fr := (0, 0)) (heap_alloc_new wr _)
            have HL := Lib.hid hl
            clear hl
            go_wp2_with (at_builtin; first
              | (refine wpList_append_own _ rfl (.tmp 37) (.tmp 41) 138 rfl w.heap.size 92 i0 (.agg #[.int .i64 0, .int .i64 0]) 2 16 Tryz.underlying138 hi hz0 hz1 hz2 rfl (by decide) (.slice (some ⟨g, 0, none⟩) a.length cap) a.length (tokCells a) rfl (HOW.out.alloc _) ⟨wr.heap.size, 0, none⟩ 1 1 [.int .i64 (k : Int), .int .i64 bv] rfl rfl HNB.out (by intro v hv; simp at hv; rcases hv with rfl | rfl <;> rfl) (by unfold maxLen; omega) (by omega) (by simp; omega) ?_; intro v' w3 hown' hgrow _
                 obtain ⟨g', cap', rfl⟩ : ∃ g' cap', v' = .slice (some ⟨g', 0, none⟩) (a.length + 1) cap' := by
                   rcases hown'.2 with ⟨_, h⟩ | ⟨g', cap', _, h, _⟩
                   · omega
                   · exact ⟨g', cap', h⟩
                 have HB3 : Hid (Below w.heap.size w w3) := (hbel.alloc hszr _).grown hgrow (by simp; omega) (fun j h => (HOW.out.lt j h).1)
                 have HLN : Hid ((Nm.pars l (k + 1)).length = a.length + 1) := by show _ = _; rw [HP2.out, List.length_append]; rfl
                 have HW : Hid (OwnA w3 w.heap.size (some ⟨g', 0, none⟩) (Nm.pars l (k + 1)).length cap' (Nm.pars l (k + 1))) := by
                   show OwnA _ _ _ _ _ _
                   rw [HLN.out, HP2.out]
                   unfold OwnA
                   rw [tokCells_append]
                   exact hown'
                 clear hown' hgrow))
            go_wp2
            go_roundw
            case rel => exact ⟨k + 1, g', cap', by omega, by go_num, by rw [HM2.out], by rw [HLN.out], HW.out, HB3.out⟩
            case measure => simp [intOf]; omega
          · have hb1 : bv = -1 := by omega
            subst hb1
            have HM2 : Hid (Nm.most l (k + 1) = mv) := by show _ = _; rw [HMS.out]; omega
            have HP2 : Hid (Nm.pars l (k + 1) = Nm.pars l k) := by show _ = _; rw [HPS.out, if_neg (by omega), List.append_nil]
            have HL := Lib.hid hl
            clear hl
            go_wp2
            go_roundw
            case rel => exact ⟨k + 1, g, cap, by omega, by go_num, by rw [HM2.out], by rw [HP2.out], by rw [HP2.out]; exact HOW.out, hbel⟩
            case measure => simp [intOf]; omega
    · obtain rfl : k = 5 := by omega
      have HOW := Lib.hid hown
      have hlr := hl.below (hbel.mono hB)
      have HNM : Hid (Nm.norm l = (if Nm.most l 5 < Nm.best (-1) l then [((-1 : Int), Nm.best (-1) l)] else []) ++ Nm.pars l 5) := rfl
      clear hown
      generalize Nm.most l 5 = mv at HNM ⊢
      generalize Nm.pars l 5 = a at HOW hpl HNM ⊢
      go_wp2
      go_loop [8, 9] (fun v i => ∃ j : Nat, j ≤ n ∧ i = .int .i64 j ∧ v = .int .i64 (Nm.best (-1) (l.take j))) (fun _ i => n - (intOf i).toNat)
      case atStart => exact ⟨0, Nat.zero_le _, rfl, rfl⟩
      case round =>
        obtain ⟨j, hj, rfl, rfl⟩ := hrel
        by_cases hlt2 : j < n
        · have HBT := Lib.hid (Nm.best_take (-1) l j (by rw [hl.1]; exact hlt2))
          obtain ⟨b, off, rfl, hb, hc⟩ := hlr.2 (by omega)
          obtain ⟨e1, e2⟩ := hc j hlt2
          generalize Nm.best (-1) (l.take j) = bv at HBT ⊢
          generalize l.getD j (0, 0) = t at e1 e2 HBT
          obtain ⟨p, x⟩ := t
          simp only at e1 e2 HBT
          have HL := Lib.hid hl
          have HLR := Lib.hid hlr
          have hji : (j : Int) < (n : Int) := by omega
          clear hc hl hlr
          by_cases ep : p = -1
          · subst ep
            have HB2 : Hid (Nm.best (-1) (l.take (j + 1)) = if bv < x then x else bv) := by show _ = _; rw [HBT.out, if_pos rfl]; split <;> omega
            go_wp2
            go_round
            case rel => exact ⟨j + 1, by omega, by go_num, by rw [HB2.out]⟩
            case measure => simp [intOf]; omega
          · have HB2 : Hid (Nm.best (-1) (l.take (j + 1)) = bv) := by show _ = _; rw [HBT.out, if_neg ep]
            have dp : (p == -1) = false := by simpa using ep
            clear ep
            go_wp2
            go_round
            case rel => exact ⟨j + 1, by omega, by go_num, by rw [HB2.out]⟩
            case measure => simp [intOf]; omega
        · rw [List.take_of_length_le (by have := hl.1; omega)]
          generalize Nm.best (-1) l = bv at HNM ⊢
          clear hlr
          by_cases hmb : mv < bv
          · have HN2 : Hid (Nm.norm l = [((-1 : Int), bv)] ++ a) := by show _ = _; rw [HNM.out, if_pos hmb]
            have HLN : Hid ((Nm.norm l).length = 1 + a.length) := by show _ = _; rw [HN2.out, List.length_append]; rfl
            have HSRC := Lib.hid (OwnA.reads (HOW.out.alloc (.cells #[.int .i64 (-1), .int .i64 bv] 92)))
            have HSC : Hid (∀ j u, (tokCells a)[j]? = some u → (wr.alloc (.cells #[.int .i64 (-1), .int .i64 bv] 92)).cell? ((⟨g, 0, none⟩ : Addr).add j) = some u) := fun j u hu => (HOW.out.alloc _).cells (g := g) rfl j u hu
            have HL := Lib.hid hl
            clear hl
            go_wp2_with (at_builtin; first
              | (refine wpList_append_own _ rfl (.tmp 70) (.tmp 71) 138 rfl w.heap.size 92 i0 (.agg #[.int .i64 0, .int .i64 0]) 2 16 Tryz.underlying138 hi hz0 hz1 hz2 rfl (by decide) (.slice (some ⟨wr.heap.size, 0, none⟩) 1 1) 1 (tokCells [(-1, bv)]) rfl (own_lit wr w.heap.size (-1) bv hszr) ⟨g, 0, none⟩ a.length cap (tokCells a) rfl (tokCells_len a) HSC.out (tokCells_one a) (by unfold maxLen; omega) (by omega) (by simp; omega) ?_; intro v' w3 hown' hgrow hnil))
            obtain ⟨g', cap', rfl⟩ : ∃ g' cap', v' = .slice (some ⟨g', 0, none⟩) (1 + a.length) cap' := by
              rcases hown'.2 with ⟨_, h⟩ | ⟨g', cap', _, h, _⟩
              · omega
              · exact ⟨g', cap', h⟩
            have HB3 : Hid (Below w.heap.size w w3) := (hbel.alloc hszr _).grown hgrow (by simp; omega) (fun j h => by have h' : wr.heap.size = j := (by simpa [Value.ownBlock] using h); omega)
            have HW : Hid (OwnA w3 w.heap.size (some ⟨g', 0, none⟩) (Nm.norm l).length cap' (Nm.norm l)) := by
              show OwnA _ _ _ _ _ _
              rw [HLN.out, HN2.out]
              unfold OwnA
              rw [tokCells_append]
              exact hown'
            clear hown' hgrow hnil
            go_wp2
            go_ret
            exact ⟨g', cap', by rw [HLN.out]; rfl, HW.out, HB3.out⟩
          · have HN2 : Hid (Nm.norm l = a) := by show _ = _; rw [HNM.out, if_neg hmb, List.nil_append]
            have hmb' : bv ≤ mv := by omega
            clear hl hmb
            go_wp2
            go_ret
            exact ⟨g, cap, by rw [HN2.out]; rfl, by rw [HN2.out]; exact HOW.out, hbel⟩
end Go.Proofs.YtgebjnoicgmdoaaGreatDoor

namespace Go.Proofs.YtgebjnoicgmdoaaGreatDoor
open Go.RowKit Go.Maps

set_option maxRecDepth 100000 in
theorem lawInt : Keyed Tryz.prog 3 := int_keyed Tryz.underlying3
set_option maxRecDepth 100000 in
theorem zeroInt (w : World) : (zeroValue 3).run Tryz.prog w = .ok (.int .i64 0) w := by kernel_rfl
abbrev ik (p : Int) : Lit := .int .i64 p
/-- the map D reads as: u tells its keys, o what stands at them -/
def Reads (D : DataW Unit) (u : Int → Bool) (o : Int → Int) : Prop := ∀ p : Int, Maps.has D (ik p) = u p ∧ (u p = true → ∀ z, D.atKey (ik p) z = .lit (.int .i64 (o p)))
def hasB (l : List (Int × Int)) (p : Int) : Bool := decide (0 ≤ Nm.best p l)
def GM (D : DataW Unit) (l : List (Int × Int)) : Prop := Reads D (hasB l) (fun p => Nm.best p l)

theorem gm_start : GM (.map []) [] := fun p => ⟨by simp [Maps.has, hasB, Nm.best], fun h => by simp [hasB, Nm.best] at h⟩
theorem ik_ne {p q : Int} (h : q ≠ p) : ik q ≠ ik p := by intro e; injection e with _ e; exact h e
theorem ik_key (p : Int) : WideAt.IsKeyLit (ik p) := trivial
theorem gm_step {D : DataW Unit} {l : List (Int × Int)} {k : Nat} {p x c : Int} (hk : k < l.length) (hp : l.getD k (0, 0) = (p, x)) (hx : 0 ≤ x) (h : GM D (l.take k)) (hD : IsMap D) (hc : D.atKey (ik p) (.lit (.int .i64 0)) = .lit (.int .i64 c)) :
    GM (D.put (ik p) (.lit (.int .i64 (if c < x then x else c)))) (l.take (k + 1)) := by
  intro q
  have hb := Nm.best_take q l k hk
  rw [hp] at hb
  simp only at hb
  have hge := Nm.best_ge q (l.take k)
  by_cases e : q = p
  · subst e
    rw [if_pos rfl] at hb
    have hcv : c = max (Nm.best q (l.take k)) 0 := by
      have h1 := h q
      by_cases hh : hasB (l.take k) q = true
      · have h2 : D.atKey (ik q) (.lit (.int .i64 0)) = .lit (.int .i64 (Nm.best q (l.take k))) := h1.2 hh (.lit (.int .i64 0))
        rw [h2] at hc
        injection hc with hc
        injection hc with _ hc
        simp [hasB] at hh
        omega
      · have h3 : Maps.has D (ik q) = false := by rw [h1.1]; simpa using hh
        rw [atKey_of_not_has h3] at hc
        injection hc with hc
        injection hc with _ hc
        simp [hasB] at hh
        omega
    have hv : (if c < x then x else c) = Nm.best q (l.take (k + 1)) := by rw [hb]; split <;> omega
    refine ⟨?_, fun _ z => ?_⟩
    · rw [has_put_same hD (ik_key q), hasB, hb]; symm; simp; omega
    · rw [atKey_put_same hD (ik_key q), hv]
  · rw [if_neg (fun h => e h.symm)] at hb
    have h1 := h q
    refine ⟨?_, fun hu z => ?_⟩
    · rw [has_put_other (ik_ne e), h1.1, hasB, hasB, hb]
    · rw [atKey_put_other (ik_ne e)]
      have := h1.2 (by rw [hasB] at hu ⊢; rw [hb] at hu; exact hu) z
      rw [this]
      show DataW.lit (.int .i64 (Nm.best q (l.take k))) = .lit (.int .i64 (Nm.best q (l.take (k + 1))))
      rw [hb]

set_option maxRecDepth 100000 in
set_option maxHeartbeats 1600000 in
theorem greatestOffs_any (w : World) (B : Nat) (A : Option Addr) (n c : Nat) (l : List (Int × Int)) (hB : B ≤ w.heap.size) (hl : TokR w B A n l) (hn : n ≤ 100) (hok : Nm.AllOk l) :
    Calls Tryz.prog 162 #[.slice A n c] w fun e w' => ∃ D : DataW Unit, e = .returned (.map (some w.heap.size)) ∧ w'.ownsMap Tryz.prog 3 (plainElem Tryz.prog 3) w.heap.size n D ∧ GM D l ∧ Below w.heap.size w w' := by
  have hmm := @run_makeMap Tryz.prog
  have HOK := Lib.hid hok
  clear hok
  go_enter Tryz.func162, Tryz.ntmps162
  go_wp2
  go_loopw [9] (fun i wr => ∃ (k : Nat) (D : DataW Unit), k ≤ n ∧ i = .int .i64 k ∧ wr.ownsMap Tryz.prog 3 (plainElem Tryz.prog 3) w.heap.size k D ∧ Hid (GM D (l.take k)) ∧ Below w.heap.size w wr) (fun i _ => n - (intOf i).toNat)
  case atStart => exact ⟨0, .map [], Nat.zero_le _, rfl, World.ownsMap_made _ _ _ _, gm_start, (Below.refl _ _).alloc (Nat.le_refl _) _⟩
  case round =>
    obtain ⟨k, D, hk, rfl, hown, HG, hbel⟩ := hrel
    by_cases hlt : k < n
    · have hkl : k < l.length := by rw [hl.1]; exact hlt
      have hat := (Nm.atOk_iff _).1 (HOK.out k hkl)
      obtain ⟨b, off, rfl, hb, hc⟩ := hl.2 (by omega)
      obtain ⟨e1, e2⟩ := hc k hlt
      obtain ⟨t, ht⟩ : ∃ t, l.getD k (0, 0) = t := ⟨_, rfl⟩
      rw [ht] at e1 e2 hat
      obtain ⟨p, x⟩ := t
      simp only at hat e1 e2
      obtain ⟨g1, g2, g3, g4⟩ := hat
      have HT := Lib.hid ht
      have k1 := (hbel.cell (p := ⟨b, off + k * 2, none⟩) (by show b < _; omega)).trans e1
      have k2 := (hbel.cell (p := ⟨b, off + k * 2 + 1, none⟩) (by show b < _; omega)).trans e2
      have hwp : (Lit.int .i64 p).wf = true := WalkArith.wf_i64 (by omega)
      have hwx : (Lit.int .i64 x).wf = true := WalkArith.wf_i64 (by omega)
      have hkey := keyOf_int_mk Tryz.underlying3 hwp
      have HWF : Hid (∀ c, (Lit.int .i64 c).wf = true → (Lit.int .i64 (if c < x then x else c)).wf = true) := by intro c h; split <;> assumption
      have hownA : (wr.alloc (.cells #[.int .i64 p, .int .i64 x] 92)).ownsMap Tryz.prog 3 (plainElem Tryz.prog 3) w.heap.size k D := hown.alloc _
      have HBA := Lib.hid (hbel.alloc hbel.size (.cells #[.int .i64 p, .int .i64 x] 92))
      have HIM := Lib.hid hown.isMap
      have HKL := Lib.hid hkl
      clear e1 e2 hc hl ht hown hwp hwx hkl
      go_wp2_with (first
        | (at_lookup; refine wpList_lookup_own_int _ rfl _ _ 214 rfl 3 3 .i64 lawInt Tryz.underlying214 Tryz.underlying3 (zeroInt _) w.heap.size k _ rfl hownA _ _ rfl hkey ?_; intro c hat hwc)
        | (at_mapUpdate; refine wpList_mapUpdate_own _ rfl _ _ _ 214 rfl 3 3 lawInt Tryz.underlying214 _ w.heap.size k _ rfl hownA (by unfold maxLen; omega) _ _ _ rfl rfl hkey _ [] (plainElem_int Tryz.underlying3 (HWF.out _ hwc)) ?_; intro w1 hown1 hgrow1)
        | go_in)
      have HG2 := Lib.hid (gm_step HKL.out HT.out g3 HG.out HIM.out hat)
      have HB2 : Hid (Below w.heap.size w w1) := HBA.out.grown hgrow1 HBA.out.size (fun j hj => by cases hj; exact Nat.le_refl _)
      have HO2 := Lib.hid hown1
      clear hown1 hgrow1 hat hwc hownA
      go_wp2
      go_roundw
      case rel => exact ⟨k + 1, _, by omega, by go_num, HO2.out, HG2.out, HB2.out⟩
      case measure => simp [intOf]; omega
    · obtain rfl : k = n := by omega
      have hg := HG.out
      rw [List.take_of_length_le (by have := hl.1; omega)] at hg
      have HG2 := Lib.hid hg
      have HO := Lib.hid hown
      clear hl hg hown
      go_wp2
      go_ret
      exact ⟨D, rfl, HO.out, HG2.out, hbel⟩

/-- the number is redundant -/
def redB (l : List (Int × Int)) : Bool := decide (0 ≤ Nm.best (-1) l ∧ Nm.best (-1) l ≤ Nm.most l 5)

theorem gm_at {D : DataW Unit} {l : List (Int × Int)} (h : GM D l) {x c : Int} (hat : ∀ z, D.atKey (ik x) z = .lit (.int .i64 c)) : 0 ≤ Nm.best x l ∧ c = Nm.best x l := by
  have hh : Maps.has D (ik x) = true := has_true_of_atKey hat
  have h1 := h x
  rw [h1.1] at hh
  have h2 : D.atKey (ik x) (.lit (.int .i64 0)) = .lit (.int .i64 (Nm.best x l)) := h1.2 hh _
  rw [hat] at h2
  injection h2 with h2
  injection h2 with _ h2
  exact ⟨by simpa [hasB] using hh, h2⟩
theorem best_range {l : List (Int × Int)} (h : Nm.AllOk l) {p : Int} (hb : 0 ≤ Nm.best p l) : -1 ≤ p ∧ p < 5 := by
  have := h.mem (Nm.best_at (p := p) (l := l) (by omega))
  exact ⟨this.1, this.2.1⟩
theorem same_ik (a b : Int) : (ik a).sameKey (ik b) = decide (a = b) := by
  by_cases e : a = b
  · subst e; rw [(WideAt.sameKey_iff (ik_key a)).2 rfl]; simp
  · rw [Maps.sameKey_ne (ik_ne e)]; simp [e]

set_option maxRecDepth 100000 in
set_option maxHeartbeats 1600000 in
theorem numberIsRedundant_any (w : World) (b n : Nat) (D : DataW Unit) (l : List (Int × Int)) (hown : w.ownsMap Tryz.prog 3 (plainElem Tryz.prog 3) b n D) (hg : GM D l) (hok : Nm.AllOk l) :
    Calls Tryz.prog 163 #[.map (some b)] w fun e w' => e = .returned (.bool (redB l)) ∧ Below w.heap.size w w' := by
  have hkey : keyOf Tryz.prog 3 (.int .i64 (-1)) = some (.int .i64 (-1)) := keyOf_int_mk Tryz.underlying3 (WalkArith.wf_i64 (by omega))
  have h1 := hg (-1)
  have HG := Lib.hid hg
  have HOK := Lib.hid hok
  clear hg hok
  by_cases hn : 0 ≤ Nm.best (-1) l
  · have hh : Maps.has D (ik (-1)) = true := by rw [h1.1]; simp [hasB, hn]
    have HAT : Hid (D.atKey (ik (-1)) (.lit (.int .i64 0)) = .lit (.int .i64 (Nm.best (-1) l))) := h1.2 (by simp [hasB, hn]) _
    have hh' : Maps.has D (Lit.int .i64 (-1)) = true := hh
    clear h1 hh
    go_enter Tryz.func163, Tryz.ntmps163
    go_wp2_with (first
      | (at_lookup; refine wpList_lookup_own_ok_int _ rfl _ _ 214 rfl 3 3 .i64 lawInt Tryz.underlying214 Tryz.underlying3 (zeroInt _) b n _ rfl hown _ _ rfl hkey ?_; intro c hat hwc; rw [hh'])
      | (at_range; refine wpList_range_own _ rfl _ 214 rfl 3 3 lawInt Tryz.underlying214 _ b n _ rfl hown ?_; intro w0 hrg0 hg0 hs0)
      | go_in)
    obtain rfl : Nm.best (-1) l = c := by
      have h2 := HAT.out
      have hat' : D.atKey (ik (-1)) (.lit (.int .i64 0)) = .lit (.int .i64 c) := hat
      rw [hat'] at h2
      injection h2 with h2
      injection h2 with _ h2
      exact h2.symm
    have HB0 : Hid (Below w.heap.size w w0) := (Below.refl _ _).grown hg0 (Nat.le_refl _) (fun j hj => by cases hj)
    clear hat hwc hs0 hg0
    go_frame
    go_loopw [5] (fun _ wr => ∃ (left : Lit → Bool) (cnt : Nat), wr.ranges Tryz.prog 3 (plainElem Tryz.prog 3) b w.heap.size n D left cnt ∧ Hid (∀ q : Int, 0 ≤ Nm.best q l → left (ik q) = false → ¬ (q ≠ -1 ∧ Nm.best (-1) l ≤ Nm.best q l)) ∧ Below w.heap.size w wr)
      (fun _ wr => wr.rangeLeft b w.heap.size)
    case atStart =>
      refine ⟨_, _, hrg0, fun q hq hl => ?_, HB0.out⟩
      rw [(HG.out q).1] at hl
      simp [hasB, hq] at hl
    case round =>
      obtain ⟨left, cnt, hrg, HQ, hbel⟩ := hrel
      go_wp2_with (first
        | (at_next; refine wpList_next_ranges_ii _ rfl _ rfl 3 3 .i64 .i64 lawInt Tryz.underlying3 Tryz.underlying3 b w.heap.size n _ _ _ rfl hrg ?_ ?_)
        | go_in)
      · intro _ hl0
        have HF : Hid (redB l = false) := by
          show _ = _
          simp only [redB, decide_eq_false_iff_not]
          rintro ⟨_, hm⟩
          by_cases em : Nm.most l 5 = -1
          · omega
          · obtain ⟨q, q1, q2, q3⟩ := Nm.most_at l 5 em
            exact HQ.out q (by omega) (hl0 _) ⟨by omega, by omega⟩
        go_wp2
        go_ret
        exact ⟨by rw [HF.out]; rfl, hbel⟩
      · intro x c w1 cnt1 hwx hwc hlx hat hrg1 hlt hg1 hs1 hen
        obtain ⟨hx0, rfl⟩ := gm_at HG.out hat
        have hxr := best_range HOK.out hx0
        have HB1 : Hid (Below w.heap.size w w1) := hbel.grown hg1 hbel.size (fun j hj => by cases hj; exact Nat.le_refl _)
        have step_of : ¬ (x ≠ -1 ∧ Nm.best (-1) l ≤ Nm.best x l) → Hid (∀ q : Int, 0 ≤ Nm.best q l → (left (ik q) && !(ik q).sameKey (ik x)) = false → ¬ (q ≠ -1 ∧ Nm.best (-1) l ≤ Nm.best q l)) := by
          intro h q hq hl
          by_cases e : q = x
          · subst e; exact h
          · rw [same_ik] at hl
            simp [e] at hl
            exact HQ.out q hq hl
        have HM : Hid (wr.rangeLeft b w.heap.size = cnt) := hrg.left_eq
        clear hat hwx hwc hlx hg1 hs1 hrg
        by_cases ex : x = -1
        · have HQ2 := step_of (fun h => h.1 ex)
          subst ex
          clear step_of
          go_wp2
          go_roundw
          case rel => exact ⟨_, cnt1, hrg1, HQ2.out, HB1.out⟩
          case measure => rw [hrg1.left_eq, HM.out]; exact hlt
        · have dx : (x != -1) = true := by simpa using ex
          by_cases hle : Nm.best (-1) l ≤ Nm.best x l
          · have HF : Hid (redB l = true) := by
              show _ = _
              have := Nm.most_le l 5 x (by omega) (by omega)
              simp only [redB, decide_eq_true_eq]
              omega
            clear step_of
            generalize Nm.best x l = bx at *
            generalize Nm.best (-1) l = bn at *
            go_wp2
            go_ret
            exact ⟨by rw [HF.out]; rfl, HB1.out⟩
          · have HQ2 := step_of (fun h => hle h.2)
            have dle : decide (Nm.best (-1) l ≤ Nm.best x l) = false := by simp; omega
            clear step_of hle
            go_wp2
            go_roundw
            case rel => exact ⟨_, cnt1, hrg1, HQ2.out, HB1.out⟩
            case measure => rw [hrg1.left_eq, HM.out]; exact hlt
  · have hh : Maps.has D (Lit.int .i64 (-1)) = false := by show Maps.has D (ik (-1)) = false; rw [h1.1]; simp [hasB]; omega
    have HF : Hid (redB l = false) := by show _ = _; simp [redB]; omega
    clear h1
    go_enter Tryz.func163, Tryz.ntmps163
    go_wp2_with (first
      | (at_lookup; refine wpList_lookup_own_ok_int _ rfl _ _ 214 rfl 3 3 .i64 lawInt Tryz.underlying214 Tryz.underlying3 (zeroInt _) b n _ rfl hown _ _ rfl hkey ?_; intro c hat hwc; rw [hh])
      | go_in)
    go_ret
    exact ⟨by rw [HF.out]; rfl, Below.refl _ _⟩
end Go.Proofs.YtgebjnoicgmdoaaGreatDoor
