/- The reference model: SessOk. -/
/- The reference model: SessOk, whole. -/
import Derived.Test.YtfmhmnpmdjpmeaaCsMath6
import Derived.Test.YtfmhmnpmdjpmeaaSsI2
import Derived.Test.YtfmhmnpmdjpmeaaFrC
import Derived.Laws.AppendOwnNone

namespace Go.Proofs.Ytfmhmnpmdjpmeaa
open Go.RowKit
open Cs (Cn)

set_option maxRecDepth 100000 in
set_option maxHeartbeats 2000000 in
theorem l07Of_any (w : World) (B : Nat) (A : Option Addr) (n c : Nat) (L : List Int) (U R V : Int) (hB : B ≤ w.heap.size) (hl : IntR w B A n L) (hn : n ≤ 1000) :
    Calls Try.prog 44 #[.agg #[.int .i64 U, .int .i64 R, .int .i64 V], .slice A n c] w fun e w' => e = .returned (.bool (conIn L (U, R, V))) ∧ Below w.heap.size w w' := by
  obtain ⟨W, hW⟩ : ∃ W, w.alloc (.cells #[.int .i64 U, .int .i64 R, .int .i64 V] 78) = W := ⟨_, rfl⟩
  have hb0 : Below w.heap.size w W := by rw [← hW]; exact (Below.refl _ _).alloc (Nat.le_refl _) _
  have hs0 : W.heap.size = w.heap.size + 1 := by rw [← hW]; simp
  have k0 : Blk W w.heap.size 78 #[.int .i64 U, .int .i64 R, .int .i64 V] := by rw [← hW]; exact Blk.made _ _ _
  have z0 : W.cell? ⟨w.heap.size, 0, none⟩ = some (.int .i64 U) := k0.cell 0
  have z1 : W.cell? ⟨w.heap.size, 1, none⟩ = some (.int .i64 R) := k0.cell 1
  have z2 : W.cell? ⟨w.heap.size, 2, none⟩ = some (.int .i64 V) := k0.cell 2
  have HL := Lib.hid hl
  clear hl
  go_enter Try.func44, Try.ntmps44
  go_wp2_with fail
  refine (specConOk_any W U R V).mono ?_
  rintro e w1 ⟨rfl, hb1⟩
  have hs1 := hb1.size
  have q1 := k0.below hb1 (by omega)
  have y0 : w1.cell? ⟨w.heap.size, 0, none⟩ = some (.int .i64 U) := q1.cell 0
  have y2 : w1.cell? ⟨w.heap.size, 2, none⟩ = some (.int .i64 V) := q1.cell 2
  have HB1 := Lib.hid (hb0.trans (hb1.mono (by omega)))
  have HL1 := Lib.hid (HL.out.below (HB1.out.mono hB))
  clear hW z0 z1 z2 k0 hb0 hb1 q1
  cases hc : Cs.cOk (U, R, V) with
  | false =>
    have HF : Hid (conIn L (U, R, V) = false) := by show _ = _; unfold conIn; rw [hc]; rfl
    clear hc
    go_wp2
    go_ret
    exact ⟨by rw [HF.out]; rfl, HB1.out⟩
  | true =>
    have HC := Lib.hid hc
    clear hc
    have hV : ∀ b : Bool, b = sideIn L V → sideIn L U = true → conIn L (U, R, V) = b := fun b hb hu => by unfold conIn; rw [HC.out, hu, hb]; rfl
    have HV := Lib.hid hV
    clear hV
    by_cases hu : U = -1
    · subst hu
      have HU : Hid (sideIn L (-1) = true) := rfl
      by_cases hv : V = -1
      · subst hv
        have HF : Hid (conIn L (-1, R, -1) = true) := HV.out true rfl HU.out
        go_wp2
        go_ret
        exact ⟨by rw [HF.out]; rfl, HB1.out⟩
      · have d1 : (V == -1) = false := by simpa using hv
        have HF : Hid (conIn L (-1, R, V) = inI L V) := HV.out _ (by unfold sideIn; rw [d1]; rfl) HU.out
        go_wp2_with fail
        refine (l04In_any w1 B A n c L V HL1.out hn).mono ?_
        rintro e w2 ⟨rfl, rfl⟩
        rw [← HF.out]
        go_wp2
        go_ret
        exact ⟨rfl, HB1.out⟩
    · have d0 : (U == -1) = false := by simpa using hu
      go_wp2_with fail
      refine (l04In_any w1 B A n c L U HL1.out hn).mono ?_
      rintro e w2 ⟨rfl, rfl⟩
      cases hi : inI L U with
      | false =>
        have HF : Hid (conIn L (U, R, V) = false) := by show _ = _; unfold conIn sideIn; rw [d0, hi]; simp
        clear hi
        go_wp2
        go_ret
        exact ⟨by rw [HF.out]; rfl, HB1.out⟩
      | true =>
        have HU : Hid (sideIn L U = true) := by show _ = _; unfold sideIn; rw [hi]; simp
        clear hi
        by_cases hv : V = -1
        · subst hv
          have HF : Hid (conIn L (U, R, -1) = true) := HV.out true rfl HU.out
          go_wp2
          go_ret
          exact ⟨by rw [HF.out]; rfl, HB1.out⟩
        · have d1 : (V == -1) = false := by simpa using hv
          have HF : Hid (conIn L (U, R, V) = inI L V) := HV.out _ (by unfold sideIn; rw [d1]; rfl) HU.out
          go_wp2_with fail
          refine (l04In_any w2 B A n c L V HL1.out hn).mono ?_
          rintro e w3 ⟨rfl, rfl⟩
          rw [← HF.out]
          go_wp2
          go_ret
          exact ⟨rfl, HB1.out⟩
theorem ConR.newsS {w : World} {B b off n : Nat} {l : List Cn} (h : ConR w B (some ⟨b, off, none⟩) n l) : ∀ j u, (conCells l)[j]? = some u → w.cell? ((⟨b, off, none⟩ : Addr).add j) = some u := by
  intro j u hu
  have hj : j < l.length * 3 := by have := (List.getElem?_eq_some_iff.1 hu).1; rw [conCells_len] at this; exact this
  have hn := h.1
  obtain ⟨b', off', e, _, hc⟩ := h.2 (by omega)
  injection e with e; injection e with e1 e2
  subst e1; subst e2
  have hk : j / 3 < n := by omega
  obtain ⟨a0, a1, a2⟩ := hc (j / 3) hk
  obtain ⟨x0, x1, x2⟩ := conCells_at l (j / 3) (by omega)
  have hadd : (⟨b, off, none⟩ : Addr).add j = ⟨b, off + j, none⟩ := by
    unfold Addr.add
    by_cases h : j = 0
    · subst h; rfl
    · rw [if_neg h]
  rw [hadd]
  rcases (show j = j / 3 * 3 ∨ j = j / 3 * 3 + 1 ∨ j = j / 3 * 3 + 2 by omega) with h | h | h
  · rw [h] at hu ⊢
    rw [x0] at hu; injection hu with hu; subst hu
    exact a0
  · rw [h] at hu ⊢
    rw [x1] at hu; injection hu with hu; subst hu
    rw [← Nat.add_assoc]; exact a1
  · rw [h] at hu ⊢
    rw [x2] at hu; injection hu with hu; subst hu
    rw [← Nat.add_assoc]; exact a2
theorem own_sliceS {w : World} {base n : Nat} {e : TypeId} {sz : Nat} {v : Value} {xs : List Value} (h : w.ownsRow base e sz v n xs) : ∃ A c, v = .slice A n c := by
  rcases h.2 with ⟨h0, h1⟩ | ⟨g', cap', _, h0, _⟩
  · exact ⟨none, 0, by rw [h0, h1]⟩
  · exact ⟨_, cap', h0⟩
set_option maxRecDepth 100000 in
set_option maxHeartbeats 4000000 in
theorem l07Cons_any (w : World) (B : Nat) (A : Option Addr) (n c : Nat) (fs : List Fm) (hB : B ≤ w.heap.size) (hl : FrR w B A n fs) (hn : n ≤ 8) (hm : fbulk fs ≤ 1048576) :
    Calls Try.prog 46 #[.agg #[.slice A n c]] w fun e w' => ∃ A' m c', e = .returned (.slice A' m c') ∧ OwnC w' w.heap.size A' m c' (consF fs) ∧ m ≤ n * 1048576 ∧ Below w.heap.size w w' := by
  obtain ⟨i0, hi, hz0, hz1, hz2⟩ := info_parts info_con
  obtain ⟨W0, hW0⟩ : ∃ W, (w.alloc (.cells #[.slice A n c] 42)).alloc (.cells #[] 78) = W := ⟨_, rfl⟩
  have hb0 : Below w.heap.size w W0 := by rw [← hW0]; exact ((Below.refl _ _).alloc (Nat.le_refl _) _).alloc (by simp) _
  have hs0 : Hid (W0.heap.size = w.heap.size + 1 + 1) := by show _ = _; rw [← hW0]; simp
  have z0 : W0.cell? ⟨w.heap.size, 0, none⟩ = some (.slice A n c) := by rw [← hW0]; exact ((Blk.made w _ _).alloc _).cell 0
  have ho0 : OwnC W0 (w.heap.size + 1) (some ⟨w.heap.size + 1, 0, none⟩) 0 0 [] := by
    have h : OwnC ((w.alloc (.cells #[.slice A n c] 42)).alloc (.cells #[] 78)) (w.alloc (.cells #[.slice A n c] 42)).heap.size (some ⟨(w.alloc (.cells #[.slice A n c] 42)).heap.size, 0, none⟩) 0 0 [] := World.ownsRow_made (w.alloc (.cells #[.slice A n c] 42)) #[] 0 (Nat.le_refl _) (by simp [maxLen]) (by simp)
    rw [World.size_alloc] at h
    rw [← hW0]
    exact h
  have HB0 := Lib.hid hb0
  have HO0 := Lib.hid ho0
  have HL := Lib.hid hl
  have HM := Lib.hid hm
  have HZ0 : Hid (∀ X, Below (w.heap.size + 1) W0 X → X.cell? ⟨w.heap.size, 0, none⟩ = some (.slice A n c)) := fun X h => (h.cell (p := ⟨w.heap.size, 0, none⟩) (by show w.heap.size < w.heap.size + 1; omega)).trans z0
  have HLN : Hid (fs.length = n) := hl.1
  clear hb0 ho0 hl hm z0
  go_enter Try.func46, Try.ntmps46
  go_wp2
  go_loopw [3, 4] (fun v i wr => ∃ (k m : Nat) (Ao : Option Addr) (cap : Nat), k ≤ n ∧ m ≤ k * 1048576 ∧ i = .int .i64 k ∧ v = .slice Ao m cap ∧ Hid (OwnC wr (w.heap.size + 1) Ao m cap (consF (fs.take k))) ∧ Hid (Below w.heap.size w wr) ∧ Hid (Below (w.heap.size + 1) W0 wr)) (fun _ i _ => n - (intOf i).toNat)
  case atStart => exact ⟨0, 0, _, 0, Nat.zero_le _, Nat.zero_le _, rfl, rfl, HO0.out, HB0.out, Below.refl _ _⟩
  case round =>
    clear hW0 HB0
    obtain ⟨k, m, Ao, cap, hk, hmk, rfl, rfl, HO, HB, HB1⟩ := hrel
    have hsr := HB1.out.size
    have zc := HZ0.out _ HB1.out
    by_cases hlt : k < n
    · have hki : (k : Int) < (n : Int) := by omega
      obtain ⟨b, off, hA, hb, hc⟩ := (HL.out.below (HB.out.mono hB)).2 (by omega)
      obtain ⟨Ak, nk, ck, Ck, mk, dk, c0, c1, _, t2, _, _, _, hz⟩ := hc k hlt
      have hfg := ftot_get fs k (by rw [HLN.out]; exact hlt)
      rw [t2.1] at hfg
      have hbk := HM.out
      unfold fbulk at hbk
      have hmk2 : mk ≤ 1048576 := by omega
      have HCT := Lib.hid (consF_take (fs := fs) (k := k) (by rw [HLN.out]; exact hlt))
      have HT2 := Lib.hid t2
      have HLM : Hid ((fs.getD k fm0).2.length = mk) := t2.1
      have HCL : Hid ((conCells (fs.getD k fm0).2).length = mk * 3) := by show _ = _; rw [conCells_len, HLM.out]
      have hown := HO.out
      subst hA
      clear hc hfg hbk t2
      cases Ck with
      | none =>
        obtain rfl : dk = 0 := hz rfl
        obtain rfl : mk = 0 := by
          by_cases h : 0 < mk
          · obtain ⟨_, _, e, _⟩ := HT2.out.2 h; cases e
          · omega
        have HE : Hid ((fs.getD k fm0).2 = []) := List.length_eq_zero_iff.1 HT2.out.1
        clear hz hmk2
        go_wp2_with (at_builtin; refine wpList_append_own_none rfl (.tmp 13) (.tmp 19) 48 rfl (w.heap.size + 1) 78 i0 3 Try.underlying48 hi (.slice Ao m cap) m (conCells (consF (fs.take k))) rfl hown rfl ?_)
        have HO2 : Hid (OwnC wr (w.heap.size + 1) Ao m cap (consF (fs.take (k + 1)))) := by
          show OwnC _ _ _ _ _ _
          rw [HCT.out, HE.out, List.append_nil]
          exact hown
        clear hown
        go_wp2
        go_roundw
        case rel => exact ⟨k + 1, m, Ao, cap, by omega, Nat.le_trans hmk (Nat.mul_le_mul_right _ (Nat.le_succ _)), by go_num, rfl, HO2.out, HB.out, HB1.out⟩
        case measure => simp [intOf]; omega
      | some ad =>
        have hnews : ∀ j u, (conCells (fs.getD k fm0).2)[j]? = some u → wr.cell? (ad.add j) = some u := by
          intro j u hu
          have hj : j < (fs.getD k fm0).2.length * 3 := by have := (List.getElem?_eq_some_iff.1 hu).1; rw [conCells_len] at this; exact this
          obtain ⟨b', off', e, _⟩ := HT2.out.2 (by rw [← HLM.out]; omega)
          have hr := HT2.out
          rw [e] at hr
          injection e with e
          subst e
          exact hr.newsS j u hu
        have hbm : m + mk ≤ 9437184 := by
          have h1 : k * 1048576 ≤ 8 * 1048576 := Nat.mul_le_mul_right _ (by omega)
          omega
        clear hz
        go_wp2_with (at_builtin; refine wpList_append_own _ rfl (.tmp 13) (.tmp 19) 48 rfl (w.heap.size + 1) 78 i0 (.agg #[.int .i64 0, .int .i64 0, .int .i64 0]) 3 24 Try.underlying48 hi hz0 hz1 hz2 rfl (by decide) (.slice Ao m cap) m (conCells (consF (fs.take k))) rfl hown ad mk dk (conCells (fs.getD k fm0).2) rfl HCL.out hnews (conCells_one _) (by unfold maxLen; omega) (by omega) (by have := hs0.out; omega) ?_; intro v' w3 hown' hgrow hnil)
        obtain ⟨A3, c3, rfl⟩ := own_sliceS hown'
        have HB3 : Hid (Below w.heap.size w w3) := HB.out.grown hgrow HB.out.size (fun x h => by have := (hown.lt x h).1; omega)
        have HB4 : Hid (Below (w.heap.size + 1) W0 w3) := HB1.out.grown hgrow (by have := hs0.out; omega) (fun x h => (hown.lt x h).1)
        have HO3 : Hid (OwnC w3 (w.heap.size + 1) A3 (m + mk) c3 (consF (fs.take (k + 1)))) := by
          show w3.ownsRow _ _ _ _ _ _
          rw [HCT.out, conCells_append]
          exact hown'
        have HMK : Hid (m + mk ≤ (k + 1) * 1048576) := by show _ ≤ _; rw [Nat.succ_mul]; omega
        clear hown hown' hgrow hnil hnews hbm hmk2
        go_wp2
        go_roundw
        case rel => exact ⟨k + 1, m + mk, A3, c3, by omega, HMK.out, by go_num, rfl, HO3.out, HB3.out, HB4.out⟩
        case measure => simp [intOf]; omega
    · obtain rfl : k = n := by omega
      have hkk : ¬ (k : Int) < (k : Int) := by omega
      rw [List.take_of_length_le (show fs.length ≤ k by rw [HLN.out]; exact Nat.le_refl _)] at HO
      go_wp2
      go_ret
      exact ⟨Ao, m, cap, rfl, own_base HO.out (by omega), hmk, HB.out⟩
end Go.Proofs.Ytfmhmnpmdjpmeaa

namespace Go.Proofs.Ytfmhmnpmdjpmeaa
open Go.RowKit
open Cs (Cn)

theorem take_oneI {l : List Int} {j : Nat} (hj : j < l.length) : l.take (j + 1) = l.take j ++ [l.getD j 0] := by
  rw [List.take_succ_eq_append_getElem hj]
  simp [List.getD_eq_getElem?_getD, List.getElem?_eq_getElem hj]
set_option maxRecDepth 100000 in
set_option maxHeartbeats 8000000 in
theorem specSessOk_any (w : World) (B : Nat) (A : Option Addr) (n c : Nat) (fs : List Fm) (hB : B ≤ w.heap.size) (hl : FrR w B A n fs) (hm : fbulk fs ≤ 1048576) :
    Calls Try.prog 19 #[.agg #[.slice A n c]] w fun e w' => e = .returned (.bool (sessR fs)) ∧ Below w.heap.size w w' := by
  obtain ⟨i0, hi, hz0, hz1, hz2⟩ := info_parts info_int
  have HLN : Hid (fs.length = n) := hl.1
  have hn : n ≤ 1048576 := by have := HLN.out; unfold fbulk at hm; omega
  by_cases hn0 : n = 0
  · subst hn0
    have HF : Hid (sessR fs = false) := by show _ = _; unfold sessR; rw [HLN.out]; rfl
    have hb0 : Below w.heap.size w (w.alloc (.cells #[.slice A 0 c] 42)) := (Below.refl _ _).alloc (Nat.le_refl _) _
    go_enter Try.func19, Try.ntmps19
    go_wp2
    go_ret
    exact ⟨by rw [HF.out]; rfl, hb0⟩
  · have e0 : ¬ (n : Int) < 1 := by omega
    by_cases hn8 : n ≤ 8
    · have e8 : ¬ (8 : Int) < (n : Int) := by omega
      obtain ⟨W0, hW0⟩ : ∃ W, (w.alloc (.cells #[.slice A n c] 42)).alloc (.cells #[] 3) = W := ⟨_, rfl⟩
      have hb0 : Below w.heap.size w W0 := by rw [← hW0]; exact ((Below.refl _ _).alloc (Nat.le_refl _) _).alloc (by simp) _
      have hk0 : Blk W0 w.heap.size 42 #[.slice A n c] := by rw [← hW0]; exact (Blk.made w _ _).alloc _
      have ho0 : OwnI W0 w.heap.size (some ⟨w.heap.size + 1, 0, none⟩) 0 0 [] := by
        have h : OwnI ((w.alloc (.cells #[.slice A n c] 42)).alloc (.cells #[] 3)) (w.alloc (.cells #[.slice A n c] 42)).heap.size (some ⟨(w.alloc (.cells #[.slice A n c] 42)).heap.size, 0, none⟩) 0 0 [] := World.ownsRow_made (w.alloc (.cells #[.slice A n c] 42)) #[] 0 (Nat.le_refl _) (by simp [maxLen]) (by simp)
        rw [World.size_alloc] at h
        rw [← hW0]
        exact own_base h (by omega)
      have HL := Lib.hid hl
      have HM := Lib.hid hm
      have HB0 := Lib.hid hb0
      have HK0 := Lib.hid hk0
      have HO0 := Lib.hid ho0
      clear hl hm hb0 hk0 ho0
      go_enter Try.func19, Try.ntmps19
      go_wp2
      go_loopw [3, 4] (fun v i wr => ∃ (k m : Nat) (Al : Option Addr) (cap : Nat), k ≤ n ∧ i = .int .i64 k ∧ v = .slice Al m cap ∧ Hid (OwnI wr w.heap.size Al m cap (liveF (fs.take k))) ∧ Hid (∀ j, j < k → frmR (liveF (fs.take j)) (fs.getD j fm0) = true) ∧ Hid (Blk wr w.heap.size 42 #[.slice A n c]) ∧ Hid (Below w.heap.size w wr)) (fun _ i _ => n - (intOf i).toNat)
      case atStart => exact ⟨0, 0, _, 0, Nat.zero_le _, rfl, rfl, HO0.out, fun j hj => absurd hj (by omega), HK0.out, HB0.out⟩
      case round =>
        clear hW0 HB0 HK0 HO0
        obtain ⟨k, m, Al, cap, hk, rfl, rfl, HO, HA, HK, HB⟩ := hrel
        have hsr := HB.out.size
        have zc : wr.cell? ⟨w.heap.size, 0, none⟩ = some (.slice A n c) := HK.out.cell 0
        by_cases hlt : k < n
        · have hki : (k : Int) < (n : Int) := by omega
          obtain ⟨b, off, hA, hb, hc⟩ := HL.out.2 (by omega)
          obtain ⟨Ak, nk, ck, Ck, mk, dk, c0, c1, t1, t2, _, _, hck, hz⟩ := hc k hlt
          subst hA
          have d0 := (HB.out.cell (p := ⟨b, off + k * 2, none⟩) (by show b < _; omega)).trans c0
          have d1 := (HB.out.cell (p := ⟨b, off + k * 2 + 1, none⟩) (by show b < _; omega)).trans c1
          have hfg := ftot_get fs k (by rw [HLN.out]; exact hlt)
          rw [t1.1, t2.1] at hfg
          have hbk := HM.out
          unfold fbulk at hbk
          have hnk : nk ≤ 1048576 := by omega
          have hmk : mk ≤ 1048576 := by omega
          obtain ⟨f, hf⟩ : ∃ f, fs.getD k fm0 = f := ⟨_, rfl⟩
          obtain ⟨L, hL⟩ : ∃ L, liveF (fs.take k) = L := ⟨_, rfl⟩
          rw [hf] at t1 t2
          rw [hL] at HO
          have HSL : Hid (Slim L) := by show Slim L; rw [← hL]; exact slim_frms k (by rw [HLN.out]; omega) HA.out
          have hm5 : m + 0 ≤ 5 ∧ L.length = m := by
            have h := HSL.out.len
            have h2 := HO.out.1
            simp at h2
            omega
          have HLT : Hid (liveF (fs.take (k + 1)) = L ++ f.1) := by show _ = _; rw [liveF_take (by rw [HLN.out]; exact hlt), hf, hL]
          have HNO : Hid (frmR L f = false → sessR fs = false) := fun h => sessR_frm (frmsR_not (k := k) (by rw [HLN.out]; exact hlt) (by rw [hf, hL]; exact h))
          have HYES : Hid (frmR L f = true → ∀ j, j < k + 1 → frmR (liveF (fs.take j)) (fs.getD j fm0) = true) := fun h j hj => by
            by_cases e : j = k
            · subst e; rw [hf, hL]; exact h
            · exact HA.out j (by omega)
          obtain ⟨W1, hW1⟩ : ∃ W, wr.alloc (.cells #[.slice Ak nk ck, .slice Ck mk dk] 74) = W := ⟨_, rfl⟩
          have HB1 : Hid (Below w.heap.size w W1) := by show Below _ _ _; rw [← hW1]; exact HB.out.alloc hsr _
          have HF1 : Hid (Blk W1 wr.heap.size 74 #[.slice Ak nk ck, .slice Ck mk dk]) := by show Blk _ _ _ _; rw [← hW1]; exact Blk.made _ _ _
          have HK1 : Hid (Blk W1 w.heap.size 42 #[.slice (some ⟨b, off, none⟩) n c]) := by show Blk _ _ _ _; rw [← hW1]; exact HK.out.alloc _
          have HO1 : Hid (OwnI W1 w.heap.size Al m cap L) := by show OwnI _ _ _ _ _ _; rw [← hW1]; exact World.ownsRow.alloc HO.out _
          have HT1 := Lib.hid t1
          have HT2 := Lib.hid t2
          have HS1 : Hid (W1.heap.size = wr.heap.size + 1) := by show _ = _; rw [← hW1]; simp
          have g0 : W1.cell? ⟨wr.heap.size, 0, none⟩ = some (.slice Ak nk ck) := HF1.out.cell 0
          have HO2 : Hid (OwnI W1 w.heap.size Al m cap (L ++ f.1.take 0)) := by show OwnI _ _ _ _ _ _; rw [List.take_zero, List.append_nil]; exact HO1.out
          have HN1 : Hid (f.1.length = nk) := HT1.out.1
          obtain ⟨wo, rfl⟩ : ∃ x, x = wr := ⟨wr, rfl⟩
          clear hc c0 c1 t1 t2 hfg hbk hz hck HO HK HA hL hf
          go_wp2
          go_loopw [3, 6] (fun v i wq => ∃ (j q : Nat) (Aq : Option Addr) (cq : Nat), j ≤ nk ∧ i = .int .i64 j ∧ v = .slice Aq q cq ∧ Hid (q = m + j ∧ q ≤ 5) ∧ Hid (OwnI wq w.heap.size Aq q cq (L ++ f.1.take j)) ∧ Hid (∀ u, u < j → parOk (L ++ f.1.take u) (f.1.getD u 0) = true) ∧ Hid (Blk wq w.heap.size 42 #[.slice (some ⟨b, off, none⟩) n c]) ∧ Hid (Blk wq wo.heap.size 74 #[.slice Ak nk ck, .slice Ck mk dk]) ∧ Hid (Below w.heap.size w wq)) (fun _ i _ => nk - (intOf i).toNat)
          case atStart => exact ⟨0, m, Al, cap, Nat.zero_le _, rfl, rfl, ⟨rfl, hm5.1⟩, HO2.out, fun u hu => absurd hu (by omega), HK1.out, HF1.out, HB1.out⟩
          case round =>
            clear HO1 HO2 HK1 HF1 HB1 HS1 g0 hW1 hm5 zc d0 d1
            obtain ⟨j, q, Aq, cq, hj, rfl, rfl, HQ, HO, HA, HK, HF, HB⟩ := hrel
            have hsr := HB.out.size
            have g0 : wr.cell? ⟨wo.heap.size, 0, none⟩ = some (.slice Ak nk ck) := HF.out.cell 0
            have g1 : wr.cell? ⟨wo.heap.size, 1, none⟩ = some (.slice Ck mk dk) := HF.out.cell 1
            by_cases hlt : j < nk
            · have hji : (j : Int) < (nk : Int) := by omega
              obtain ⟨bp, op, hA, hbp, hcp⟩ := HT1.out.2 (by omega)
              have x0 := hcp j hlt
              obtain ⟨t, ht⟩ : ∃ t, f.1.getD j 0 = t := ⟨_, rfl⟩
              rw [ht] at x0
              have HT := Lib.hid ht
              subst hA
              have x1 := (HB.out.cell (p := ⟨bp, op + j, none⟩) (by show bp < _; omega)).trans x0
              have HFA : Hid (parOk (L ++ f.1.take j) t = false → sessR fs = false) := fun h => HNO.out (frmR_par (parsR_not (by rw [HN1.out]; exact hlt) (by rw [HT.out]; exact h)))
              clear hcp x0 ht
              by_cases ht0 : t < 0
              · have HR : Hid (sessR fs = false) := HFA.out (by rw [parOk_parts]; simp; omega)
                go_wp2
                go_ret
                exact ⟨by rw [HR.out]; rfl, HB.out⟩
              · by_cases ht5 : 5 ≤ t
                · have HR : Hid (sessR fs = false) := HFA.out (by rw [parOk_parts]; simp; omega)
                  go_wp2
                  go_ret
                  exact ⟨by rw [HR.out]; rfl, HB.out⟩
                · have HIR : Hid (IntR wr wr.heap.size Aq q (L ++ f.1.take j)) := OwnI.reads HO.out
                  go_wp2_with fail
                  refine (l04In_any wr wr.heap.size Aq q cq (L ++ f.1.take j) t HIR.out (by have := HQ.out.2; omega)).mono ?_
                  rintro e w1 ⟨rfl, rfl⟩
                  cases hin : inI (L ++ f.1.take j) t with
                  | true =>
                    have HR : Hid (sessR fs = false) := HFA.out (by rw [parOk_parts, hin]; simp)
                    clear hin
                    go_wp2
                    go_ret
                    exact ⟨by rw [HR.out]; rfl, HB.out⟩
                  | false =>
                    have hpo : parOk (L ++ f.1.take j) t = true := by rw [parOk_parts, hin]; simp; omega
                    have HA2 : Hid (∀ u, u < j + 1 → parOk (L ++ f.1.take u) (f.1.getD u 0) = true) := fun u hu => by
                      by_cases e : u = j
                      · subst e; rw [HT.out]; exact hpo
                      · exact HA.out u (by omega)
                    have HNX : Hid (L ++ f.1.take (j + 1) = (L ++ f.1.take j) ++ [t]) := by show _ = _; rw [take_oneI (by rw [HN1.out]; exact hlt), HT.out, List.append_assoc]
                    have HQ6 : Hid (q + 1 ≤ 5) := by
                      show _ ≤ _
                      have h := (HSL.out)
                      have h2 := (slim_pars h (j + 1) (by rw [HN1.out]; omega) HA2.out).len
                      rw [HNX.out, List.length_append] at h2
                      have h3 := HIR.out.1
                      simp at h2
                      simp at h3
                      omega
                    have hown := HO.out
                    clear hin hpo
                    go_wp2_with (at_builtin; refine wpList_append_own _ rfl (.tmp 55) (.tmp 57) 23 rfl w.heap.size 3 i0 (.int .i64 0) 1 8 Try.underlying23 hi hz0 hz1 hz2 rfl (by decide) (.slice Aq q cq) q ((L ++ f.1.take j).map (Value.int .i64)) rfl (hown.alloc _) ⟨w1.heap.size, 0, none⟩ 1 1 [.int .i64 t] rfl rfl (cell_one_new _ _ _) (fun u hu => by simp at hu; subst hu; rfl) (by have := HQ6.out; unfold maxLen; omega) (by have := HQ6.out; omega) (by simp; omega) ?_; intro v' w8 hown' hgrow hnil)
                    obtain ⟨A8, c8, rfl⟩ := own_sliceS hown'
                    have HB8 : Hid (Below w.heap.size w w8) := (HB.out.alloc hsr _).grown hgrow (by simp; omega) (fun x h => (hown.lt x h).1)
                    have HK8 : Hid (Blk w8 w.heap.size 42 #[.slice (some ⟨b, off, none⟩) n c]) := (HK.out.alloc _).grown hgrow (Ne.symm (own_apart hown HK.out (by decide)))
                    have HF8 : Hid (Blk w8 wo.heap.size 74 #[.slice (some ⟨bp, op, none⟩) nk ck, .slice Ck mk dk]) := (HF.out.alloc _).grown hgrow (Ne.symm (own_apart hown HF.out (by decide)))
                    have HO8 : Hid (OwnI w8 w.heap.size A8 (q + 1) c8 (L ++ f.1.take (j + 1))) := by
                      show OwnI _ _ _ _ _ _
                      rw [HNX.out]
                      unfold OwnI
                      rw [List.map_append]
                      exact hown'
                    clear hown hown' hgrow hnil HIR HO HK HF HB g0 g1 x1
                    go_wp2
                    go_roundw
                    case rel => exact ⟨j + 1, q + 1, A8, c8, by omega, by go_num, rfl, ⟨by have := HQ.out.1; omega, HQ6.out⟩, HO8.out, HA2.out, HK8.out, HF8.out, HB8.out⟩
                    case measure => simp [intOf]; omega
            · obtain rfl : j = nk := by omega
              have hjj : ¬ (j : Int) < (j : Int) := by omega
              have HTK : Hid (f.1.take j = f.1) := List.take_of_length_le (by rw [HN1.out]; exact Nat.le_refl _)
              rw [HTK.out] at HO
              have HPR : Hid (parsR L f.1 = true) := all_range.2 (fun u hu => HA.out u (by rw [← HN1.out]; exact hu))
              have HFC : Hid (frmR L f = consR (L ++ f.1) f.2) := by show _ = _; unfold frmR; rw [HPR.out]; rfl
              have HN2 : Hid (f.2.length = mk) := HT2.out.1
              obtain ⟨wm, rfl⟩ : ∃ x, x = wr := ⟨wr, rfl⟩
              clear HA
              go_wp2
              go_loopw [8] (fun i wq => ∃ u : Nat, u ≤ mk ∧ i = .int .i64 u ∧ Hid (∀ v, v < u → conIn (L ++ f.1) (f.2.getD v (0, 0, 0)) = true) ∧ Hid (Below wm.heap.size wm wq)) (fun i _ => mk - (intOf i).toNat)
              case atStart => exact ⟨0, Nat.zero_le _, rfl, fun v hv => absurd hv (by omega), Below.refl _ _⟩
              case round =>
                clear g0 g1 hjj
                obtain ⟨u, hu, rfl, HA, HBM⟩ := hrel
                have HBW := Lib.hid (HB.out.trans (HBM.out.mono hsr))
                have hsw := HBM.out.size
                have g1 : wr.cell? ⟨wo.heap.size, 1, none⟩ = some (.slice Ck mk dk) := (HF.out.below HBM.out HF.out.lt).cell 1
                by_cases hlt2 : u < mk
                · have hui : (u : Int) < (mk : Int) := by omega
                  obtain ⟨bp, op, hA, hbp, hcp⟩ := HT2.out.2 (by omega)
                  obtain ⟨x1, x2, x3⟩ := hcp u hlt2
                  obtain ⟨t, ht⟩ : ∃ t, f.2.getD u (0, 0, 0) = t := ⟨_, rfl⟩
                  rw [ht] at x1 x2 x3
                  obtain ⟨U, R, V⟩ := t
                  have HT := Lib.hid ht
                  subst hA
                  have k1 := (HBW.out.cell (p := ⟨bp, op + u * 3, none⟩) (by show bp < _; omega)).trans x1
                  have k2 := (HBW.out.cell (p := ⟨bp, op + u * 3 + 1, none⟩) (by show bp < _; omega)).trans x2
                  have k3 := (HBW.out.cell (p := ⟨bp, op + u * 3 + 2, none⟩) (by show bp < _; omega)).trans x3
                  have HIR : Hid (IntR wr wr.heap.size Aq q (L ++ f.1)) := OwnI.reads (own_below' HO.out HBM.out)
                  clear hcp x1 x2 x3 ht
                  go_wp2_with fail
                  refine (l07Of_any wr wr.heap.size Aq q cq (L ++ f.1) U R V (Nat.le_refl _) HIR.out (by have := HQ.out.2; omega)).mono ?_
                  rintro e w2 ⟨rfl, hb2⟩
                  have HBM2 := Lib.hid (HBM.out.trans (hb2.mono hsw))
                  clear hb2
                  cases hok : conIn (L ++ f.1) (U, R, V) with
                  | true =>
                    have HA2 : Hid (∀ v, v < u + 1 → conIn (L ++ f.1) (f.2.getD v (0, 0, 0)) = true) := fun v hv => by
                      by_cases e : v = u
                      · subst e; rw [HT.out]; exact hok
                      · exact HA.out v (by omega)
                    clear hok
                    go_wp2
                    go_roundw
                    case rel => exact ⟨u + 1, by omega, by go_num, HA2.out, HBM2.out⟩
                    case measure => simp [intOf]; omega
                  | false =>
                    have HR : Hid (sessR fs = false) := HNO.out (frmR_con (consR_not (by rw [HN2.out]; exact hlt2) (by rw [HT.out]; exact hok)))
                    have HBE := Lib.hid (HB.out.trans (HBM2.out.mono hsr))
                    clear hok
                    go_wp2
                    go_ret
                    exact ⟨by rw [HR.out]; rfl, HBE.out⟩
                · obtain rfl : u = mk := by omega
                  have huu : ¬ (u : Int) < (u : Int) := by omega
                  have HFT : Hid (frmR L f = true) := by
                    show _ = _
                    rw [HFC.out]
                    exact all_range.2 (fun v hv => HA.out v (by rw [← HN2.out]; exact hv))
                  have HO9 : Hid (OwnI wr w.heap.size Aq q cq (liveF (fs.take (k + 1)))) := by show OwnI _ _ _ _ _ _; rw [HLT.out]; exact own_below' HO.out HBM.out
                  have HK9 := Lib.hid (HK.out.below HBM.out HK.out.lt)
                  go_wp2
                  go_roundw
                  case rel => exact ⟨k + 1, q, Aq, cq, by omega, by go_num, rfl, HO9.out, HYES.out HFT.out, HK9.out, HBW.out⟩
                  case measure => simp [intOf]; omega
        · obtain rfl : k = n := by omega
          have hkk : ¬ (k : Int) < (k : Int) := by omega
          have HFR : Hid (frmsR fs = true) := all_range.2 (fun j hj => HA.out j (by rw [← HLN.out]; exact hj))
          have HSR : Hid (sessR fs = satR (consF fs)) := sessR_ok (by rw [HLN.out]; omega) (by rw [HLN.out]; exact hn8) HFR.out
          clear HA HO
          go_wp2_with fail
          refine (l07Cons_any wr B A k c fs (by omega) (HL.out.below (HB.out.mono hB)) hn8 HM.out).mono ?_
          rintro e w1 ⟨A1, n1, d1, rfl, ho1, hn1, hb1⟩
          have HB1 := Lib.hid (HB.out.trans (hb1.mono hsr))
          clear hb1
          go_wp2_with fail
          refine (specConsSat_any w1 w1.heap.size A1 n1 d1 (consF fs) (Nat.le_refl _) (OwnC.reads ho1) (by omega)).mono ?_
          rintro e w2 ⟨rfl, hb2⟩
          have HB2 := Lib.hid (HB1.out.trans (hb2.mono HB1.out.size))
          clear hb2 ho1
          rw [← HSR.out]
          go_wp2
          go_ret
          exact ⟨rfl, HB2.out⟩
    · have e8 : (8 : Int) < (n : Int) := by omega
      have HF : Hid (sessR fs = false) := by show _ = _; unfold sessR; rw [HLN.out, decide_eq_false hn8]; simp
      have hb0 : Below w.heap.size w (w.alloc (.cells #[.slice A n c] 42)) := (Below.refl _ _).alloc (Nat.le_refl _) _
      clear hl
      go_enter Try.func19, Try.ntmps19
      go_wp2
      go_ret
      exact ⟨by rw [HF.out]; rfl, hb0⟩
end Go.Proofs.Ytfmhmnpmdjpmeaa
