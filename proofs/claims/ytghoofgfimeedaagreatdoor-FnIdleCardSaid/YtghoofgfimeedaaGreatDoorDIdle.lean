/- LevelIdle: the program's and the reference model's. -/
import Derived.Test.YtghoofgfimeedaaGreatDoorDcMath5
import Derived.Test.YtghoofgfimeedaaGreatDoorSubMath
import Derived.Test.YtghoofgfimeedaaGreatDoorIMg
import Derived.Test.YtghoofgfimeedaaGreatDoorSMg
import Derived.Test.YtghoofgfimeedaaGreatDoorSgLev

namespace Go.Proofs.YtghoofgfimeedaaGreatDoor
open Go.RowKit

theorem Dc.prms_len (l : List (Int × Int)) : (prms l).length ≤ 5 := by
  unfold prms
  split
  · exact prmsTo_len l 5
  · simp
theorem Dc.idleR_len (l : List (Int × Int)) : (Dc.idleR l).length ≤ 5 := Nat.le_trans (List.length_filter_le _ _) (Dc.prms_len l)
/-- the idle ones among the first k parameters -/
noncomputable def idleTo (l : List (Int × Int)) (k : Nat) : List Int := ((prms l).take k).filter (mergeR l)
theorem take_one {q : List Int} {k : Nat} (hk : k < q.length) : q.take (k + 1) = q.take k ++ [q.getD k 0] := by
  rw [List.take_succ_eq_append_getElem hk, List.getD_eq_getElem?_getD, List.getElem?_eq_getElem hk]
  rfl
theorem idleTo_yes {l : List (Int × Int)} {k : Nat} (hk : k < (prms l).length) (h : mergeR l ((prms l).getD k 0) = true) : idleTo l (k + 1) = idleTo l k ++ [(prms l).getD k 0] := by
  unfold idleTo
  rw [take_one hk, List.filter_append]
  simp only [List.filter_cons, List.filter_nil, h, if_true]
theorem idleTo_no {l : List (Int × Int)} {k : Nat} (hk : k < (prms l).length) (h : mergeR l ((prms l).getD k 0) = false) : idleTo l (k + 1) = idleTo l k := by
  unfold idleTo
  rw [take_one hk, List.filter_append]
  simp only [List.filter_cons, List.filter_nil, h, if_neg (show ¬ (false = true) by decide), List.append_nil]
theorem idleTo_zero (l : List (Int × Int)) : idleTo l 0 = [] := by simp [idleTo]
theorem idleTo_all {l : List (Int × Int)} {k : Nat} (h : (prms l).length = k) : idleTo l k = Dc.idleR l := by
  unfold idleTo Dc.idleR
  rw [List.take_of_length_le (by omega)]
theorem idleTo_len (l : List (Int × Int)) (k : Nat) : (idleTo l k).length ≤ 5 :=
  Nat.le_trans (List.length_filter_le _ _) (by rw [List.length_take]; have := Dc.prms_len l; omega)

set_option maxRecDepth 100000 in
set_option maxHeartbeats 3200000 in
theorem implIdle_any (w : World) (B : Nat) (A : Option Addr) (n c : Nat) (l : List (Int × Int)) (T : TypeId) (pv : Value) (h0 : 0 < B) (hB : B ≤ w.heap.size)
    (hl : TokR w B A n l) (hn : n ≤ 1048576) (hE : ErrAt w T pv) :
    Calls Tryz.prog 9 #[.slice A n c] w (ResI w (Dc.idleR l)) := by
  obtain ⟨i0, hi, hz0, hz1, hz2⟩ := info_parts info_int
  go_enter Tryz.func9, Tryz.ntmps9
  go_wp2_with fail
  refine (implParams_any w B A n c l T pv h0 hB hl hn hE).mono ?_
  rintro e w1 ⟨Ap, cp, rfl, hop, hb1⟩
  have HB1 := Lib.hid hb1
  have hs1 := hb1.size
  have HL1 := Lib.hid (hl.below (HB1.out.mono hB))
  have hP5 := Dc.prms_len l
  obtain ⟨M, hM⟩ : ∃ M, (prms l).length = M := ⟨_, rfl⟩
  rw [hM] at hop hP5 ⊢
  have HM := Lib.hid hM
  have HOP := Lib.hid hop
  clear hM hop hb1 hl
  go_wp2
  go_loopw [3, 9] (fun v i wr => ∃ (k : Nat) (A' : Option Addr) (c' : Nat), k ≤ M ∧ i = .int .i64 k ∧ v = .slice A' (idleTo l k).length c' ∧ Hid (OwnI wr w1.heap.size A' (idleTo l k).length c' (idleTo l k)) ∧ Hid (Below w1.heap.size w1 wr)) (fun _ i _ => M - (intOf i).toNat)
  case atStart => exact ⟨0, none, 0, Nat.zero_le _, rfl, by rw [idleTo_zero]; rfl, by rw [idleTo_zero]; exact World.ownsRow_nil _ _ _ _, Below.refl _ _⟩
  case round =>
    obtain ⟨k, A', c', hk, rfl, rfl, HOWN, HBR⟩ := hrel
    have hil := idleTo_len l k
    have hszr := HBR.out.size
    by_cases hlt : k < M
    · have hki : (k : Int) < (M : Int) := by omega
      obtain ⟨pb, po, hpa, hpb, hpc⟩ := (OwnI.reads HOP.out).2 (by omega)
      have hpk := (HBR.out.cell (p := ⟨pb, po + k, none⟩) hpb).trans (hpc k hlt)
      obtain ⟨q, hq⟩ : ∃ q, (prms l).getD k 0 = q := ⟨_, rfl⟩
      rw [hq] at hpk
      have HQ := Lib.hid hq
      subst hpa
      clear hpc hq
      go_wp2_with fail
      refine (implSignMerge_any wr B A n c l q T pv h0 (by omega) (HL1.out.below (HBR.out.mono (by omega))) (by omega) ((hE.below (HB1.out.mono hB) h0).below (HBR.out.mono (Nat.le_trans hB hs1)) h0)).mono ?_
      rintro e w2 ⟨rfl, hb2⟩
      have HB2 := Lib.hid (HBR.out.trans (hb2.mono hszr))
      have hpk2 := (hb2.cell (p := ⟨pb, po + k, none⟩) (by show pb < _; omega)).trans hpk
      have hs2 := hb2.size
      have hsz2 := HB2.out.size
      have HOW2 := Lib.hid (own_below' HOWN.out hb2)
      clear hb2 HBR HOWN hpk
      cases hm : mergeR l q with
      | true =>
        have HS := Lib.hid (idleTo_yes (l := l) (k := k) (by rw [HM.out]; exact hlt) (by rw [HQ.out]; exact hm))
        rw [HQ.out] at HS
        clear hm
        have hown2 := HOW2.out
        clear HOW2
        go_wp2_with (at_builtin; refine wpList_append_own _ rfl (.tmp 16) (.tmp 18) 29 rfl w1.heap.size 3 i0 (.int .i64 0) 1 8 Tryz.underlying29 hi hz0 hz1 hz2 rfl (by decide) (.slice A' (idleTo l k).length c') (idleTo l k).length ((idleTo l k).map (Value.int .i64)) rfl (hown2.alloc _) ⟨w2.heap.size, 0, none⟩ 1 1 [.int .i64 q] rfl rfl (cell_one_new _ _ _) (fun u hu => by simp at hu; subst hu; rfl) (by unfold maxLen; omega) (by omega) (by simp; omega) ?_; intro v' w3 hown' hgrow _)
        · obtain ⟨g, cap', rfl⟩ : ∃ g cap', v' = .slice (some ⟨g, 0, none⟩) ((idleTo l k).length + 1) cap' := by
            rcases hown'.2 with ⟨_, h⟩ | ⟨g, cap', _, h, _⟩
            · omega
            · exact ⟨g, cap', h⟩
          have HB3 : Hid (Below w1.heap.size w1 w3) := (HB2.out.alloc hsz2 _).grown hgrow (by simp; omega) (fun k h => (hown2.lt k h).1)
          have HW : Hid (OwnI w3 w1.heap.size (some ⟨g, 0, none⟩) (idleTo l (k + 1)).length cap' (idleTo l (k + 1))) := by
            show OwnI _ _ _ _ _ _
            rw [HS.out]
            simpa [OwnI] using hown'
          have HLn : Hid ((idleTo l (k + 1)).length = (idleTo l k).length + 1) := by show _ = _; rw [HS.out]; simp
          clear hown' hgrow hown2
          go_wp2
          go_roundw
          case rel => exact ⟨k + 1, some ⟨g, 0, none⟩, cap', by omega, by go_num, by rw [HLn.out], HW.out, HB3.out⟩
          case measure => simp [intOf]; omega
      | false =>
        have HS := Lib.hid (idleTo_no (l := l) (k := k) (by rw [HM.out]; exact hlt) (by rw [HQ.out]; exact hm))
        clear hm
        go_wp2
        go_roundw
        case rel => exact ⟨k + 1, A', c', by omega, by go_num, by rw [HS.out], by rw [HS.out]; exact HOW2.out, HB2.out⟩
        case measure => simp [intOf]; omega
    · obtain rfl : k = M := by omega
      have HI := Lib.hid (idleTo_all HM.out)
      have hkk : ¬ (k : Int) < (k : Int) := by omega
      have HBE := Lib.hid (HB1.out.trans (HBR.out.mono hs1))
      have HOE := Lib.hid (own_base HOWN.out hs1)
      go_wp2
      go_ret
      rw [← HI.out]
      exact ⟨A', c', rfl, HOE.out, HBE.out⟩
set_option maxRecDepth 100000 in
set_option maxHeartbeats 3200000 in
theorem specIdle_any (w : World) (B : Nat) (A : Option Addr) (n c : Nat) (l : List (Int × Int)) (hB : B ≤ w.heap.size)
    (hl : TokR w B A n l) (hn : n ≤ 1048576) :
    Calls Tryz.prog 21 #[.slice A n c] w (ResI w (Dc.idleR l)) := by
  obtain ⟨i0, hi, hz0, hz1, hz2⟩ := info_parts info_int
  obtain ⟨w0, hw0⟩ : ∃ w0, w.alloc (.cells #[] 3) = w0 := ⟨_, rfl⟩
  have HS0 : Hid (OwnI w0 w.heap.size (some ⟨w.heap.size, 0, none⟩) 0 0 []) := by rw [← hw0]; exact World.ownsRow_made w #[] 0 (Nat.le_refl _) (by simp [maxLen]) (by simp)
  have HB0 : Hid (Below w.heap.size w w0) := by rw [← hw0]; exact (Below.refl _ _).alloc (Nat.le_refl _) _
  have hs0 : w0.heap.size = w.heap.size + 1 := by rw [← hw0]; simp
  go_enter Tryz.func21, Tryz.ntmps21
  go_wp2_with fail
  refine (specParams_any w0 B A n c l (by omega) (hl.below (HB0.out.mono hB)) hn).mono ?_
  rintro e w1 ⟨Ap, cp, rfl, hop, hb1⟩
  have HB1 := Lib.hid (HB0.out.trans (hb1.mono (by omega)))
  have HS1 := Lib.hid (own_below' HS0.out hb1)
  have hs1 := hb1.size
  have HL1 := Lib.hid (hl.below (HB1.out.mono hB))
  have hP5 := Dc.prms_len l
  obtain ⟨M, hM⟩ : ∃ M, (prms l).length = M := ⟨_, rfl⟩
  rw [hM] at hop hP5 ⊢
  have HM := Lib.hid hM
  have HOP := Lib.hid hop
  clear hM hop hb1 hl hw0
  go_wp2
  go_loopw [3, 5] (fun v i wr => ∃ (k : Nat) (A' : Option Addr) (c' : Nat), k ≤ M ∧ i = .int .i64 k ∧ v = .slice A' (idleTo l k).length c' ∧ Hid (OwnI wr w1.heap.size A' (idleTo l k).length c' (idleTo l k) ∨ (A' = some ⟨w.heap.size, 0, none⟩ ∧ c' = 0 ∧ idleTo l k = [])) ∧ Hid (Below w1.heap.size w1 wr)) (fun _ i _ => M - (intOf i).toNat)
  case atStart => exact ⟨0, some ⟨w.heap.size, 0, none⟩, 0, Nat.zero_le _, rfl, by rw [idleTo_zero]; rfl, .inr ⟨rfl, rfl, idleTo_zero l⟩, Below.refl _ _⟩
  case round =>
    obtain ⟨k, A', c', hk, rfl, rfl, HOWN, HBR⟩ := hrel
    have hil := idleTo_len l k
    have hszr := HBR.out.size
    by_cases hlt : k < M
    · have hki : (k : Int) < (M : Int) := by omega
      obtain ⟨pb, po, hpa, hpb, hpc⟩ := (OwnI.reads HOP.out).2 (by omega)
      have hpk := (HBR.out.cell (p := ⟨pb, po + k, none⟩) hpb).trans (hpc k hlt)
      obtain ⟨q, hq⟩ : ∃ q, (prms l).getD k 0 = q := ⟨_, rfl⟩
      rw [hq] at hpk
      have HQ := Lib.hid hq
      subst hpa
      clear hpc hq
      go_wp2_with fail
      refine (specSignMerge_any wr B A n c l q (by omega) (HL1.out.below (HBR.out.mono (by omega))) (by omega)).mono ?_
      rintro e w2 ⟨rfl, hb2⟩
      have HB2 := Lib.hid (HBR.out.trans (hb2.mono hszr))
      have hpk2 := (hb2.cell (p := ⟨pb, po + k, none⟩) (by show pb < _; omega)).trans hpk
      have hs2 := hb2.size
      have hsz2 := HB2.out.size
      have HOW2 : Hid (OwnI w2 w1.heap.size A' (idleTo l k).length c' (idleTo l k) ∨ (A' = some ⟨w.heap.size, 0, none⟩ ∧ c' = 0 ∧ idleTo l k = [])) := HOWN.out.imp (fun h => own_below' h hb2) id
      clear hb2 HBR HOWN hpk
      cases hm : mergeR l q with
      | true =>
        have HS := Lib.hid (idleTo_yes (l := l) (k := k) (by rw [HM.out]; exact hlt) (by rw [HQ.out]; exact hm))
        rw [HQ.out] at HS
        clear hm
        rcases HOW2.out with hown2 | ⟨rfl, rfl, hE0⟩
        · clear HOW2
          go_wp2_with (at_builtin; refine wpList_append_own _ rfl (.tmp 21) (.tmp 26) 29 rfl w1.heap.size 3 i0 (.int .i64 0) 1 8 Tryz.underlying29 hi hz0 hz1 hz2 rfl (by decide) (.slice A' (idleTo l k).length c') (idleTo l k).length ((idleTo l k).map (Value.int .i64)) rfl (hown2.alloc _) ⟨w2.heap.size, 0, none⟩ 1 1 [.int .i64 q] rfl rfl (cell_one_new _ _ _) (fun u hu => by simp at hu; subst hu; rfl) (by unfold maxLen; omega) (by omega) (by simp; omega) ?_; intro v' w3 hown' hgrow _)
          · obtain ⟨g, cap', rfl⟩ : ∃ g cap', v' = .slice (some ⟨g, 0, none⟩) ((idleTo l k).length + 1) cap' := by
              rcases hown'.2 with ⟨_, h⟩ | ⟨g, cap', _, h, _⟩
              · omega
              · exact ⟨g, cap', h⟩
            have HB3 : Hid (Below w1.heap.size w1 w3) := (HB2.out.alloc hsz2 _).grown hgrow (by simp; omega) (fun k h => (hown2.lt k h).1)
            have HW : Hid (OwnI w3 w1.heap.size (some ⟨g, 0, none⟩) (idleTo l (k + 1)).length cap' (idleTo l (k + 1))) := by
              show OwnI _ _ _ _ _ _
              rw [HS.out]
              simpa [OwnI] using hown'
            have HLn : Hid ((idleTo l (k + 1)).length = (idleTo l k).length + 1) := by show _ = _; rw [HS.out]; simp
            clear hown' hgrow hown2
            go_wp2
            go_roundw
            case rel => exact ⟨k + 1, some ⟨g, 0, none⟩, cap', by omega, by go_num, by rw [HLn.out], .inl HW.out, HB3.out⟩
            case measure => simp [intOf]; omega
        · have HE := Lib.hid hE0
          rw [hE0, List.length_nil]
          clear hE0 HOW2
          go_wp2_with (at_builtin; refine wpList_append_grows _ rfl (.tmp 21) (.tmp 26) 29 rfl 3 i0 (.int .i64 0) 1 8 Tryz.underlying29 hi hz0 hz1 hz2 rfl (by decide) (some ⟨w.heap.size, 0, none⟩) 0 0 [] rfl (fun h => by cases h) rfl (fun b _ j u hj => by cases hj) ⟨w2.heap.size, 0, none⟩ 1 1 [.int .i64 q] rfl rfl (cell_one_new _ _ _) (fun u hu => by simp at hu; subst hu; rfl) (by omega) (by unfold maxLen; omega) (by omega) ?_; intro v' w3 hown' hgrow)
          · obtain ⟨g, cap', rfl⟩ : ∃ g cap', v' = .slice (some ⟨g, 0, none⟩) (1) cap' := by
              rcases hown'.2 with ⟨_, h⟩ | ⟨g, cap', _, h, _⟩
              · omega
              · exact ⟨g, cap', h⟩
            have HB3 : Hid (Below w1.heap.size w1 w3) := (HB2.out.alloc hsz2 _).grown hgrow (by simp; omega) (fun k h => by cases h)
            have HW : Hid (OwnI w3 w1.heap.size (some ⟨g, 0, none⟩) (idleTo l (k + 1)).length cap' (idleTo l (k + 1))) := by
              show OwnI _ _ _ _ _ _
              rw [HS.out]
              rw [HE.out]
              have h5 := own_base (base' := w1.heap.size) hown' (by simp; omega)
              simpa [OwnI] using h5
            have HLn : Hid ((idleTo l (k + 1)).length = 1) := by show _ = _; rw [HS.out, HE.out]; simp
            clear hown' hgrow
            go_wp2
            go_roundw
            case rel => exact ⟨k + 1, some ⟨g, 0, none⟩, cap', by omega, by go_num, by rw [HLn.out], .inl HW.out, HB3.out⟩
            case measure => simp [intOf]; omega
      | false =>
        have HS := Lib.hid (idleTo_no (l := l) (k := k) (by rw [HM.out]; exact hlt) (by rw [HQ.out]; exact hm))
        clear hm
        go_wp2
        go_roundw
        case rel => exact ⟨k + 1, A', c', by omega, by go_num, by rw [HS.out], by rw [HS.out]; exact HOW2.out, HB2.out⟩
        case measure => simp [intOf]; omega
    · obtain rfl : k = M := by omega
      have HI := Lib.hid (idleTo_all HM.out)
      have hkk : ¬ (k : Int) < (k : Int) := by omega
      have HBE := Lib.hid (HB1.out.trans (HBR.out.mono (by omega)))
      have HOE : Hid (OwnI wr w.heap.size A' (idleTo l k).length c' (idleTo l k)) := by
        rcases HOWN.out with h | ⟨rfl, rfl, h⟩
        · exact own_base h (by omega)
        · show OwnI _ _ _ _ _ _
          rw [h]
          exact own_below' HS1.out HBR.out
      go_wp2
      go_ret
      rw [← HI.out]
      exact ⟨A', c', rfl, HOE.out, HBE.out⟩
end Go.Proofs.YtghoofgfimeedaaGreatDoor
