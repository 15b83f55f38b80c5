/- NormLevel of the program and of the reference model. -/
import Derived.Test.YtgbdojenenfgfaaDoorNTok
import Derived.Test.YtgbdojenenfgfaaDoorJoin
import Derived.Test.YtgbdojenenfgfaaDoorNOk2
import Derived.Test.YtgbdojenenfgfaaDoorNOk3
namespace Go.Proofs.YtgbdojenenfgfaaDoor
open Go.RowKit

/-- what NormLevel answers -/
noncomputable def levR (l : List (Int × Int)) : Option (List (Int × Int)) := if Nm.normOk l = true then ifR (Nm.toksOf l) else none
theorem levR_no {l : List (Int × Int)} (h : Nm.normOk l = false) : levR l = none := if_neg (by rw [h]; decide)
theorem levR_yes {l : List (Int × Int)} (h : Nm.normOk l = true) : levR l = ifR (Nm.toksOf l) := if_pos h
theorem ifR_len24 (l : List (Int × Int)) : ((ifR l).getD []).length ≤ 24 := by
  unfold ifR
  split
  · rename_i h
    exact (ok_len h rfl).2
  · simp
theorem levR_len (l : List (Int × Int)) : ((levR l).getD []).length ≤ 24 := by
  unfold levR
  split
  · exact ifR_len24 _
  · simp
theorem ifR_long {l : List (Int × Int)} (h : 24 < l.length) : ifR l = none := by
  unfold ifR
  rw [if_neg (fun hok => by have := (ok_len hok rfl).2; omega)]
theorem ifR_nil : ifR [] = none := by unfold ifR; rw [if_neg (by decide)]

/-- an atom whose Off is cut to 25 -/
def capAt (a : Int × Int) : Int × Int := (a.1, min a.2 25)
theorem cap_getD (l : List (Int × Int)) (k : Nat) (hk : k < l.length) : (l.map capAt).getD k (0, 0) = capAt (l.getD k (0, 0)) := by
  simp [List.getD_eq_getElem?_getD, List.getElem?_eq_getElem hk]
theorem sum_mem {l : List (Int × Int)} {a : Int × Int} (h : a ∈ l) : a.2.toNat ≤ (l.map fun a => a.2.toNat).sum := by
  induction l with
  | nil => simp at h
  | cons b r ih =>
    simp only [List.map_cons, List.sum_cons]
    rcases List.mem_cons.1 h with rfl | h
    · omega
    · have := ih h; omega
theorem ifR_cap (l : List (Int × Int)) : ifR (Nm.toksOf (l.map capAt)) = ifR (Nm.toksOf l) := by
  by_cases h : ∀ a ∈ l, a.2 ≤ 25
  · have : l.map capAt = l := by
      conv => rhs; rw [← List.map_id l]
      exact List.map_congr_left fun a ha => by have := h a ha; unfold capAt; rw [show min a.2 25 = a.2 by omega]; rfl
    rw [this]
  · simp only [Classical.not_forall] at h
    obtain ⟨a, ha, h25⟩ := h
    have h1 := Nm.toksFrom_len l 0
    have h2 := sum_mem ha
    have h3 := Nm.toksFrom_len (l.map capAt) 0
    have h4 := sum_mem (List.mem_map.2 ⟨a, ha, rfl⟩ : capAt a ∈ l.map capAt)
    have h5 : (capAt a).2.toNat = 25 := by unfold capAt; simp only; omega
    have h6 : a.2.toNat ≤ (Nm.toksFrom 0 l).length := Nat.le_trans h2 h1
    have h7 : (capAt a).2.toNat ≤ (Nm.toksFrom 0 (l.map capAt)).length := Nat.le_trans h4 h3
    rw [ifR_long (by unfold Nm.toksOf; omega), ifR_long (by unfold Nm.toksOf; omega)]
theorem toks_bd {l : List (Int × Int)} (h : ∀ a ∈ l, a.2 ≤ 1000) (k : Nat) : (Nm.toksFrom k l).length ≤ l.length * 1002 := by
  induction l generalizing k with
  | nil => simp [Nm.toksFrom]
  | cons a r ih =>
    have h1 := ih (fun b hb => h b (List.mem_cons_of_mem _ hb)) (k + 1)
    have h2 := h a (by simp)
    simp only [Nm.toksFrom, List.length_append, Nm.atToks_len, List.length_cons]
    have h3 : (if 0 < k then [((2 : Int), (0 : Int))] else []).length ≤ 1 := by split <;> simp
    omega

set_option maxRecDepth 100000 in
set_option maxHeartbeats 3200000 in
theorem implNormLevel_any (w : World) (B : Nat) (A : Option Addr) (n c : Nat) (l : List (Int × Int)) (T : TypeId) (pv : Value) (h0 : 0 < B) (hB : B ≤ w.heap.size) (hl : TokR w B A n l) (hn : (n : Int) ≤ 140737488355328) (hc : n ≤ c) (hE : ErrAt w T pv) :
    Calls Tryd.prog 24 #[.slice A n c] w (ResP w (levR l)) := by
  obtain ⟨i0, hi, hz0, hz1, hz2⟩ := info_parts info_tok
  cases h1 : Nm.normOk l with
  | false =>
    have HF := Lib.hid (levR_no h1)
    have HO := Lib.hid h1
    clear h1
    go_enter Tryd.func24, Tryd.ntmps24
    go_wp2_with fail
    refine (implNormOk_any w B A n c l hB hl hn hc).mono ?_
    rintro e w1 ⟨rfl, hb1⟩
    rw [HO.out]
    go_wp2
    go_ret2
    rw [HF.out]
    exact resP_none hb1
  | true =>
    have HF := Lib.hid (levR_yes h1)
    have HO := Lib.hid h1
    have hokl := (Nm.normOk_iff l).1 h1
    have hn6 : n ≤ 6 := by rw [← hl.1]; exact hokl.len
    have HOK := Lib.hid hokl.2.1
    have HBD : Hid (∀ k, (Nm.toksOf (l.take k)).length ≤ 6012) := by
      intro k
      have h := toks_bd (l := l.take k) (fun a ha => (hokl.2.1.mem (List.mem_of_mem_take ha)).2.2.2) 0
      have h2 : (l.take k).length ≤ 6 := by have h3 := hokl.len; simp; omega
      unfold Nm.toksOf
      omega
    clear h1 hokl
    go_enter Tryd.func24, Tryd.ntmps24
    go_wp2_with fail
    refine (implNormOk_any w B A n c l hB hl hn hc).mono ?_
    rintro e w1 ⟨rfl, hb1⟩
    rw [HO.out]
    have HB1 := Lib.hid hb1
    clear hb1
    go_wp2
    go_loopw [4, 12] (fun v i wr => ∃ (k : Nat) (A' : Option Addr) (c' : Nat), k ≤ n ∧ i = .int .i64 k ∧ v = .slice A' (Nm.toksOf (l.take k)).length c' ∧ OwnT wr w.heap.size A' (Nm.toksOf (l.take k)).length c' (Nm.toksOf (l.take k)) ∧ Below w.heap.size w wr) (fun _ i _ => n - (intOf i).toNat)
    case atStart => exact ⟨0, none, 0, Nat.zero_le _, rfl, rfl, World.ownsRow_nil _ _ _ _, HB1.out⟩
    case round =>
      obtain ⟨k, A', c', hk, rfl, rfl, hown, hbel⟩ := hrel
      have hszr := hbel.size
      have hbd := HBD.out k
      by_cases hlt : k < n
      · have HTK := Lib.hid (Nm.toksOf_take l k (by rw [hl.1]; exact hlt))
        have hat := (Nm.atOk_iff _).1 (HOK.out k (by rw [hl.1]; exact hlt))
        obtain ⟨b, off, rfl, hb, hcc⟩ := hl.2 (by omega)
        obtain ⟨e1, e2⟩ := hcc k hlt
        generalize Nm.toksOf (l.take k) = a at hown hbd HTK ⊢
        generalize l.getD k (0, 0) = t at e1 e2 HTK hat
        obtain ⟨p, x⟩ := t
        simp only at e1 e2 hat
        obtain ⟨g1, g2, g3, g4⟩ := hat
        obtain ⟨xn, rfl⟩ := Int.eq_ofNat_of_zero_le g3
        have k1 := (hbel.cell (p := ⟨b, off + k * 2, none⟩) (by show b < _; omega)).trans e1
        have k2 := (hbel.cell (p := ⟨b, off + k * 2 + 1, none⟩) (by show b < _; omega)).trans e2
        have hbA := hbel.alloc hszr (.cells #[.int .i64 p, .int .i64 (xn : Int)] 78)
        have hoA : OwnT (wr.alloc (.cells #[.int .i64 p, .int .i64 (xn : Int)] 78)) w.heap.size A' a.length c' a := hown.alloc _
        have HL := Lib.hid hl
        have hTL : (Nm.atToks (p, (xn : Int))).length = xn + 1 := by rw [Nm.atToks_len]; simp
        have HTL := Lib.hid hTL
        clear e1 e2 hcc hl hown hbel hTL
        go_wp2_with fail
        refine (atomToks_any _ p xn (by omega)).mono ?_
        rintro e w2 ⟨gt, ct, rfl, ot2, hb2⟩
        have hB2 := hbA.trans (hb2.mono hbA.size)
        have hz2s := hB2.size
        have ho2 := own_below' hoA hb2
        generalize Nm.atToks (p, (xn : Int)) = at0 at ot2 HTK HTL
        have HSC : Hid (∀ j u, (tokCells at0)[j]? = some u → w2.cell? ((⟨gt, 0, none⟩ : Addr).add j) = some u) := fun j u hu => ot2.cells (g := gt) rfl j u hu
        have hcl : (tokCells at0).length = (xn + 1) * 2 := by rw [tokCells_len, HTL.out]
        clear hoA hbA hb2 ot2
        by_cases hk0 : k = 0
        · have HTK2 : Hid (Nm.toksOf (l.take (k + 1)) = a ++ at0) := by show _ = _; rw [HTK.out, if_neg (by omega), List.append_nil]
          have HLN : Hid ((Nm.toksOf (l.take (k + 1))).length = a.length + (xn + 1)) := by show _ = _; rw [HTK2.out, List.length_append, HTL.out]
          have dk : decide (0 < k) = false := by simp; omega
          clear hk0
          go_wp2_with (at_builtin; first
            | (refine wpList_append_own _ rfl (.tmp 17) (.tmp 19) 24 rfl w.heap.size 71 i0 (.agg #[.int .i64 0, .int .i64 0]) 2 16 Tryd.underlying24 hi hz0 hz1 hz2 rfl (by decide) (.slice A' a.length c') a.length (tokCells a) rfl ho2 ⟨gt, 0, none⟩ (xn + 1) ct (tokCells at0) rfl hcl HSC.out (tokCells_one at0) (by unfold maxLen; omega) (by omega) (by omega) ?_
               intro v' w3 hown' hgrow _
               obtain ⟨g', cap', rfl⟩ : ∃ g' cap', v' = .slice (some ⟨g', 0, none⟩) (a.length + (xn + 1)) cap' := by
                 rcases hown'.2 with ⟨_, h⟩ | ⟨g', cap', _, h, _⟩
                 · omega
                 · exact ⟨g', cap', h⟩
               have hB3 : Below w.heap.size w w3 := hB2.grown hgrow (by omega) (fun j h => (ho2.lt j h).1)
               have hz3 := hB3.size
               have ho3 : OwnT w3 w.heap.size (some ⟨g', 0, none⟩) (a.length + (xn + 1)) cap' (a ++ at0) := by
                 unfold OwnT
                 rw [tokCells_append]
                 exact hown'
               clear hown' hgrow ho2 hB2 hcl))
          have HW := Lib.hid ho3
          clear ho3
          go_wp2
          go_roundw
          case rel => exact ⟨k + 1, some ⟨g', 0, none⟩, cap', by omega, by go_num, by rw [HLN.out], by rw [HLN.out, HTK2.out]; exact HW.out, hB3⟩
          case measure => simp [intOf]; omega
        · have hk1 : 0 < k := by omega
          have HTK2 : Hid (Nm.toksOf (l.take (k + 1)) = (a ++ at0) ++ [(2, 0)]) := by show _ = _; rw [HTK.out, if_pos hk1, List.append_assoc]
          have HLN : Hid ((Nm.toksOf (l.take (k + 1))).length = a.length + (xn + 1) + 1) := by show _ = _; rw [HTK2.out, List.length_append, List.length_append, HTL.out]; rfl
          clear hk0
          go_wp2_with (at_builtin; first
            | (refine wpList_append_own _ rfl (.tmp 17) (.tmp 19) 24 rfl w.heap.size 71 i0 (.agg #[.int .i64 0, .int .i64 0]) 2 16 Tryd.underlying24 hi hz0 hz1 hz2 rfl (by decide) (.slice A' a.length c') a.length (tokCells a) rfl ho2 ⟨gt, 0, none⟩ (xn + 1) ct (tokCells at0) rfl hcl HSC.out (tokCells_one at0) (by unfold maxLen; omega) (by omega) (by omega) ?_
               intro v' w3 hown' hgrow _
               obtain ⟨g', cap', rfl⟩ : ∃ g' cap', v' = .slice (some ⟨g', 0, none⟩) (a.length + (xn + 1)) cap' := by
                 rcases hown'.2 with ⟨_, h⟩ | ⟨g', cap', _, h, _⟩
                 · omega
                 · exact ⟨g', cap', h⟩
               have hB3 : Below w.heap.size w w3 := hB2.grown hgrow (by omega) (fun j h => (ho2.lt j h).1)
               have hz3 := hB3.size
               have ho3 : OwnT w3 w.heap.size (some ⟨g', 0, none⟩) (a.length + (xn + 1)) cap' (a ++ at0) := by
                 unfold OwnT
                 rw [tokCells_append]
                 exact hown'
               clear hown' hgrow ho2 hB2 hcl)
            | (refine wpList_append_own _ rfl (.tmp 23) (.tmp 25) 24 rfl w.heap.size 71 i0 (.agg #[.int .i64 0, .int .i64 0]) 2 16 Tryd.underlying24 hi hz0 hz1 hz2 rfl (by decide) (.slice (some ⟨g', 0, none⟩) (a.length + (xn + 1)) cap') (a.length + (xn + 1)) (tokCells (a ++ at0)) rfl (ho3.alloc _) ⟨w3.heap.size, 0, none⟩ 1 1 [.int .i64 2, .int .i64 0] rfl rfl (World.news_of_block (cs := #[.int .i64 2, .int .i64 0]) (t := 71) (fr := (0, 0)) (heap_alloc_new w3 _)) (by intro v hv; simp at hv; rcases hv with rfl | rfl <;> rfl) (by unfold maxLen; omega) (by omega) (by simp; omega) ?_
               intro v' w4 hown' hgrow _
               obtain ⟨g4, cap4, rfl⟩ : ∃ g' cap', v' = .slice (some ⟨g', 0, none⟩) (a.length + (xn + 1) + 1) cap' := by
                 rcases hown'.2 with ⟨_, h⟩ | ⟨g', cap', _, h, _⟩
                 · omega
                 · exact ⟨g', cap', h⟩
               have HB4 : Hid (Below w.heap.size w w4) := (hB3.alloc hz3 _).grown hgrow (by simp; omega) (fun j h => (ho3.lt j h).1)
               have HW : Hid (OwnT w4 w.heap.size (some ⟨g4, 0, none⟩) (Nm.toksOf (l.take (k + 1))).length cap4 (Nm.toksOf (l.take (k + 1)))) := by
                 show OwnT _ _ _ _ _ _
                 rw [HLN.out, HTK2.out]
                 unfold OwnT
                 rw [tokCells_append]
                 exact hown'
               clear hown' hgrow ho3 hB3))
          go_wp2
          go_roundw
          case rel => exact ⟨k + 1, some ⟨g4, 0, none⟩, cap4, by omega, by go_num, by rw [HLN.out], HW.out, HB4.out⟩
          case measure => simp [intOf]; omega
      · rw [List.take_of_length_le (by have := hl.1; omega)] at hown hbd ⊢
        have HE2 := Lib.hid (hE.below (hbel.mono hB) h0)
        clear hl
        go_wp2_with fail
        refine (checked_any wr w.heap.size A' _ c' (Nm.toksOf l) T pv (by omega) (by omega) hown HE2.out).mono ?_
        rintro e w5 ⟨⟨A5, c5, rfl, ho5⟩, hb5⟩
        have HB5 := Lib.hid (hbel.trans (hb5.mono hbel.size))
        have HO5 := Lib.hid ho5
        clear ho5 hb5 hown
        go_wp2
        go_ret2
        rw [HF.out]
        exact ⟨A5, c5, rfl, HO5.out, HB5.out⟩
end Go.Proofs.YtgbdojenenfgfaaDoor
