/- NormLevel of the reference model. -/
import Derived.Test.YtgbdojenenfgfaaDoorNLev
namespace Go.Proofs.YtgbdojenenfgfaaDoor
open Go.RowKit

theorem capToks_take (l : List (Int × Int)) (k : Nat) (hk : k < l.length) : Nm.toksOf ((l.map capAt).take (k + 1)) = Nm.toksOf ((l.map capAt).take k) ++ (Nm.atToks (capAt (l.getD k (0, 0))) ++ if 0 < k then [(2, 0)] else []) := by
  rw [Nm.toksOf_take _ k (by simpa using hk), cap_getD l k hk]
theorem rep_snoc (j : Nat) : List.replicate (j + 1) ((1 : Int), (0 : Int)) = List.replicate j (1, 0) ++ [(1, 0)] := List.replicate_succ'
theorem cap_bd (l : List (Int × Int)) (k : Nat) : (Nm.toksOf ((l.map capAt).take k)).length ≤ k * 1002 := by
  have h := toks_bd (l := (l.map capAt).take k) (fun a ha => by
    obtain ⟨b, _, rfl⟩ := List.mem_map.1 (List.mem_of_mem_take ha)
    unfold capAt; simp only; omega) 0
  have h2 : ((l.map capAt).take k).length ≤ k := by simp; omega
  exact Nat.le_trans h (Nat.mul_le_mul_right 1002 h2)

set_option maxRecDepth 100000 in
set_option maxHeartbeats 6400000 in
theorem specNormLevel_any (w : World) (B : Nat) (A : Option Addr) (n c : Nat) (l : List (Int × Int)) (hB : B ≤ w.heap.size) (hl : TokR w B A n l) (hn : (n : Int) ≤ 140737488355328) :
    Calls Tryd.prog 25 #[.slice A n c] w (ResP w (levR l)) := by
  obtain ⟨i0, hi, hz0, hz1, hz2⟩ := info_parts info_tok
  have HO0 : Hid (OwnT (w.alloc (.cells #[] 71)) w.heap.size (some ⟨w.heap.size, 0, none⟩) 0 0 []) := World.ownsRow_made w #[] 0 (Nat.le_refl _) (by simp [maxLen]) (by simp)
  have HB0 : Hid (Below w.heap.size w (w.alloc (.cells #[] 71))) := (Below.refl _ _).alloc (Nat.le_refl _) _
  cases h1 : Nm.normOk l with
  | false =>
    have HF := Lib.hid (levR_no h1)
    have HO := Lib.hid h1
    clear h1
    go_enter Tryd.func25, Tryd.ntmps25
    go_wp2
    go_loopw [4, 5] (fun v i wr => i = .int .i64 0 ∧ v = .slice (some ⟨w.heap.size, 0, none⟩) 0 0 ∧ OwnT wr w.heap.size (some ⟨w.heap.size, 0, none⟩) 0 0 [] ∧ Below w.heap.size w wr) (fun _ _ _ => 0)
    case atStart => exact ⟨rfl, rfl, HO0.out, HB0.out⟩
    case round =>
      obtain ⟨rfl, rfl, hown, hbel⟩ := hrel
      by_cases hn0 : n = 0
      · subst hn0
        clear hl
        go_wp2_with fail
        refine (l01If_any wr w.heap.size _ 0 0 [] (by omega) hown).mono ?_
        rintro e w5 ⟨⟨A5, c5, rfl, ho5⟩, hb5⟩
        rw [ifR_nil] at ho5 ⊢
        have HB5 := Lib.hid (hbel.trans (hb5.mono hbel.size))
        have HO5 := Lib.hid ho5
        clear ho5 hb5
        go_wp2
        go_ret2
        rw [HF.out]
        exact ⟨A5, c5, rfl, HO5.out, HB5.out⟩
      · have hn1 : 0 < n := by omega
        go_wp2_with fail
        refine (specNormOk_any wr B A n c l (Nat.le_trans hB hbel.size) (hl.below (hbel.mono hB)) hn).mono ?_
        rintro e w1 ⟨rfl, hb1⟩
        rw [HO.out]
        have hB1 := hbel.trans (hb1.mono hbel.size)
        have ho1 := own_below' hown hb1
        clear hb1 hown hl
        go_wp2_with fail
        refine (l01If_any w1 w.heap.size _ 0 0 [] (by omega) ho1).mono ?_
        rintro e w5 ⟨⟨A5, c5, rfl, ho5⟩, hb5⟩
        rw [ifR_nil] at ho5 ⊢
        have HB5 := Lib.hid (hB1.trans (hb5.mono hB1.size))
        have HO5 := Lib.hid ho5
        clear ho5 hb5
        go_wp2
        go_ret2
        rw [HF.out]
        exact ⟨A5, c5, rfl, HO5.out, HB5.out⟩
  | true =>
    have HF := Lib.hid ((levR_yes h1).trans (ifR_cap l).symm)
    have HO := Lib.hid h1
    have hokl := (Nm.normOk_iff l).1 h1
    have hn6 : n ≤ 6 := by rw [← hl.1]; exact hokl.len
    have HOK := Lib.hid hokl.2.1
    clear h1 hokl
    go_enter Tryd.func25, Tryd.ntmps25
    go_wp2
    go_loopw [4, 5] (fun v i wr => ∃ (k g cap : Nat), k ≤ n ∧ i = .int .i64 k ∧ v = .slice (some ⟨g, 0, none⟩) (Nm.toksOf ((l.map capAt).take k)).length cap ∧ OwnT wr w.heap.size (some ⟨g, 0, none⟩) (Nm.toksOf ((l.map capAt).take k)).length cap (Nm.toksOf ((l.map capAt).take k)) ∧ Below w.heap.size w wr) (fun _ i _ => n - (intOf i).toNat)
    case atStart => exact ⟨0, w.heap.size, 0, Nat.zero_le _, rfl, rfl, HO0.out, HB0.out⟩
    case round =>
      obtain ⟨k, g, cap, hk, rfl, rfl, hown, hbel⟩ := hrel
      have hbd := cap_bd l k
      by_cases hlt : k < n
      · have HTK := Lib.hid (capToks_take l k (by rw [hl.1]; exact hlt))
        have hat := (Nm.atOk_iff _).1 (HOK.out k (by rw [hl.1]; exact hlt))
        obtain ⟨b, off, rfl, hb, hcc⟩ := hl.2 (by omega)
        obtain ⟨e1, e2⟩ := hcc k hlt
        generalize Nm.toksOf ((l.map capAt).take k) = a at hown hbd HTK ⊢
        generalize l.getD k (0, 0) = t at e1 e2 HTK hat
        obtain ⟨p, x⟩ := t
        simp only at e1 e2 hat
        obtain ⟨g1, g2, g3, g4⟩ := hat
        obtain ⟨xn, rfl⟩ := Int.eq_ofNat_of_zero_le g3
        have hki : (k : Int) < (n : Int) := by omega
        go_wp2_with fail
        refine (specNormOk_any wr B _ n c l (Nat.le_trans hB hbel.size) (hl.below (hbel.mono hB)) hn).mono ?_
        rintro e w1 ⟨rfl, hb1⟩
        rw [HO.out]
        have hB1 := hbel.trans (hb1.mono hbel.size)
        have hz1s := hB1.size
        have ho1 := own_below' hown hb1
        have k1 := (hB1.cell (p := ⟨b, off + k * 2, none⟩) (by show b < _; omega)).trans e1
        have ka1 : ∀ ob, (w1.alloc ob).cell? ⟨b, off + k * 2, none⟩ = some (.int .i64 p) := fun ob => (World.cell?_alloc_past _ _ _ (by show b < _; omega)).trans k1
        have HE2 := Lib.hid e2
        have HL := Lib.hid hl
        clear e1 e2 hcc hl hown hbel hb1
        have HCX : Hid (∀ q : Int, Nm.atToks (capAt (p, (xn : Int))) = Nm.leafTk (p, q) :: List.replicate (min xn 25) (1, 0)) := fun q => by
          unfold Nm.atToks capAt Nm.leafTk
          simp only
          congr 2
          omega
        by_cases hp : p = -1
        · subst hp
          have HCY : Hid (Nm.atToks (capAt ((-1), (xn : Int))) = (0, 0) :: List.replicate (min xn 25) (1, 0)) := by show _ = _; rw [HCX.out 0]; simp [Nm.leafTk]
          have ho2 : OwnT ((w1.alloc (.cells #[.int .i64 0, .int .i64 0] 71)).alloc (.cells #[.int .i64 0, .int .i64 0] 71)) w.heap.size (some ⟨g, 0, none⟩) a.length cap a := (ho1.alloc _).alloc _
          have hB2 : Below w.heap.size w ((w1.alloc (.cells #[.int .i64 0, .int .i64 0] 71)).alloc (.cells #[.int .i64 0, .int .i64 0] 71)) := (hB1.alloc hz1s _).alloc (by simp; omega) _
          have HNB : Hid (∀ j u, ([Value.int .i64 0, .int .i64 0] : List Value)[j]? = some u → ((w1.alloc (.cells #[.int .i64 0, .int .i64 0] 71)).alloc (.cells #[.int .i64 0, .int .i64 0] 71)).cell? ((⟨w1.heap.size + 1, 0, none⟩ : Addr).add j) = some u) := by
            have h := World.news_of_block (cs := #[.int .i64 0, .int .i64 0]) (t := 71) (fr := (0, 0)) (heap_alloc_new (w1.alloc (.cells #[.int .i64 0, .int .i64 0] 71)) (.cells #[.int .i64 0, .int .i64 0] 71))
            have e : (w1.alloc (.cells #[.int .i64 0, .int .i64 0] 71)).heap.size = w1.heap.size + 1 := by simp
            rw [e] at h
            exact Lib.hid h
          clear ho1 HCX
          go_wp2_with (at_builtin; first
            | (refine wpList_append_own _ rfl (.tmp 32) (.tmp 34) 24 rfl w.heap.size 71 i0 (.agg #[.int .i64 0, .int .i64 0]) 2 16 Tryd.underlying24 hi hz0 hz1 hz2 rfl (by decide) (.slice (some ⟨g, 0, none⟩) a.length cap) a.length (tokCells a) rfl ho2 ⟨w1.heap.size + 1, 0, none⟩ 1 1 [.int .i64 0, .int .i64 0] rfl rfl HNB.out (by intro v hv; simp at hv; rcases hv with rfl | rfl <;> rfl) (by unfold maxLen; omega) (by omega) (by simp; omega) ?_
               intro v' w3 hown' hgrow _
               obtain ⟨g', cap', rfl⟩ : ∃ g' cap', v' = .slice (some ⟨g', 0, none⟩) (a.length + 1) cap' := by
                 rcases hown'.2 with ⟨_, h⟩ | ⟨g', cap', _, h, _⟩
                 · omega
                 · exact ⟨g', cap', h⟩
               have hB3 : Below w.heap.size w w3 := hB2.grown hgrow (by simp; omega) (fun j h => (ho2.lt j h).1)
               have HO3 : Hid (OwnT w3 w.heap.size (some ⟨g', 0, none⟩) (a.length + 1) cap' (a ++ ((0, 0) :: List.replicate 0 (1, 0)))) := by
                 show OwnT _ _ _ _ _ _
                 unfold OwnT
                 rw [tokCells_append]
                 exact hown'
               clear hown' hgrow ho2 hB2))
          have HB3 := Lib.hid hB3
          clear hB3
          go_loopw [4, 7] (fun v i wq => ∃ (j g cap : Nat), j ≤ min xn 25 ∧ i = .int .i64 j ∧ v = .slice (some ⟨g, 0, none⟩) (a.length + 1 + j) cap ∧ OwnT wq w.heap.size (some ⟨g, 0, none⟩) (a.length + 1 + j) cap (a ++ ((0, 0) :: List.replicate j (1, 0))) ∧ Below w.heap.size w wq) (fun _ i _ => 26 - (intOf i).toNat)
          case atStart => exact ⟨0, g', cap', Nat.zero_le _, rfl, rfl, HO3.out, HB3.out⟩
          case round =>
            clear HB3 HO3 HNB
            rename_i wr0 _
            obtain ⟨j, gj, cj, hj, rfl, rfl, hown, hbq⟩ := hrel
            have hzq := hbq.size
            have k2 := (hbq.cell (p := ⟨b, off + k * 2 + 1, none⟩) (by show b < _; omega)).trans HE2.out
            by_cases hjx : j < min xn 25
            · have hj1 : (j : Int) < (xn : Int) := by omega
              have hj2 : j ≤ 24 := by omega
              have hj3 : j < xn := by omega
              have HNB : Hid (∀ j u, ([Value.int .i64 1, .int .i64 0] : List Value)[j]? = some u → (wr.alloc (.cells #[.int .i64 1, .int .i64 0] 71)).cell? ((⟨wr.heap.size, 0, none⟩ : Addr).add j) = some u) := World.news_of_block (cs := #[.int .i64 1, .int .i64 0]) (t := 71) (fr := (0, 0)) (heap_alloc_new wr _)
              go_wp2_with (at_builtin; first
                | (refine wpList_append_own _ rfl (.tmp 49) (.tmp 51) 24 rfl w.heap.size 71 i0 (.agg #[.int .i64 0, .int .i64 0]) 2 16 Tryd.underlying24 hi hz0 hz1 hz2 rfl (by decide) (.slice (some ⟨gj, 0, none⟩) (a.length + 1 + j) cj) (a.length + 1 + j) (tokCells (a ++ ((0, 0) :: List.replicate j (1, 0)))) rfl (hown.alloc _) ⟨wr.heap.size, 0, none⟩ 1 1 [.int .i64 1, .int .i64 0] rfl rfl HNB.out (by intro v hv; simp at hv; rcases hv with rfl | rfl <;> rfl) (by unfold maxLen; omega) (by omega) (by simp; omega) ?_
                   intro v' w4 hown' hgrow _
                   obtain ⟨g4, cap4, rfl⟩ : ∃ g' cap', v' = .slice (some ⟨g', 0, none⟩) (a.length + 1 + j + 1) cap' := by
                     rcases hown'.2 with ⟨_, h⟩ | ⟨g', cap', _, h, _⟩
                     · omega
                     · exact ⟨g', cap', h⟩
                   have HB4 : Hid (Below w.heap.size w w4) := (hbq.alloc hzq _).grown hgrow (by simp; omega) (fun j h => (hown.lt j h).1)
                   have HW4 : Hid (OwnT w4 w.heap.size (some ⟨g4, 0, none⟩) (a.length + 1 + (j + 1)) cap4 (a ++ ((0, 0) :: List.replicate (j + 1) (1, 0)))) := by
                     show OwnT _ _ _ _ _ _
                     rw [rep_snoc, ← List.cons_append, ← List.append_assoc]
                     unfold OwnT
                     rw [tokCells_append]
                     exact hown'
                   clear hown' hgrow hown hbq))
              go_wp2
              go_roundw
              case rel => exact ⟨j + 1, g4, cap4, by omega, by go_num, rfl, HW4.out, HB4.out⟩
              case measure => simp [intOf]; omega
            · obtain rfl : j = min xn 25 := by omega
              obtain ⟨mx, hmx⟩ : ∃ mx, min xn 25 = mx := ⟨_, rfl⟩
              rw [hmx] at hown hjx hj HCY ⊢
              have hmx25 : mx ≤ 25 := by omega
              have HW0 := Lib.hid hown
              clear hown hjx
              by_cases hxx : xn ≤ mx
              · have dj : decide (mx < xn) = false := by simp; omega
                have djj : decide ((mx : Int) < (xn : Int)) = false := by simp; omega
                by_cases hk0 : k = 0
                · skip
                  have HTK2 : Hid (Nm.toksOf ((l.map capAt).take (k + 1)) = a ++ ((0, 0) :: List.replicate mx (1, 0))) := by show _ = _; rw [HTK.out, HCY.out, if_neg (by omega), List.append_nil]
                  have HLN : Hid ((Nm.toksOf ((l.map capAt).take (k + 1))).length = a.length + 1 + mx) := by show _ = _; rw [HTK2.out]; simp; omega
                  have dk : decide (0 < k) = false := by simp; omega
                  clear hk0 hmx
                  go_wp2
                  go_roundw
                  case rel => exact ⟨k + 1, gj, cj, by omega, by go_num, by rw [HLN.out], by rw [HLN.out, HTK2.out]; exact HW0.out, hbq⟩
                  case measure => simp [intOf]; omega
                · skip
                  have hk1 : 0 < k := by omega
                  have HTK2 : Hid (Nm.toksOf ((l.map capAt).take (k + 1)) = (a ++ ((0, 0) :: List.replicate mx (1, 0))) ++ [(2, 0)]) := by show _ = _; rw [HTK.out, HCY.out, if_pos hk1, List.append_assoc]
                  have HLN : Hid ((Nm.toksOf ((l.map capAt).take (k + 1))).length = a.length + 1 + mx + 1) := by show _ = _; rw [HTK2.out]; simp; omega
                  have HNB : Hid (∀ j u, ([Value.int .i64 2, .int .i64 0] : List Value)[j]? = some u → (wr.alloc (.cells #[.int .i64 2, .int .i64 0] 71)).cell? ((⟨wr.heap.size, 0, none⟩ : Addr).add j) = some u) := World.news_of_block (cs := #[.int .i64 2, .int .i64 0]) (t := 71) (fr := (0, 0)) (heap_alloc_new wr _)
                  clear hk0 hmx
                  go_wp2_with (at_builtin; first
                    | (refine wpList_append_own _ rfl (.tmp 55) (.tmp 57) 24 rfl w.heap.size 71 i0 (.agg #[.int .i64 0, .int .i64 0]) 2 16 Tryd.underlying24 hi hz0 hz1 hz2 rfl (by decide) (.slice (some ⟨gj, 0, none⟩) (a.length + 1 + mx) cj) (a.length + 1 + mx) (tokCells (a ++ ((0, 0) :: List.replicate mx (1, 0)))) rfl (HW0.out.alloc _) ⟨wr.heap.size, 0, none⟩ 1 1 [.int .i64 2, .int .i64 0] rfl rfl HNB.out (by intro v hv; simp at hv; rcases hv with rfl | rfl <;> rfl) (by unfold maxLen; omega) (by omega) (by simp; omega) ?_
                       intro v' w4 hown' hgrow _
                       obtain ⟨g4, cap4, rfl⟩ : ∃ g' cap', v' = .slice (some ⟨g', 0, none⟩) (a.length + 1 + mx + 1) cap' := by
                         rcases hown'.2 with ⟨_, h⟩ | ⟨g', cap', _, h, _⟩
                         · omega
                         · exact ⟨g', cap', h⟩
                       have HB4 : Hid (Below w.heap.size w w4) := (hbq.alloc hzq _).grown hgrow (by simp; omega) (fun j h => (HW0.out.lt j h).1)
                       have HW4 : Hid (OwnT w4 w.heap.size (some ⟨g4, 0, none⟩) (Nm.toksOf ((l.map capAt).take (k + 1))).length cap4 (Nm.toksOf ((l.map capAt).take (k + 1)))) := by
                         show OwnT _ _ _ _ _ _
                         rw [HLN.out, HTK2.out]
                         unfold OwnT
                         rw [tokCells_append]
                         exact hown'
                       clear hown' hgrow hbq))
                  go_wp2
                  go_roundw
                  case rel => exact ⟨k + 1, g4, cap4, by omega, by go_num, by rw [HLN.out], HW4.out, HB4.out⟩
                  case measure => simp [intOf]; omega
              · have hj1 : (mx : Int) < (xn : Int) := by omega
                have hj4 : mx < xn := by omega
                have hj5 : mx = 25 := by omega
                have dj5 : decide (mx ≤ 24) = false := by simp; omega
                have dj6 : decide ((mx : Int) ≤ 24) = false := by simp; omega
                have hj7 : 24 < mx := by omega
                clear hxx hj5
                by_cases hk0 : k = 0
                · skip
                  have HTK2 : Hid (Nm.toksOf ((l.map capAt).take (k + 1)) = a ++ ((0, 0) :: List.replicate mx (1, 0))) := by show _ = _; rw [HTK.out, HCY.out, if_neg (by omega), List.append_nil]
                  have HLN : Hid ((Nm.toksOf ((l.map capAt).take (k + 1))).length = a.length + 1 + mx) := by show _ = _; rw [HTK2.out]; simp; omega
                  have dk : decide (0 < k) = false := by simp; omega
                  clear hk0 hmx
                  go_wp2
                  go_roundw
                  case rel => exact ⟨k + 1, gj, cj, by omega, by go_num, by rw [HLN.out], by rw [HLN.out, HTK2.out]; exact HW0.out, hbq⟩
                  case measure => simp [intOf]; omega
                · skip
                  have hk1 : 0 < k := by omega
                  have HTK2 : Hid (Nm.toksOf ((l.map capAt).take (k + 1)) = (a ++ ((0, 0) :: List.replicate mx (1, 0))) ++ [(2, 0)]) := by show _ = _; rw [HTK.out, HCY.out, if_pos hk1, List.append_assoc]
                  have HLN : Hid ((Nm.toksOf ((l.map capAt).take (k + 1))).length = a.length + 1 + mx + 1) := by show _ = _; rw [HTK2.out]; simp; omega
                  have HNB : Hid (∀ j u, ([Value.int .i64 2, .int .i64 0] : List Value)[j]? = some u → (wr.alloc (.cells #[.int .i64 2, .int .i64 0] 71)).cell? ((⟨wr.heap.size, 0, none⟩ : Addr).add j) = some u) := World.news_of_block (cs := #[.int .i64 2, .int .i64 0]) (t := 71) (fr := (0, 0)) (heap_alloc_new wr _)
                  clear hk0 hmx
                  go_wp2_with (at_builtin; first
                    | (refine wpList_append_own _ rfl (.tmp 55) (.tmp 57) 24 rfl w.heap.size 71 i0 (.agg #[.int .i64 0, .int .i64 0]) 2 16 Tryd.underlying24 hi hz0 hz1 hz2 rfl (by decide) (.slice (some ⟨gj, 0, none⟩) (a.length + 1 + mx) cj) (a.length + 1 + mx) (tokCells (a ++ ((0, 0) :: List.replicate mx (1, 0)))) rfl (HW0.out.alloc _) ⟨wr.heap.size, 0, none⟩ 1 1 [.int .i64 2, .int .i64 0] rfl rfl HNB.out (by intro v hv; simp at hv; rcases hv with rfl | rfl <;> rfl) (by unfold maxLen; omega) (by omega) (by simp; omega) ?_
                       intro v' w4 hown' hgrow _
                       obtain ⟨g4, cap4, rfl⟩ : ∃ g' cap', v' = .slice (some ⟨g', 0, none⟩) (a.length + 1 + mx + 1) cap' := by
                         rcases hown'.2 with ⟨_, h⟩ | ⟨g', cap', _, h, _⟩
                         · omega
                         · exact ⟨g', cap', h⟩
                       have HB4 : Hid (Below w.heap.size w w4) := (hbq.alloc hzq _).grown hgrow (by simp; omega) (fun j h => (HW0.out.lt j h).1)
                       have HW4 : Hid (OwnT w4 w.heap.size (some ⟨g4, 0, none⟩) (Nm.toksOf ((l.map capAt).take (k + 1))).length cap4 (Nm.toksOf ((l.map capAt).take (k + 1)))) := by
                         show OwnT _ _ _ _ _ _
                         rw [HLN.out, HTK2.out]
                         unfold OwnT
                         rw [tokCells_append]
                         exact hown'
                       clear hown' hgrow hbq))
                  go_wp2
                  go_roundw
                  case rel => exact ⟨k + 1, g4, cap4, by omega, by go_num, by rw [HLN.out], HW4.out, HB4.out⟩
                  case measure => simp [intOf]; omega
        · have hp1 : ¬ p = -1 := hp
          have hp0 : 0 ≤ p := by omega
          have HCY : Hid (Nm.atToks (capAt (p, (xn : Int))) = (4, p) :: List.replicate (min xn 25) (1, 0)) := by show _ = _; rw [HCX.out 0]; simp [Nm.leafTk, hp1]
          have ho2 : OwnT ((w1.alloc (.cells #[.int .i64 4, .int .i64 p] 71)).alloc (.cells #[.int .i64 4, .int .i64 p] 71)) w.heap.size (some ⟨g, 0, none⟩) a.length cap a := (ho1.alloc _).alloc _
          have hB2 : Below w.heap.size w ((w1.alloc (.cells #[.int .i64 4, .int .i64 p] 71)).alloc (.cells #[.int .i64 4, .int .i64 p] 71)) := (hB1.alloc hz1s _).alloc (by simp; omega) _
          have HNB : Hid (∀ j u, ([Value.int .i64 4, .int .i64 p] : List Value)[j]? = some u → ((w1.alloc (.cells #[.int .i64 4, .int .i64 p] 71)).alloc (.cells #[.int .i64 4, .int .i64 p] 71)).cell? ((⟨w1.heap.size + 1, 0, none⟩ : Addr).add j) = some u) := by
            have h := World.news_of_block (cs := #[.int .i64 4, .int .i64 p]) (t := 71) (fr := (0, 0)) (heap_alloc_new (w1.alloc (.cells #[.int .i64 4, .int .i64 p] 71)) (.cells #[.int .i64 4, .int .i64 p] 71))
            have e : (w1.alloc (.cells #[.int .i64 4, .int .i64 p] 71)).heap.size = w1.heap.size + 1 := by simp
            rw [e] at h
            exact Lib.hid h
          clear ho1 HCX
          go_wp2_with (at_builtin; first
            | (refine wpList_append_own _ rfl (.tmp 32) (.tmp 34) 24 rfl w.heap.size 71 i0 (.agg #[.int .i64 0, .int .i64 0]) 2 16 Tryd.underlying24 hi hz0 hz1 hz2 rfl (by decide) (.slice (some ⟨g, 0, none⟩) a.length cap) a.length (tokCells a) rfl ho2 ⟨w1.heap.size + 1, 0, none⟩ 1 1 [.int .i64 4, .int .i64 p] rfl rfl HNB.out (by intro v hv; simp at hv; rcases hv with rfl | rfl <;> rfl) (by unfold maxLen; omega) (by omega) (by simp; omega) ?_
               intro v' w3 hown' hgrow _
               obtain ⟨g', cap', rfl⟩ : ∃ g' cap', v' = .slice (some ⟨g', 0, none⟩) (a.length + 1) cap' := by
                 rcases hown'.2 with ⟨_, h⟩ | ⟨g', cap', _, h, _⟩
                 · omega
                 · exact ⟨g', cap', h⟩
               have hB3 : Below w.heap.size w w3 := hB2.grown hgrow (by simp; omega) (fun j h => (ho2.lt j h).1)
               have HO3 : Hid (OwnT w3 w.heap.size (some ⟨g', 0, none⟩) (a.length + 1) cap' (a ++ ((4, p) :: List.replicate 0 (1, 0)))) := by
                 show OwnT _ _ _ _ _ _
                 unfold OwnT
                 rw [tokCells_append]
                 exact hown'
               clear hown' hgrow ho2 hB2))
          have HB3 := Lib.hid hB3
          clear hB3
          go_loopw [4, 7] (fun v i wq => ∃ (j g cap : Nat), j ≤ min xn 25 ∧ i = .int .i64 j ∧ v = .slice (some ⟨g, 0, none⟩) (a.length + 1 + j) cap ∧ OwnT wq w.heap.size (some ⟨g, 0, none⟩) (a.length + 1 + j) cap (a ++ ((4, p) :: List.replicate j (1, 0))) ∧ Below w.heap.size w wq) (fun _ i _ => 26 - (intOf i).toNat)
          case atStart => exact ⟨0, g', cap', Nat.zero_le _, rfl, rfl, HO3.out, HB3.out⟩
          case round =>
            clear HB3 HO3 HNB
            rename_i wr0 _
            obtain ⟨j, gj, cj, hj, rfl, rfl, hown, hbq⟩ := hrel
            have hzq := hbq.size
            have k2 := (hbq.cell (p := ⟨b, off + k * 2 + 1, none⟩) (by show b < _; omega)).trans HE2.out
            by_cases hjx : j < min xn 25
            · have hj1 : (j : Int) < (xn : Int) := by omega
              have hj2 : j ≤ 24 := by omega
              have hj3 : j < xn := by omega
              have HNB : Hid (∀ j u, ([Value.int .i64 1, .int .i64 0] : List Value)[j]? = some u → (wr.alloc (.cells #[.int .i64 1, .int .i64 0] 71)).cell? ((⟨wr.heap.size, 0, none⟩ : Addr).add j) = some u) := World.news_of_block (cs := #[.int .i64 1, .int .i64 0]) (t := 71) (fr := (0, 0)) (heap_alloc_new wr _)
              go_wp2_with (at_builtin; first
                | (refine wpList_append_own _ rfl (.tmp 49) (.tmp 51) 24 rfl w.heap.size 71 i0 (.agg #[.int .i64 0, .int .i64 0]) 2 16 Tryd.underlying24 hi hz0 hz1 hz2 rfl (by decide) (.slice (some ⟨gj, 0, none⟩) (a.length + 1 + j) cj) (a.length + 1 + j) (tokCells (a ++ ((4, p) :: List.replicate j (1, 0)))) rfl (hown.alloc _) ⟨wr.heap.size, 0, none⟩ 1 1 [.int .i64 1, .int .i64 0] rfl rfl HNB.out (by intro v hv; simp at hv; rcases hv with rfl | rfl <;> rfl) (by unfold maxLen; omega) (by omega) (by simp; omega) ?_
                   intro v' w4 hown' hgrow _
                   obtain ⟨g4, cap4, rfl⟩ : ∃ g' cap', v' = .slice (some ⟨g', 0, none⟩) (a.length + 1 + j + 1) cap' := by
                     rcases hown'.2 with ⟨_, h⟩ | ⟨g', cap', _, h, _⟩
                     · omega
                     · exact ⟨g', cap', h⟩
                   have HB4 : Hid (Below w.heap.size w w4) := (hbq.alloc hzq _).grown hgrow (by simp; omega) (fun j h => (hown.lt j h).1)
                   have HW4 : Hid (OwnT w4 w.heap.size (some ⟨g4, 0, none⟩) (a.length + 1 + (j + 1)) cap4 (a ++ ((4, p) :: List.replicate (j + 1) (1, 0)))) := by
                     show OwnT _ _ _ _ _ _
                     rw [rep_snoc, ← List.cons_append, ← List.append_assoc]
                     unfold OwnT
                     rw [tokCells_append]
                     exact hown'
                   clear hown' hgrow hown hbq))
              go_wp2
              go_roundw
              case rel => exact ⟨j + 1, g4, cap4, by omega, by go_num, rfl, HW4.out, HB4.out⟩
              case measure => simp [intOf]; omega
            · obtain rfl : j = min xn 25 := by omega
              obtain ⟨mx, hmx⟩ : ∃ mx, min xn 25 = mx := ⟨_, rfl⟩
              rw [hmx] at hown hjx hj HCY ⊢
              have hmx25 : mx ≤ 25 := by omega
              have HW0 := Lib.hid hown
              clear hown hjx
              by_cases hxx : xn ≤ mx
              · have dj : decide (mx < xn) = false := by simp; omega
                have djj : decide ((mx : Int) < (xn : Int)) = false := by simp; omega
                by_cases hk0 : k = 0
                · skip
                  have HTK2 : Hid (Nm.toksOf ((l.map capAt).take (k + 1)) = a ++ ((4, p) :: List.replicate mx (1, 0))) := by show _ = _; rw [HTK.out, HCY.out, if_neg (by omega), List.append_nil]
                  have HLN : Hid ((Nm.toksOf ((l.map capAt).take (k + 1))).length = a.length + 1 + mx) := by show _ = _; rw [HTK2.out]; simp; omega
                  have dk : decide (0 < k) = false := by simp; omega
                  clear hk0 hmx
                  go_wp2
                  go_roundw
                  case rel => exact ⟨k + 1, gj, cj, by omega, by go_num, by rw [HLN.out], by rw [HLN.out, HTK2.out]; exact HW0.out, hbq⟩
                  case measure => simp [intOf]; omega
                · skip
                  have hk1 : 0 < k := by omega
                  have HTK2 : Hid (Nm.toksOf ((l.map capAt).take (k + 1)) = (a ++ ((4, p) :: List.replicate mx (1, 0))) ++ [(2, 0)]) := by show _ = _; rw [HTK.out, HCY.out, if_pos hk1, List.append_assoc]
                  have HLN : Hid ((Nm.toksOf ((l.map capAt).take (k + 1))).length = a.length + 1 + mx + 1) := by show _ = _; rw [HTK2.out]; simp; omega
                  have HNB : Hid (∀ j u, ([Value.int .i64 2, .int .i64 0] : List Value)[j]? = some u → (wr.alloc (.cells #[.int .i64 2, .int .i64 0] 71)).cell? ((⟨wr.heap.size, 0, none⟩ : Addr).add j) = some u) := World.news_of_block (cs := #[.int .i64 2, .int .i64 0]) (t := 71) (fr := (0, 0)) (heap_alloc_new wr _)
                  clear hk0 hmx
                  go_wp2_with (at_builtin; first
                    | (refine wpList_append_own _ rfl (.tmp 55) (.tmp 57) 24 rfl w.heap.size 71 i0 (.agg #[.int .i64 0, .int .i64 0]) 2 16 Tryd.underlying24 hi hz0 hz1 hz2 rfl (by decide) (.slice (some ⟨gj, 0, none⟩) (a.length + 1 + mx) cj) (a.length + 1 + mx) (tokCells (a ++ ((4, p) :: List.replicate mx (1, 0)))) rfl (HW0.out.alloc _) ⟨wr.heap.size, 0, none⟩ 1 1 [.int .i64 2, .int .i64 0] rfl rfl HNB.out (by intro v hv; simp at hv; rcases hv with rfl | rfl <;> rfl) (by unfold maxLen; omega) (by omega) (by simp; omega) ?_
                       intro v' w4 hown' hgrow _
                       obtain ⟨g4, cap4, rfl⟩ : ∃ g' cap', v' = .slice (some ⟨g', 0, none⟩) (a.length + 1 + mx + 1) cap' := by
                         rcases hown'.2 with ⟨_, h⟩ | ⟨g', cap', _, h, _⟩
                         · omega
                         · exact ⟨g', cap', h⟩
                       have HB4 : Hid (Below w.heap.size w w4) := (hbq.alloc hzq _).grown hgrow (by simp; omega) (fun j h => (HW0.out.lt j h).1)
                       have HW4 : Hid (OwnT w4 w.heap.size (some ⟨g4, 0, none⟩) (Nm.toksOf ((l.map capAt).take (k + 1))).length cap4 (Nm.toksOf ((l.map capAt).take (k + 1)))) := by
                         show OwnT _ _ _ _ _ _
                         rw [HLN.out, HTK2.out]
                         unfold OwnT
                         rw [tokCells_append]
                         exact hown'
                       clear hown' hgrow hbq))
                  go_wp2
                  go_roundw
                  case rel => exact ⟨k + 1, g4, cap4, by omega, by go_num, by rw [HLN.out], HW4.out, HB4.out⟩
                  case measure => simp [intOf]; omega
              · have hj1 : (mx : Int) < (xn : Int) := by omega
                have hj4 : mx < xn := by omega
                have hj5 : mx = 25 := by omega
                have dj5 : decide (mx ≤ 24) = false := by simp; omega
                have dj6 : decide ((mx : Int) ≤ 24) = false := by simp; omega
                have hj7 : 24 < mx := by omega
                clear hxx hj5
                by_cases hk0 : k = 0
                · skip
                  have HTK2 : Hid (Nm.toksOf ((l.map capAt).take (k + 1)) = a ++ ((4, p) :: List.replicate mx (1, 0))) := by show _ = _; rw [HTK.out, HCY.out, if_neg (by omega), List.append_nil]
                  have HLN : Hid ((Nm.toksOf ((l.map capAt).take (k + 1))).length = a.length + 1 + mx) := by show _ = _; rw [HTK2.out]; simp; omega
                  have dk : decide (0 < k) = false := by simp; omega
                  clear hk0 hmx
                  go_wp2
                  go_roundw
                  case rel => exact ⟨k + 1, gj, cj, by omega, by go_num, by rw [HLN.out], by rw [HLN.out, HTK2.out]; exact HW0.out, hbq⟩
                  case measure => simp [intOf]; omega
                · skip
                  have hk1 : 0 < k := by omega
                  have HTK2 : Hid (Nm.toksOf ((l.map capAt).take (k + 1)) = (a ++ ((4, p) :: List.replicate mx (1, 0))) ++ [(2, 0)]) := by show _ = _; rw [HTK.out, HCY.out, if_pos hk1, List.append_assoc]
                  have HLN : Hid ((Nm.toksOf ((l.map capAt).take (k + 1))).length = a.length + 1 + mx + 1) := by show _ = _; rw [HTK2.out]; simp; omega
                  have HNB : Hid (∀ j u, ([Value.int .i64 2, .int .i64 0] : List Value)[j]? = some u → (wr.alloc (.cells #[.int .i64 2, .int .i64 0] 71)).cell? ((⟨wr.heap.size, 0, none⟩ : Addr).add j) = some u) := World.news_of_block (cs := #[.int .i64 2, .int .i64 0]) (t := 71) (fr := (0, 0)) (heap_alloc_new wr _)
                  clear hk0 hmx
                  go_wp2_with (at_builtin; first
                    | (refine wpList_append_own _ rfl (.tmp 55) (.tmp 57) 24 rfl w.heap.size 71 i0 (.agg #[.int .i64 0, .int .i64 0]) 2 16 Tryd.underlying24 hi hz0 hz1 hz2 rfl (by decide) (.slice (some ⟨gj, 0, none⟩) (a.length + 1 + mx) cj) (a.length + 1 + mx) (tokCells (a ++ ((4, p) :: List.replicate mx (1, 0)))) rfl (HW0.out.alloc _) ⟨wr.heap.size, 0, none⟩ 1 1 [.int .i64 2, .int .i64 0] rfl rfl HNB.out (by intro v hv; simp at hv; rcases hv with rfl | rfl <;> rfl) (by unfold maxLen; omega) (by omega) (by simp; omega) ?_
                       intro v' w4 hown' hgrow _
                       obtain ⟨g4, cap4, rfl⟩ : ∃ g' cap', v' = .slice (some ⟨g', 0, none⟩) (a.length + 1 + mx + 1) cap' := by
                         rcases hown'.2 with ⟨_, h⟩ | ⟨g', cap', _, h, _⟩
                         · omega
                         · exact ⟨g', cap', h⟩
                       have HB4 : Hid (Below w.heap.size w w4) := (hbq.alloc hzq _).grown hgrow (by simp; omega) (fun j h => (HW0.out.lt j h).1)
                       have HW4 : Hid (OwnT w4 w.heap.size (some ⟨g4, 0, none⟩) (Nm.toksOf ((l.map capAt).take (k + 1))).length cap4 (Nm.toksOf ((l.map capAt).take (k + 1)))) := by
                         show OwnT _ _ _ _ _ _
                         rw [HLN.out, HTK2.out]
                         unfold OwnT
                         rw [tokCells_append]
                         exact hown'
                       clear hown' hgrow hbq))
                  go_wp2
                  go_roundw
                  case rel => exact ⟨k + 1, g4, cap4, by omega, by go_num, by rw [HLN.out], HW4.out, HB4.out⟩
                  case measure => simp [intOf]; omega
      · rw [List.take_of_length_le (by have := hl.1; simp; omega)] at hown hbd ⊢
        have dkn : decide ((k : Int) < (n : Int)) = false := by simp; omega
        have hnk : n ≤ k := by omega
        clear hl
        go_wp2_with fail
        refine (l01If_any wr w.heap.size _ _ cap (Nm.toksOf (l.map capAt)) (by omega) hown).mono ?_
        rintro e w5 ⟨⟨A5, c5, rfl, ho5⟩, hb5⟩
        have HB5 := Lib.hid (hbel.trans (hb5.mono hbel.size))
        have HO5 := Lib.hid ho5
        clear ho5 hb5 hown
        go_wp2
        go_ret2
        rw [HF.out]
        exact ⟨A5, c5, rfl, HO5.out, HB5.out⟩
end Go.Proofs.YtgbdojenenfgfaaDoor
