/- The reference model's norm of a list of atoms. -/
import Derived.Test.YtijiohdddfdjfaaNUp
namespace Go.Proofs.Ytijiohdddfdjfaa
open Go.RowKit

theorem own_lit (w : World) (base : Nat) (a b : Int) (hb : base ≤ w.heap.size) : OwnA (w.alloc (.cells #[.int .i64 a, .int .i64 b] 30)) base (some ⟨w.heap.size, 0, none⟩) 1 1 [(a, b)] :=
  ⟨rfl, .inr ⟨w.heap.size, 1, #[.int .i64 a, .int .i64 b], rfl, hb, heap_alloc_new w _, Nat.le_refl _, by simp [maxLen], rfl, rfl⟩⟩

set_option maxRecDepth 100000 in
set_option maxHeartbeats 3200000 in
theorem specNorm_any (w : World) (B : Nat) (A : Option Addr) (n c : Nat) (l : List (Int × Int)) (hB : B ≤ w.heap.size) (hl : TokR w B A n l) (hn : (n : Int) ≤ 140737488355328) :
    Calls Try.prog 48 #[.slice A n c] w fun e w' => ∃ g cap, e = .returned (.slice (some ⟨g, 0, none⟩) (Nm.norm l).length cap) ∧ OwnA w' w.heap.size (some ⟨g, 0, none⟩) (Nm.norm l).length cap (Nm.norm l) ∧ Below w.heap.size w w' := by
  obtain ⟨i0, hi, hz0, hz1, hz2⟩ := info_parts info_atom
  have HO0 : Hid (OwnA (w.alloc (.cells #[] 30)) w.heap.size (some ⟨w.heap.size, 0, none⟩) 0 0 []) := World.ownsRow_made w #[] 0 (Nat.le_refl _) (by simp [maxLen]) (by simp)
  have HB0 : Hid (Below w.heap.size w (w.alloc (.cells #[] 30))) := (Below.refl _ _).alloc (Nat.le_refl _) _
  go_enter Try.func48, Try.ntmps48
  go_wp2
  go_loopw [3, 4, 5] (fun v m p wr => ∃ (k g cap : Nat), k ≤ 5 ∧ p = .int .i64 k ∧ m = .int .i64 (Nm.most l k) ∧ v = .slice (some ⟨g, 0, none⟩) (Nm.pars l k).length cap ∧ OwnA wr w.heap.size (some ⟨g, 0, none⟩) (Nm.pars l k).length cap (Nm.pars l k) ∧ Below w.heap.size w wr) (fun _ _ p _ => 5 - (intOf p).toNat)
  case atStart => exact ⟨0, w.heap.size, 0, by omega, rfl, rfl, rfl, HO0.out, HB0.out⟩
  case round =>
    obtain ⟨k, g, cap, hk, rfl, rfl, rfl, hown, hbel⟩ := hrel
    have hszr := hbel.size
    have hpl := Nm.pars_len l k
    by_cases hlt : k < 5
    · have HOW := Lib.hid hown
      have hlr := hl.below (hbel.mono hB)
      have hmg := Nm.most_ge l k
      have HPS := Lib.hid (Nm.pars_succ l k)
      have HMS : Hid (Nm.most l (k + 1) = max (Nm.most l k) (Nm.best k l)) := rfl
      have hki : (k : Int) < 5 := by omega
      clear hown
      generalize Nm.most l k = mv at hmg HMS ⊢
      go_wp2
      go_loop [6, 7] (fun v i => ∃ j : Nat, j ≤ n ∧ i = .int .i64 j ∧ v = .int .i64 (Nm.best k (l.take j))) (fun _ i => n - (intOf i).toNat)
      case atStart => exact ⟨0, Nat.zero_le _, rfl, rfl⟩
      case round =>
        obtain ⟨j, hj, rfl, rfl⟩ := hrel
        by_cases hlt2 : j < n
        · have HBT := Lib.hid (Nm.best_take k l j (by rw [hl.1]; exact hlt2))
          obtain ⟨b, off, rfl, hb, hc⟩ := hlr.2 (by omega)
          obtain ⟨e1, e2⟩ := hc j hlt2
          generalize Nm.best k (l.take j) = bv at HBT ⊢
          generalize l.getD j (0, 0) = t at e1 e2 HBT
          obtain ⟨p, x⟩ := t
          simp only at e1 e2 HBT
          have HL := Lib.hid hl
          have HLR := Lib.hid hlr
          have hji : (j : Int) < (n : Int) := by omega
          clear hc hl hlr
          by_cases ep : p = (k : Int)
          · subst ep
            have HB2 : Hid (Nm.best k (l.take (j + 1)) = if bv < x then x else bv) := by show _ = _; rw [HBT.out, if_pos rfl]; split <;> omega
            go_wp2
            go_round
            case rel => exact ⟨j + 1, by omega, by go_num, by rw [HB2.out]⟩
            case measure => simp [intOf]; omega
          · have HB2 : Hid (Nm.best k (l.take (j + 1)) = bv) := by show _ = _; rw [HBT.out, if_neg ep]
            have dp : (p == (k : Int)) = false := by simpa using ep
            clear ep
            go_wp2
            go_round
            case rel => exact ⟨j + 1, by omega, by go_num, by rw [HB2.out]⟩
            case measure => simp [intOf]; omega
        · rw [List.take_of_length_le (by have := hl.1; omega)]
          have hbg := Nm.best_ge k l
          generalize Nm.best k l = bv at HPS HMS hbg ⊢
          clear hlr
          by_cases h0 : 0 ≤ bv
          · have HM2 : Hid (Nm.most l (k + 1) = if mv < bv then bv else mv) := by show _ = _; rw [HMS.out]; split <;> omega
            have HP2 : Hid (Nm.pars l (k + 1) = Nm.pars l k ++ [((k : Int), bv)]) := by show _ = _; rw [HPS.out, if_pos h0]
            generalize Nm.pars l k = a at HOW hpl HP2 ⊢
            have HNB : Hid (∀ j u, ([Value.int .i64 (k : Int), .int .i64 bv] : List Value)[j]? = some u → (wr.alloc (.cells #[.int .i64 (k : Int), .int .i64 bv] 30)).cell? ((⟨wr.heap.size, 0, none⟩ : Addr).add j) = some u) := World.news_of_block (cs := #[.int .i64 (k : Int), .int .i64 bv]) (t := 30) (fr := (0, 0)) (heap_alloc_new wr _)
            have HL := Lib.hid hl
            clear hl
            go_wp2_with (at_builtin; first
              | (refine wpList_append_own _ rfl (.tmp 37) (.tmp 41) 24 rfl w.heap.size 30 i0 (.agg #[.int .i64 0, .int .i64 0]) 2 16 Try.underlying24 hi hz0 hz1 hz2 rfl (by decide) (.slice (some ⟨g, 0, none⟩) a.length cap) a.length (tokCells a) rfl (HOW.out.alloc _) ⟨wr.heap.size, 0, none⟩ 1 1 [.int .i64 (k : Int), .int .i64 bv] rfl rfl HNB.out (by intro v hv; simp at hv; rcases hv with rfl | rfl <;> rfl) (by unfold maxLen; omega) (by omega) (by simp; omega) ?_; intro v' w3 hown' hgrow _
                 obtain ⟨g', cap', rfl⟩ : ∃ g' cap', v' = .slice (some ⟨g', 0, none⟩) (a.length + 1) cap' := by
                   rcases hown'.2 with ⟨_, h⟩ | ⟨g', cap', _, h, _⟩
                   · omega
                   · exact ⟨g', cap', h⟩
                 have HB3 : Hid (Below w.heap.size w w3) := (hbel.alloc hszr _).grown hgrow (by simp; omega) (fun j h => (HOW.out.lt j h).1)
                 have HLN : Hid ((Nm.pars l (k + 1)).length = a.length + 1) := by show _ = _; rw [HP2.out, List.length_append]; rfl
                 have HW : Hid (OwnA w3 w.heap.size (some ⟨g', 0, none⟩) (Nm.pars l (k + 1)).length cap' (Nm.pars l (k + 1))) := by
                   show OwnA _ _ _ _ _ _
                   rw [HLN.out, HP2.out]
                   unfold OwnA
                   rw [tokCells_append]
                   exact hown'
                 clear hown' hgrow))
            go_wp2
            go_roundw
            case rel => exact ⟨k + 1, g', cap', by omega, by go_num, by rw [HM2.out], by rw [HLN.out], HW.out, HB3.out⟩
            case measure => simp [intOf]; omega
          · have hb1 : bv = -1 := by omega
            subst hb1
            have HM2 : Hid (Nm.most l (k + 1) = mv) := by show _ = _; rw [HMS.out]; omega
            have HP2 : Hid (Nm.pars l (k + 1) = Nm.pars l k) := by show _ = _; rw [HPS.out, if_neg (by omega), List.append_nil]
            have HL := Lib.hid hl
            clear hl
            go_wp2
            go_roundw
            case rel => exact ⟨k + 1, g, cap, by omega, by go_num, by rw [HM2.out], by rw [HP2.out], by rw [HP2.out]; exact HOW.out, hbel⟩
            case measure => simp [intOf]; omega
    · obtain rfl : k = 5 := by omega
      have HOW := Lib.hid hown
      have hlr := hl.below (hbel.mono hB)
      have HNM : Hid (Nm.norm l = (if Nm.most l 5 < Nm.best (-1) l then [((-1 : Int), Nm.best (-1) l)] else []) ++ Nm.pars l 5) := rfl
      clear hown
      generalize Nm.most l 5 = mv at HNM ⊢
      generalize Nm.pars l 5 = a at HOW hpl HNM ⊢
      go_wp2
      go_loop [8, 9] (fun v i => ∃ j : Nat, j ≤ n ∧ i = .int .i64 j ∧ v = .int .i64 (Nm.best (-1) (l.take j))) (fun _ i => n - (intOf i).toNat)
      case atStart => exact ⟨0, Nat.zero_le _, rfl, rfl⟩
      case round =>
        obtain ⟨j, hj, rfl, rfl⟩ := hrel
        by_cases hlt2 : j < n
        · have HBT := Lib.hid (Nm.best_take (-1) l j (by rw [hl.1]; exact hlt2))
          obtain ⟨b, off, rfl, hb, hc⟩ := hlr.2 (by omega)
          obtain ⟨e1, e2⟩ := hc j hlt2
          generalize Nm.best (-1) (l.take j) = bv at HBT ⊢
          generalize l.getD j (0, 0) = t at e1 e2 HBT
          obtain ⟨p, x⟩ := t
          simp only at e1 e2 HBT
          have HL := Lib.hid hl
          have HLR := Lib.hid hlr
          have hji : (j : Int) < (n : Int) := by omega
          clear hc hl hlr
          by_cases ep : p = -1
          · subst ep
            have HB2 : Hid (Nm.best (-1) (l.take (j + 1)) = if bv < x then x else bv) := by show _ = _; rw [HBT.out, if_pos rfl]; split <;> omega
            go_wp2
            go_round
            case rel => exact ⟨j + 1, by omega, by go_num, by rw [HB2.out]⟩
            case measure => simp [intOf]; omega
          · have HB2 : Hid (Nm.best (-1) (l.take (j + 1)) = bv) := by show _ = _; rw [HBT.out, if_neg ep]
            have dp : (p == -1) = false := by simpa using ep
            clear ep
            go_wp2
            go_round
            case rel => exact ⟨j + 1, by omega, by go_num, by rw [HB2.out]⟩
            case measure => simp [intOf]; omega
        · rw [List.take_of_length_le (by have := hl.1; omega)]
          generalize Nm.best (-1) l = bv at HNM ⊢
          clear hlr
          by_cases hmb : mv < bv
          · have HN2 : Hid (Nm.norm l = [((-1 : Int), bv)] ++ a) := by show _ = _; rw [HNM.out, if_pos hmb]
            have HLN : Hid ((Nm.norm l).length = 1 + a.length) := by show _ = _; rw [HN2.out, List.length_append]; rfl
            have HSRC := Lib.hid (OwnA.reads (HOW.out.alloc (.cells #[.int .i64 (-1), .int .i64 bv] 30)))
            have HSC : Hid (∀ j u, (tokCells a)[j]? = some u → (wr.alloc (.cells #[.int .i64 (-1), .int .i64 bv] 30)).cell? ((⟨g, 0, none⟩ : Addr).add j) = some u) := fun j u hu => (HOW.out.alloc _).cells (g := g) rfl j u hu
            have HL := Lib.hid hl
            clear hl
            go_wp2_with (at_builtin; first
              | (refine wpList_append_own _ rfl (.tmp 70) (.tmp 71) 24 rfl w.heap.size 30 i0 (.agg #[.int .i64 0, .int .i64 0]) 2 16 Try.underlying24 hi hz0 hz1 hz2 rfl (by decide) (.slice (some ⟨wr.heap.size, 0, none⟩) 1 1) 1 (tokCells [(-1, bv)]) rfl (own_lit wr w.heap.size (-1) bv hszr) ⟨g, 0, none⟩ a.length cap (tokCells a) rfl (tokCells_len a) HSC.out (tokCells_one a) (by unfold maxLen; omega) (by omega) (by simp; omega) ?_; intro v' w3 hown' hgrow hnil))
            obtain ⟨g', cap', rfl⟩ : ∃ g' cap', v' = .slice (some ⟨g', 0, none⟩) (1 + a.length) cap' := by
              rcases hown'.2 with ⟨_, h⟩ | ⟨g', cap', _, h, _⟩
              · omega
              · exact ⟨g', cap', h⟩
            have HB3 : Hid (Below w.heap.size w w3) := (hbel.alloc hszr _).grown hgrow (by simp; omega) (fun j h => by have h' : wr.heap.size = j := (by simpa [Value.ownBlock] using h); omega)
            have HW : Hid (OwnA w3 w.heap.size (some ⟨g', 0, none⟩) (Nm.norm l).length cap' (Nm.norm l)) := by
              show OwnA _ _ _ _ _ _
              rw [HLN.out, HN2.out]
              unfold OwnA
              rw [tokCells_append]
              exact hown'
            clear hown' hgrow hnil
            go_wp2
            go_ret
            exact ⟨g', cap', by rw [HLN.out]; rfl, HW.out, HB3.out⟩
          · have HN2 : Hid (Nm.norm l = a) := by show _ = _; rw [HNM.out, if_neg hmb, List.nil_append]
            have hmb' : bv ≤ mv := by omega
            clear hl hmb
            go_wp2
            go_ret
            exact ⟨g, cap, by rw [HN2.out]; rfl, by rw [HN2.out]; exact HOW.out, hbel⟩
end Go.Proofs.Ytijiohdddfdjfaa
