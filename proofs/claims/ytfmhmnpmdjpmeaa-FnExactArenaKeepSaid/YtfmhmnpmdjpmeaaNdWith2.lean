/- What a node consists of: the program's operands. -/
/- The arena of a list: arenaWith. -/
import Derived.Test.YtfmhmnpmdjpmeaaNdPt
import Derived.Maps.AppendAt

namespace Go.Proofs.Ytfmhmnpmdjpmeaa
open Go.RowKit

def opP (x : Int) : List Int := if x = -1 then [] else [x]
def opsTo (a b : Int) : Nat → List Int
  | 0 => []
  | 1 => opP a
  | _ => opP a ++ opP b
/-- what a node is made of -/
abbrev opsR (a b : Int) : List Int := opsTo a b 2
theorem opsTo_step (a b : Int) {k : Nat} (hk : k < 2) : opsTo a b (k + 1) = opsTo a b k ++ opP (if k = 0 then a else b) := by
  match k, hk with
  | 0, _ => rfl
  | 1, _ => rfl
theorem opsTo_len (a b : Int) (k : Nat) : (opsTo a b k).length ≤ k := by
  have h : ∀ x, (opP x).length ≤ 1 := by intro x; unfold opP; split <;> simp
  match k with
  | 0 => simp [opsTo]
  | 1 => exact h a
  | k + 2 =>
    have h1 := h a
    have h2 := h b
    simp [opsTo]
    omega
theorem foldl_ops (f : Nat → Bool) (a b : Int) : (opsR a b).foldl bit1 f = bit1 (bit1 f a) b := by
  have h : ∀ (g : Nat → Bool) x, (opP x).foldl bit1 g = bit1 g x := by
    intro g x
    unfold opP
    split
    · rename_i e; rw [e, bit1_none]; rfl
    · rfl
  show (opP a ++ opP b).foldl bit1 f = _
  rw [List.foldl_append, h, h]

set_option maxRecDepth 100000 in
set_option maxHeartbeats 1600000 in
theorem operands_any (w : World) (o u a b : Int) : Calls Try.prog 58 #[.agg #[.int .i64 o, .int .i64 u, .int .i64 a, .int .i64 b]] w fun e w' => ∃ A c, e = .returned (.slice A (opsR a b).length c) ∧ OwnI w' w.heap.size A (opsR a b).length c (opsR a b) ∧ Below w.heap.size w w' := by
  obtain ⟨i0, hi, hz0, hz1, hz2⟩ := info_parts info_int
  have HB0 : Hid (Below w.heap.size w (w.alloc (.cells #[.int .i64 o, .int .i64 u, .int .i64 a, .int .i64 b] 57))) := (Below.refl _ _).alloc (Nat.le_refl _) _
  have HS : Hid (OwnI (w.alloc (.cells #[.int .i64 o, .int .i64 u, .int .i64 a, .int .i64 b] 57)) w.heap.size none 0 0 (opsTo a b 0)) := World.ownsRow_nil _ _ _ _
  go_enter Try.func58, Try.ntmps58
  go_wp2
  go_loopw [3, 11] (fun v i wr => ∃ (k M : Nat) (A' : Option Addr) (c' : Nat), k ≤ 2 ∧ i = .int .i64 k ∧ v = .slice A' M c' ∧ Hid ((opsTo a b k).length = M) ∧ M ≤ k ∧ Hid (OwnI wr w.heap.size A' M c' (opsTo a b k)) ∧ Hid (Below w.heap.size w wr)) (fun _ i _ => 2 - (intOf i).toNat)
  case atStart => exact ⟨0, 0, none, 0, by omega, rfl, rfl, rfl, Nat.le_refl _, HS.out, HB0.out⟩
  case round =>
    clear HS HB0
    obtain ⟨k, M, A', c', hk, rfl, rfl, HM, hMk, HO, HB⟩ := hrel
    have hsr := HB.out.size
    by_cases hlt : k < 2
    · have h01 : k = 0 ∨ k = 1 := by omega
      rcases h01 with rfl | rfl
      · have hrun : ∀ wx, (Instr.index 113 (.agg #[.int .i64 a, .int .i64 b]) (.int .i64 0)).run Try.prog wx = .ok (.int .i64 a) wx := by intro wx; kernel_rfl
        have HST : Hid (opsTo a b (0 + 1) = opsTo a b 0 ++ opP a) := opsTo_step a b hlt
        by_cases hx : a = -1
        · have ex : (a != -1) = false := by simp [hx]
          have HE : Hid (opsTo a b (0 + 1) = opsTo a b 0) := by
            show _ = _
            rw [HST.out]
            unfold opP
            rw [if_pos hx, List.append_nil]
          clear hx
          go_wp2
          go_roundw
          case rel => exact ⟨0 + 1, M, A', c', by omega, by go_num, rfl, by rw [HE.out]; exact HM, by omega, by rw [HE.out]; exact HO, HB⟩
          case measure => simp [intOf]
        · have ex : (a != -1) = true := by simpa using hx
          have HE : Hid (opsTo a b (0 + 1) = opsTo a b 0 ++ [a]) := by
            show _ = _
            rw [HST.out]
            unfold opP
            rw [if_neg hx]
          have hown := HO.out
          clear hx
          go_wp2_with (at_builtin; refine wpList_append_own _ rfl (.tmp 16) (.tmp 18) 23 rfl w.heap.size 3 i0 (.int .i64 0) 1 8 Try.underlying23 hi hz0 hz1 hz2 rfl (by decide) (.slice A' M c') M ((opsTo a b 0).map (Value.int .i64)) rfl (World.ownsRow.alloc hown _) ⟨wr.heap.size, 0, none⟩ 1 1 [.int .i64 a] rfl rfl (cell_one_new _ _ _) (fun u hu => by simp at hu; subst hu; rfl) (by unfold maxLen; omega) (by omega) (by simp; omega) ?_; intro v' w3 hown' hgrow _)
          obtain ⟨g3, c3, rfl⟩ : ∃ g3 c3, v' = .slice (some ⟨g3, 0, none⟩) (M + 1) c3 := by
            rcases hown'.2 with ⟨_, h⟩ | ⟨g3, c3, _, h, _⟩
            · omega
            · exact ⟨g3, c3, h⟩
          have HB3 : Hid (Below w.heap.size w w3) := (HB.out.alloc hsr _).grown hgrow (by simp; omega) (fun k h => (hown.lt k h).1)
          have HO3 : Hid (OwnI w3 w.heap.size (some ⟨g3, 0, none⟩) (M + 1) c3 (opsTo a b (0 + 1))) := by
            show OwnI _ _ _ _ _ _
            rw [HE.out]
            simpa [OwnI] using hown'
          have HM3 : Hid ((opsTo a b (0 + 1)).length = M + 1) := by
            show _ = _
            rw [HE.out, List.length_append, HM.out]
            rfl
          clear hown hown' hgrow HO HB HM
          go_wp2
          go_roundw
          case rel => exact ⟨0 + 1, M + 1, some ⟨g3, 0, none⟩, c3, by omega, by go_num, rfl, HM3.out, by omega, HO3.out, HB3.out⟩
          case measure => simp [intOf]
      · have hrun : ∀ wx, (Instr.index 113 (.agg #[.int .i64 a, .int .i64 b]) (.int .i64 1)).run Try.prog wx = .ok (.int .i64 b) wx := by intro wx; kernel_rfl
        have HST : Hid (opsTo a b (1 + 1) = opsTo a b 1 ++ opP b) := opsTo_step a b hlt
        by_cases hx : b = -1
        · have ex : (b != -1) = false := by simp [hx]
          have HE : Hid (opsTo a b (1 + 1) = opsTo a b 1) := by
            show _ = _
            rw [HST.out]
            unfold opP
            rw [if_pos hx, List.append_nil]
          clear hx
          go_wp2
          go_roundw
          case rel => exact ⟨1 + 1, M, A', c', by omega, by go_num, rfl, by rw [HE.out]; exact HM, by omega, by rw [HE.out]; exact HO, HB⟩
          case measure => simp [intOf]
        · have ex : (b != -1) = true := by simpa using hx
          have HE : Hid (opsTo a b (1 + 1) = opsTo a b 1 ++ [b]) := by
            show _ = _
            rw [HST.out]
            unfold opP
            rw [if_neg hx]
          have hown := HO.out
          clear hx
          go_wp2_with (at_builtin; refine wpList_append_own _ rfl (.tmp 16) (.tmp 18) 23 rfl w.heap.size 3 i0 (.int .i64 0) 1 8 Try.underlying23 hi hz0 hz1 hz2 rfl (by decide) (.slice A' M c') M ((opsTo a b 1).map (Value.int .i64)) rfl (World.ownsRow.alloc hown _) ⟨wr.heap.size, 0, none⟩ 1 1 [.int .i64 b] rfl rfl (cell_one_new _ _ _) (fun u hu => by simp at hu; subst hu; rfl) (by unfold maxLen; omega) (by omega) (by simp; omega) ?_; intro v' w3 hown' hgrow _)
          obtain ⟨g3, c3, rfl⟩ : ∃ g3 c3, v' = .slice (some ⟨g3, 0, none⟩) (M + 1) c3 := by
            rcases hown'.2 with ⟨_, h⟩ | ⟨g3, c3, _, h, _⟩
            · omega
            · exact ⟨g3, c3, h⟩
          have HB3 : Hid (Below w.heap.size w w3) := (HB.out.alloc hsr _).grown hgrow (by simp; omega) (fun k h => (hown.lt k h).1)
          have HO3 : Hid (OwnI w3 w.heap.size (some ⟨g3, 0, none⟩) (M + 1) c3 (opsTo a b (1 + 1))) := by
            show OwnI _ _ _ _ _ _
            rw [HE.out]
            simpa [OwnI] using hown'
          have HM3 : Hid ((opsTo a b (1 + 1)).length = M + 1) := by
            show _ = _
            rw [HE.out, List.length_append, HM.out]
            rfl
          clear hown hown' hgrow HO HB HM
          go_wp2
          go_roundw
          case rel => exact ⟨1 + 1, M + 1, some ⟨g3, 0, none⟩, c3, by omega, by go_num, rfl, HM3.out, by omega, HO3.out, HB3.out⟩
          case measure => simp [intOf]
    · obtain rfl : k = 2 := by omega
      have HOM : Hid (OwnI wr w.heap.size A' (opsTo a b 2).length c' (opsTo a b 2)) := by
        show OwnI _ _ _ _ _ _
        rw [HM.out]
        exact HO.out
      go_wp2
      go_ret
      refine ⟨A', c', ?_, HOM.out, HB.out⟩
      rw [HM.out]
      rfl
end Go.Proofs.Ytfmhmnpmdjpmeaa

namespace Go.Proofs.Ytfmhmnpmdjpmeaa
open Go.RowKit Go.Maps

set_option maxRecDepth 100000 in
set_option maxHeartbeats 4000000 in
theorem arenaWith_any (w : World) (B B2 : Nat) (A A2 : Option Addr) (n c n2 c2 : Nat) (l : List Nd) (is : List Int) (hB : B ≤ w.heap.size) (hB2 : B2 ≤ w.heap.size) (hl : NodR w B A n l) (his : IntR w B2 A2 n2 is) (hn : n ≤ 1048576) (hn2 : n2 ≤ 1048576) :
    Calls Try.prog 35 #[.slice A n c, .slice A2 n2 c2] w fun e w' => e = .returned (awV (w.heap.size + 1) (arenaOkR l && idxR n is)) ∧ Below w.heap.size w w' ∧ ((arenaOkR l && idxR n is) = true → ∃ A' c' D', ArO w' w.heap.size (w.heap.size + 1) w.heap.size A' n c' D' l) := by
  by_cases hbig : (200 : Int) < n
  · have HF : Hid ((arenaOkR l && idxR n is) = false) := by show _ = _; rw [arena_big hl.1 (by omega)]; rfl
    clear hl his
    go_enter Try.func35, Try.ntmps35
    go_wp2
    go_ret2
    refine ⟨by rw [HF.out]; rfl, Below.refl _ _, fun h => ?_⟩
    rw [HF.out] at h
    cases h
  · have hn3 : n ≤ 200 := by omega
    have HL := Lib.hid hl
    have HIS := Lib.hid his
    clear hl his
    go_enter Try.func35, Try.ntmps35
    go_wp2_with fail
    refine (newArena_any w).mono ?_
    rintro e w1 ⟨rfl, hb1, hA1⟩
    have HB1 := Lib.hid hb1
    have HA1 := Lib.hid hA1
    have hs1 := hb1.size
    clear hb1 hA1
    go_wp2
    go_loopw [17] (fun i wr => ∃ (k : Nat) (A' : Option Addr) (c' : Nat) (D' : DataW Unit), k ≤ n ∧ i = .int .i64 k ∧ Hid (NdAll l k) ∧ Hid (ArO wr w.heap.size (w.heap.size + 1) w.heap.size A' k c' D' (l.take k)) ∧ Below w.heap.size w wr) (fun i _ => n - (intOf i).toNat)
    case atStart => exact ⟨0, none, 0, .map [], Nat.zero_le _, rfl, ndAll_zero l, HA1.out, HB1.out⟩
    case round =>
      obtain ⟨k, A', c', D', hk, rfl, HN, HA, hbel⟩ := hrel
      by_cases hlt : k < n
      · obtain ⟨b, off, rfl, hb, hc⟩ := HL.out.2 (by omega)
        obtain ⟨x1, x2, x3, x4⟩ := hc k hlt
        obtain ⟨t, ht⟩ : ∃ t, l.getD k nd0 = t := ⟨_, rfl⟩
        rw [ht] at x1 x2 x3 x4
        obtain ⟨o, u, a, z⟩ := t
        have HT := Lib.hid ht
        have k1 := (hbel.cell (p := ⟨b, off + k * 4, none⟩) (by show b < _; omega)).trans x1
        have k2 := (hbel.cell (p := ⟨b, off + k * 4 + 1, none⟩) (by show b < _; omega)).trans x2
        have k3 := (hbel.cell (p := ⟨b, off + k * 4 + 2, none⟩) (by show b < _; omega)).trans x3
        have k4 := (hbel.cell (p := ⟨b, off + k * 4 + 3, none⟩) (by show b < _; omega)).trans x4
        have hsr := hbel.size
        have HBEL := Lib.hid hbel
        clear x1 x2 x3 x4 hc ht hbel
        go_wp2_with fail
        refine (okAt_any _ o u a z k).mono ?_
        rintro e w2 ⟨rfl, hb2⟩
        have hbw : Below wr.heap.size wr w2 := ((Below.refl _ wr).alloc (Nat.le_refl _) _).trans (hb2.mono (by simp))
        have blk2 : Blk w2 wr.heap.size 57 #[.int .i64 o, .int .i64 u, .int .i64 a, .int .i64 z] := (Blk.made _ _ _).below hb2 (by simp)
        have HA2 := Lib.hid (HA.out.below hbw)
        have HB2 := Lib.hid (HBEL.out.trans (hbw.mono hsr))
        have hs2 : w.heap.size ≤ w2.heap.size := HB2.out.size
        clear hb2 hbw HA HBEL k1 k2 k3 k4 HB1 HA1 hsr hs1
        cases hok : ndOk (o, u, a, z) k with
        | false =>
          have HF : Hid ((arenaOkR l && idxR n is) = false) := by
            show _ = _
            rw [arena_no HL.out.1 hlt (by rw [HT.out, hok]; rintro ⟨h, _⟩; cases h)]
            rfl
          clear hok blk2
          go_wp2
          go_ret2
          refine ⟨by rw [HF.out]; rfl, HB2.out, fun h => ?_⟩
          rw [HF.out] at h
          cases h
        | true =>
          have j0 := blk2.cell 0
          have j1 := blk2.cell 1
          have j2 := blk2.cell 2
          have j3 := blk2.cell 3
          simp at j0 j1 j2 j3
          have hwf : ndWf (o, u, a, z) := ndOk_wf (by omega) hok
          have HOK := Lib.hid hok
          clear hok blk2
          by_cases hmem : (o, u, a, z) ∈ l.take k
          · have HF : Hid ((arenaOkR l && idxR n is) = false) := by
              show _ = _
              rw [arena_no HL.out.1 hlt (by rw [HT.out]; rintro ⟨_, h⟩; exact h hmem)]
              rfl
            obtain ⟨q, hq⟩ : ∃ q : Nat, (l.take k).idxOf (o, u, a, z) = q := ⟨_, rfl⟩
            have hqk : q < k := by
              have h := List.idxOf_lt_length_of_mem hmem
              rw [hq] at h
              simp at h
              omega
            have hne : ((q : Int) != (k : Int)) = true := by simp; omega
            go_wp2_with fail
            refine (index_in w2 w.heap.size (w.heap.size + 1) w.heap.size A' k c' D' (l.take k) o u a z HA2.out hwf hmem).mono ?_
            rintro e w3 ⟨rfl, hb3⟩
            rw [hq]
            have HB3 := Lib.hid (HB2.out.trans (hb3.mono hs2))
            clear hb3 hq hmem hwf j0 j1 j2 j3
            go_wp2
            go_ret2
            refine ⟨by rw [HF.out]; rfl, HB3.out, fun h => ?_⟩
            rw [HF.out] at h
            cases h
          · have HN2 : Hid (NdAll l (k + 1)) := ndAll_step HN.out (by rw [HT.out]; exact HOK.out) (by rw [HT.out]; exact hmem)
            have hne : ((k : Int) != (k : Int)) = false := by simp
            go_wp2_with fail
            refine (index_new w2 w.heap.size (w.heap.size + 1) w.heap.size A' k c' D' (l.take k) o u a z HA2.out hwf hmem (by omega) hs2).mono ?_
            rintro e w3 ⟨rfl, hb3, ⟨A3, c3, D3, hA3⟩, -⟩
            have HB3 := Lib.hid (HB2.out.trans hb3)
            have HA3 : Hid (ArO w3 w.heap.size (w.heap.size + 1) w.heap.size A3 (k + 1) c3 D3 (l.take (k + 1))) := by
              show ArO _ _ _ _ _ _ _ _ _
              rw [take_succ_getD (by rw [HL.out.1]; exact hlt), HT.out]
              exact hA3
            clear hb3 hA3 hmem hwf j0 j1 j2 j3
            go_wp2
            go_roundw
            case rel => exact ⟨k + 1, A3, c3, D3, by omega, by go_num, HN2.out, HA3.out, HB3.out⟩
            case measure => simp [intOf]; omega
      · obtain rfl : k = n := by omega
        have HOK : Hid (arenaOkR l = true) := arena_yes HL.out.1 hn3 HN.out
        have HA2 : Hid (ArO wr w.heap.size (w.heap.size + 1) w.heap.size A' k c' D' l) := by
          have h := HA.out
          rwa [List.take_of_length_le (by rw [HL.out.1]; exact Nat.le_refl _)] at h
        have HB2 := Lib.hid hbel
        clear HA hbel HN HA1 HB1 hs1
        obtain ⟨ws, hws⟩ : ∃ X, X = wr := ⟨_, rfl⟩
        subst hws
        go_wp2
        go_loopw [36] (fun i wy => ∃ j : Nat, j ≤ n2 ∧ i = .int .i64 j ∧ Hid (∀ q, q < j → 0 ≤ is.getD q 0 ∧ is.getD q 0 < k) ∧ wy = ws) (fun i _ => n2 - (intOf i).toNat)
        case atStart => exact ⟨0, Nat.zero_le _, rfl, (fun q hq => absurd hq (by omega)), rfl⟩
        case round =>
          obtain ⟨j, hj, rfl, HQ, rfl⟩ := hrel
          by_cases hjl : j < n2
          · obtain ⟨b, off, rfl, hb, hc⟩ := HIS.out.2 (by omega)
            have c1 := hc j hjl
            obtain ⟨x, hx⟩ : ∃ x, is.getD j 0 = x := ⟨_, rfl⟩
            rw [hx] at c1
            have k1 := (HB2.out.cell (p := ⟨b, off + j, none⟩) (by show b < _; omega)).trans c1
            have HX := Lib.hid hx
            have hfail : ¬ (0 ≤ x ∧ x < k) → Hid ((arenaOkR l && idxR k is) = false) := by
              intro hno
              show _ = _
              rw [Bool.and_eq_false_iff]
              right
              rw [Bool.eq_false_iff]
              intro h
              apply hno
              unfold idxR at h
              rw [List.all_eq_true] at h
              have hm : x ∈ is := by
                rw [← HX.out, List.getD_eq_getElem?_getD, List.getElem?_eq_getElem (by rw [HIS.out.1]; exact hjl)]
                simp
              simpa using h x hm
            clear c1 hc hx
            by_cases h0 : 0 ≤ x
            · have d0 : decide (x < 0) = false := by simp; omega
              by_cases h1 : x < k
              · have d1 : decide ((k : Int) ≤ x) = false := by simp; omega
                have HQ2 : Hid (∀ q, q < j + 1 → 0 ≤ is.getD q 0 ∧ is.getD q 0 < k) := by
                  intro q hq
                  by_cases e : q = j
                  · subst e; rw [HX.out]; exact ⟨h0, h1⟩
                  · exact HQ.out q (by omega)
                clear hfail h0 h1
                go_wp2
                go_roundw
                case rel => exact ⟨j + 1, by omega, by go_num, HQ2.out, trivial⟩
                case measure => simp [intOf]; omega
              · have d1 : decide ((k : Int) ≤ x) = true := by simp; omega
                have HF := hfail (by rintro ⟨_, h⟩; exact h1 h)
                clear hfail h0 h1
                go_wp2
                go_ret2
                refine ⟨by rw [HF.out]; rfl, HB2.out, fun h => ?_⟩
                rw [HF.out] at h
                cases h
            · have d0 : decide (x < 0) = true := by simp; omega
              have HF := hfail (by rintro ⟨h, _⟩; exact h0 h)
              clear hfail h0
              go_wp2
              go_ret2
              refine ⟨by rw [HF.out]; rfl, HB2.out, fun h => ?_⟩
              rw [HF.out] at h
              cases h
          · have HF : Hid ((arenaOkR l && idxR k is) = true) := by
              show _ = _
              rw [HOK.out, Bool.true_and]
              unfold idxR
              rw [List.all_eq_true]
              intro x hx
              obtain ⟨q, hq, rfl⟩ := List.getElem_of_mem hx
              have h := HQ.out q (by have := HIS.out.1; omega)
              rw [List.getD_eq_getElem?_getD, List.getElem?_eq_getElem hq] at h
              simpa using h
            go_wp2
            go_ret2
            exact ⟨by rw [HF.out]; rfl, HB2.out, fun _ => ⟨_, _, _, HA2.out⟩⟩
end Go.Proofs.Ytfmhmnpmdjpmeaa
