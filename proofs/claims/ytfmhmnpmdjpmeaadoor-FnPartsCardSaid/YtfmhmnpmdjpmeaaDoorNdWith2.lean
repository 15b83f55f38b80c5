/- The arena of a list: arenaWith. -/
import Derived.Test.YtfmhmnpmdjpmeaaDoorNdOps

namespace Go.Proofs.YtfmhmnpmdjpmeaaDoor
open Go.RowKit Go.Maps

set_option maxRecDepth 100000 in
set_option maxHeartbeats 4000000 in
theorem arenaWith_any (w : World) (B B2 : Nat) (A A2 : Option Addr) (n c n2 c2 : Nat) (l : List Nd) (is : List Int) (hB : B ≤ w.heap.size) (hB2 : B2 ≤ w.heap.size) (hl : NodR w B A n l) (his : IntR w B2 A2 n2 is) (hn : n ≤ 1048576) (hn2 : n2 ≤ 1048576) :
    Calls Tryd.prog 56 #[.slice A n c, .slice A2 n2 c2] w fun e w' => e = .returned (awV (w.heap.size + 1) (arenaOkR l && idxR n is)) ∧ Below w.heap.size w w' ∧ ((arenaOkR l && idxR n is) = true → ∃ A' c' D', ArO w' w.heap.size (w.heap.size + 1) w.heap.size A' n c' D' l) := by
  by_cases hbig : (200 : Int) < n
  · have HF : Hid ((arenaOkR l && idxR n is) = false) := by show _ = _; rw [arena_big hl.1 (by omega)]; rfl
    clear hl his
    go_enter Tryd.func56, Tryd.ntmps56
    go_wp2
    go_ret2
    refine ⟨by rw [HF.out]; rfl, Below.refl _ _, fun h => ?_⟩
    rw [HF.out] at h
    cases h
  · have hn3 : n ≤ 200 := by omega
    have HL := Lib.hid hl
    have HIS := Lib.hid his
    clear hl his
    go_enter Tryd.func56, Tryd.ntmps56
    go_wp2_with fail
    refine (newArena_any w).mono ?_
    rintro e w1 ⟨rfl, hb1, hA1⟩
    have HB1 := Lib.hid hb1
    have HA1 := Lib.hid hA1
    have hs1 := hb1.size
    clear hb1 hA1
    go_wp2
    go_loopw [17] (fun i wr => ∃ (k : Nat) (A' : Option Addr) (c' : Nat) (D' : DataW Unit), k ≤ n ∧ i = .int .i64 k ∧ Hid (NdAll l k) ∧ Hid (ArO wr w.heap.size (w.heap.size + 1) w.heap.size A' k c' D' (l.take k)) ∧ Below w.heap.size w wr) (fun i _ => n - (intOf i).toNat)
    case atStart => exact ⟨0, none, 0, .map [], Nat.zero_le _, rfl, ndAll_zero l, HA1.out, HB1.out⟩
    case round =>
      obtain ⟨k, A', c', D', hk, rfl, HN, HA, hbel⟩ := hrel
      by_cases hlt : k < n
      · obtain ⟨b, off, rfl, hb, hc⟩ := HL.out.2 (by omega)
        obtain ⟨x1, x2, x3, x4⟩ := hc k hlt
        obtain ⟨t, ht⟩ : ∃ t, l.getD k nd0 = t := ⟨_, rfl⟩
        rw [ht] at x1 x2 x3 x4
        obtain ⟨o, u, a, z⟩ := t
        have HT := Lib.hid ht
        have k1 := (hbel.cell (p := ⟨b, off + k * 4, none⟩) (by show b < _; omega)).trans x1
        have k2 := (hbel.cell (p := ⟨b, off + k * 4 + 1, none⟩) (by show b < _; omega)).trans x2
        have k3 := (hbel.cell (p := ⟨b, off + k * 4 + 2, none⟩) (by show b < _; omega)).trans x3
        have k4 := (hbel.cell (p := ⟨b, off + k * 4 + 3, none⟩) (by show b < _; omega)).trans x4
        have hsr := hbel.size
        have HBEL := Lib.hid hbel
        clear x1 x2 x3 x4 hc ht hbel
        go_wp2_with fail
        refine (okAt_any _ o u a z k).mono ?_
        rintro e w2 ⟨rfl, hb2⟩
        have hbw : Below wr.heap.size wr w2 := ((Below.refl _ wr).alloc (Nat.le_refl _) _).trans (hb2.mono (by simp))
        have blk2 : Blk w2 wr.heap.size 72 #[.int .i64 o, .int .i64 u, .int .i64 a, .int .i64 z] := (Blk.made _ _ _).below hb2 (by simp)
        have HA2 := Lib.hid (HA.out.below hbw)
        have HB2 := Lib.hid (HBEL.out.trans (hbw.mono hsr))
        have hs2 : w.heap.size ≤ w2.heap.size := HB2.out.size
        clear hb2 hbw HA HBEL k1 k2 k3 k4 HB1 HA1 hsr hs1
        cases hok : ndOk (o, u, a, z) k with
        | false =>
          have HF : Hid ((arenaOkR l && idxR n is) = false) := by
            show _ = _
            rw [arena_no HL.out.1 hlt (by rw [HT.out, hok]; rintro ⟨h, _⟩; cases h)]
            rfl
          clear hok blk2
          go_wp2
          go_ret2
          refine ⟨by rw [HF.out]; rfl, HB2.out, fun h => ?_⟩
          rw [HF.out] at h
          cases h
        | true =>
          have j0 := blk2.cell 0
          have j1 := blk2.cell 1
          have j2 := blk2.cell 2
          have j3 := blk2.cell 3
          simp at j0 j1 j2 j3
          have hwf : ndWf (o, u, a, z) := ndOk_wf (by omega) hok
          have HOK := Lib.hid hok
          clear hok blk2
          by_cases hmem : (o, u, a, z) ∈ l.take k
          · have HF : Hid ((arenaOkR l && idxR n is) = false) := by
              show _ = _
              rw [arena_no HL.out.1 hlt (by rw [HT.out]; rintro ⟨_, h⟩; exact h hmem)]
              rfl
            obtain ⟨q, hq⟩ : ∃ q : Nat, (l.take k).idxOf (o, u, a, z) = q := ⟨_, rfl⟩
            have hqk : q < k := by
              have h := List.idxOf_lt_length_of_mem hmem
              rw [hq] at h
              simp at h
              omega
            have hne : ((q : Int) != (k : Int)) = true := by simp; omega
            go_wp2_with fail
            refine (index_in w2 w.heap.size (w.heap.size + 1) w.heap.size A' k c' D' (l.take k) o u a z HA2.out hwf hmem).mono ?_
            rintro e w3 ⟨rfl, hb3⟩
            rw [hq]
            have HB3 := Lib.hid (HB2.out.trans (hb3.mono hs2))
            clear hb3 hq hmem hwf j0 j1 j2 j3
            go_wp2
            go_ret2
            refine ⟨by rw [HF.out]; rfl, HB3.out, fun h => ?_⟩
            rw [HF.out] at h
            cases h
          · have HN2 : Hid (NdAll l (k + 1)) := ndAll_step HN.out (by rw [HT.out]; exact HOK.out) (by rw [HT.out]; exact hmem)
            have hne : ((k : Int) != (k : Int)) = false := by simp
            go_wp2_with fail
            refine (index_new w2 w.heap.size (w.heap.size + 1) w.heap.size A' k c' D' (l.take k) o u a z HA2.out hwf hmem (by omega) hs2).mono ?_
            rintro e w3 ⟨rfl, hb3, ⟨A3, c3, D3, hA3⟩, -⟩
            have HB3 := Lib.hid (HB2.out.trans hb3)
            have HA3 : Hid (ArO w3 w.heap.size (w.heap.size + 1) w.heap.size A3 (k + 1) c3 D3 (l.take (k + 1))) := by
              show ArO _ _ _ _ _ _ _ _ _
              rw [take_succ_getD (by rw [HL.out.1]; exact hlt), HT.out]
              exact hA3
            clear hb3 hA3 hmem hwf j0 j1 j2 j3
            go_wp2
            go_roundw
            case rel => exact ⟨k + 1, A3, c3, D3, by omega, by go_num, HN2.out, HA3.out, HB3.out⟩
            case measure => simp [intOf]; omega
      · obtain rfl : k = n := by omega
        have HOK : Hid (arenaOkR l = true) := arena_yes HL.out.1 hn3 HN.out
        have HA2 : Hid (ArO wr w.heap.size (w.heap.size + 1) w.heap.size A' k c' D' l) := by
          have h := HA.out
          rwa [List.take_of_length_le (by rw [HL.out.1]; exact Nat.le_refl _)] at h
        have HB2 := Lib.hid hbel
        clear HA hbel HN HA1 HB1 hs1
        obtain ⟨ws, hws⟩ : ∃ X, X = wr := ⟨_, rfl⟩
        subst hws
        go_wp2
        go_loopw [36] (fun i wy => ∃ j : Nat, j ≤ n2 ∧ i = .int .i64 j ∧ Hid (∀ q, q < j → 0 ≤ is.getD q 0 ∧ is.getD q 0 < k) ∧ wy = ws) (fun i _ => n2 - (intOf i).toNat)
        case atStart => exact ⟨0, Nat.zero_le _, rfl, (fun q hq => absurd hq (by omega)), rfl⟩
        case round =>
          obtain ⟨j, hj, rfl, HQ, rfl⟩ := hrel
          by_cases hjl : j < n2
          · obtain ⟨b, off, rfl, hb, hc⟩ := HIS.out.2 (by omega)
            have c1 := hc j hjl
            obtain ⟨x, hx⟩ : ∃ x, is.getD j 0 = x := ⟨_, rfl⟩
            rw [hx] at c1
            have k1 := (HB2.out.cell (p := ⟨b, off + j, none⟩) (by show b < _; omega)).trans c1
            have HX := Lib.hid hx
            have hfail : ¬ (0 ≤ x ∧ x < k) → Hid ((arenaOkR l && idxR k is) = false) := by
              intro hno
              show _ = _
              rw [Bool.and_eq_false_iff]
              right
              rw [Bool.eq_false_iff]
              intro h
              apply hno
              unfold idxR at h
              rw [List.all_eq_true] at h
              have hm : x ∈ is := by
                rw [← HX.out, List.getD_eq_getElem?_getD, List.getElem?_eq_getElem (by rw [HIS.out.1]; exact hjl)]
                simp
              simpa using h x hm
            clear c1 hc hx
            by_cases h0 : 0 ≤ x
            · have d0 : decide (x < 0) = false := by simp; omega
              by_cases h1 : x < k
              · have d1 : decide ((k : Int) ≤ x) = false := by simp; omega
                have HQ2 : Hid (∀ q, q < j + 1 → 0 ≤ is.getD q 0 ∧ is.getD q 0 < k) := by
                  intro q hq
                  by_cases e : q = j
                  · subst e; rw [HX.out]; exact ⟨h0, h1⟩
                  · exact HQ.out q (by omega)
                clear hfail h0 h1
                go_wp2
                go_roundw
                case rel => exact ⟨j + 1, by omega, by go_num, HQ2.out, trivial⟩
                case measure => simp [intOf]; omega
              · have d1 : decide ((k : Int) ≤ x) = true := by simp; omega
                have HF := hfail (by rintro ⟨_, h⟩; exact h1 h)
                clear hfail h0 h1
                go_wp2
                go_ret2
                refine ⟨by rw [HF.out]; rfl, HB2.out, fun h => ?_⟩
                rw [HF.out] at h
                cases h
            · have d0 : decide (x < 0) = true := by simp; omega
              have HF := hfail (by rintro ⟨h, _⟩; exact h0 h)
              clear hfail h0
              go_wp2
              go_ret2
              refine ⟨by rw [HF.out]; rfl, HB2.out, fun h => ?_⟩
              rw [HF.out] at h
              cases h
          · have HF : Hid ((arenaOkR l && idxR k is) = true) := by
              show _ = _
              rw [HOK.out, Bool.true_and]
              unfold idxR
              rw [List.all_eq_true]
              intro x hx
              obtain ⟨q, hq, rfl⟩ := List.getElem_of_mem hx
              have h := HQ.out q (by have := HIS.out.1; omega)
              rw [List.getD_eq_getElem?_getD, List.getElem?_eq_getElem hq] at h
              simpa using h
            go_wp2
            go_ret2
            exact ⟨by rw [HF.out]; rfl, HB2.out, fun _ => ⟨_, _, _, HA2.out⟩⟩
end Go.Proofs.YtfmhmnpmdjpmeaaDoor
