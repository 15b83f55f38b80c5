/- ArenaKeep of the model: the walk. -/
import Derived.Test.YtfmhmnpmdjpmeaaDoorNdKpS

namespace Go.Proofs.YtfmhmnpmdjpmeaaDoor
open Go.RowKit Go.Maps

theorem int_more {w : World} {base n : Nat} {v : Value} {xs : List Value} (h : w.ownsRow base 3 1 v (n + 1) xs) : ∃ g c, v = .slice (some ⟨g, 0, none⟩) (n + 1) c := by
  rcases h.2 with ⟨_, h0⟩ | ⟨g', cap', _, h0, _⟩
  · omega
  · exact ⟨g', cap', h0⟩
theorem at_cell {w : World} {base g n c j : Nat} {R : Nat → Bool} (h : OwnI w base (some ⟨g, 0, none⟩) n c (atL R n)) (hj : j < n) : ∀ X, (w.alloc X).cell? ⟨g, j, none⟩ = some (.int .i64 ((cntK R j : Nat) : Int)) := by
  intro X
  obtain ⟨b, off, e, hb, hc⟩ := (OwnI.reads h).2 (by omega)
  injection e with e
  injection e with e1 e2
  subst e1; subst e2
  have h1 := hc j hj
  rw [atL_at hj, Nat.zero_add] at h1
  exact (((Below.refl w.heap.size w).alloc (Nat.le_refl _) X).cell (p := ⟨g, j, none⟩) hb).trans h1
theorem blkAt {X : World} {g : Nat} {t : TypeId} {cs : Array Value} (h : g = X.heap.size) : Blk (X.alloc (.cells cs t)) g t cs := by subst h; exact Blk.made _ _ _

set_option maxRecDepth 100000 in
set_option maxHeartbeats 8000000 in
theorem specKeep_any (w : World) (B : Nat) (A : Option Addr) (n c : Nat) (l : List Nd) (B2 : Nat) (A2 : Option Addr) (n2 c2 : Nat) (is : List Int) (hB : B ≤ w.heap.size) (hl : NodR w B A n l) (hn : n ≤ 1048576) (hB2 : B2 ≤ w.heap.size) (his : IntR w B2 A2 n2 is) (hn2 : n2 ≤ 1048576) :
    Calls Tryd.prog 42 #[.slice A n c, .slice A2 n2 c2] w (KeepOut w (arenaOkR l && idxR n is) (keepN l n is) (keepI l n is)) := by
  have hfailK : (arenaOkR l && idxR n is) = false → keepN l n is = [] ∧ keepI l n is = [] := fun h => ⟨by unfold keepN; rw [if_neg (by rw [h]; decide)], by unfold keepI; rw [if_neg (by rw [h]; decide)]⟩
  have HFK := Lib.hid hfailK
  have HL := Lib.hid hl
  have HIS := Lib.hid his
  have hl0 := hl
  clear hfailK hl his
  go_enter Tryd.func42, Tryd.ntmps42
  go_wp2_with fail
  refine (specArenaOk_any w B A n c l hB hl0 hn).mono ?_
  rintro e w1 ⟨rfl, hb1⟩
  have HB1 := Lib.hid hb1
  have hs1 := hb1.size
  clear hl0 hb1
  cases ha : arenaOkR l with
  | false =>
    have HOKK : Hid ((arenaOkR l && idxR n is) = false) := by show _ = _; rw [ha]; rfl
    have HN : Hid (OwnN w1 w.heap.size none 0 0 []) := World.ownsRow_nil _ _ _ _
    have HN2 : Hid (OwnI w1 w.heap.size none 0 0 []) := World.ownsRow_nil _ _ _ _
    clear ha
    go_wp2
    go_ret3
    rw [HOKK.out, (HFK.out HOKK.out).1, (HFK.out HOKK.out).2]
    exact ⟨none, 0, none, 0, rfl, HN.out, HN2.out, HB1.out⟩
  | true =>
    have HAO := Lib.hid ha
    unfold arenaOkR at ha
    rw [Bool.and_eq_true, decide_eq_true_eq, decide_eq_true_eq, HL.out.1] at ha
    obtain ⟨hn3, hall⟩ := ha
    have HALL := Lib.hid hall
    have hmk := make_bits n (by omega)
    rw [bits_made] at hmk
    have HG2 : Hid (Blk (w1.alloc (.cells (bitA (fun _ => false) n) 4)) w1.heap.size 4 (bitA (anyR l is 0) n)) := Blk.made _ _ _
    have HB2 : Hid (Below w.heap.size w (w1.alloc (.cells (bitA (fun _ => false) n) 4))) := HB1.out.alloc hs1 _
    have hs2 : w1.heap.size < (w1.alloc (.cells (bitA (fun _ => false) n) 4)).heap.size := HG2.out.lt
    clear hall
    go_wp2
    go_loopw [8] (fun v wr => ∃ q : Nat, q ≤ n2 ∧ v = .int .i64 q ∧ Hid (∀ p, p < q → 0 ≤ is.getD p 0 ∧ is.getD p 0 < n) ∧ Hid (Blk wr w1.heap.size 4 (bitA (anyR l is q) n)) ∧ Hid (Below w.heap.size w wr) ∧ w1.heap.size < wr.heap.size) (fun v _ => n2 - (intOf v).toNat)
    case atStart => exact ⟨0, Nat.zero_le _, rfl, (fun p hp => absurd hp (by omega)), HG2.out, HB2.out, hs2⟩
    case round =>
      clear HG2 HB2 hs2 hmk
      obtain ⟨q, hq, rfl, HQ, HG, HB, hsr⟩ := hrel
      have hwr := HB.out.size
      by_cases hlt : q < n2
      · obtain ⟨b, off, hA2, hb, hc⟩ := HIS.out.2 (by omega)
        subst hA2
        have z1 := hc q hlt
        have hql : q < is.length := by rw [HIS.out.1]; exact hlt
        obtain ⟨x, hx⟩ : ∃ x, is.getD q 0 = x := ⟨_, rfl⟩
        rw [hx] at z1
        have HX := Lib.hid hx
        have k1 := (HB.out.cell (p := ⟨b, off + q, none⟩) (by show b < _; omega)).trans z1
        have hlr := HL.out.below (HB.out.mono hB)
        clear z1 hx hc
        go_wp2_with fail
        refine (l08Has_any wr B A n c l x (by omega) hlr hn).mono ?_
        rintro e w3 ⟨rfl, hb3⟩
        have HB3 := Lib.hid (HB.out.trans (hb3.mono hwr))
        have HG3 := Lib.hid (HG.out.below hb3 hsr)
        have hs3 : w1.heap.size < w3.heap.size := HG3.out.lt
        have hwr3 := HB3.out.size
        have k3 : w3.cell? ⟨b, off + q, none⟩ = some (.int .i64 x) := (hb3.cell (p := ⟨b, off + q, none⟩) (by show b < _; omega)).trans k1
        have hlr3 := HL.out.below (HB3.out.mono hB)
        rw [HAO.out, Bool.true_and]
        clear hb3 HB HG k1 hlr hsr hwr
        cases hix : idxR n [x] with
        | false =>
          have HOKK : Hid ((arenaOkR l && idxR n is) = false) := by
            show _ = _
            rw [Bool.and_eq_false_iff]
            right
            rw [Bool.eq_false_iff]
            intro h
            have h1 := idx_at h hql
            rw [HX.out] at h1
            rw [idx_one, decide_eq_true h1.1, decide_eq_true h1.2] at hix
            cases hix
          have HN : Hid (OwnN w3 w.heap.size none 0 0 []) := World.ownsRow_nil _ _ _ _
          have HN2 : Hid (OwnI w3 w.heap.size none 0 0 []) := World.ownsRow_nil _ _ _ _
          clear hix hlr3
          go_wp2
          go_ret3
          rw [HOKK.out, (HFK.out HOKK.out).1, (HFK.out HOKK.out).2]
          exact ⟨none, 0, none, 0, rfl, HN.out, HN2.out, HB3.out⟩
        | true =>
          have hpr : partsR l n x = pickTo (needR l x.toNat) (x.toNat + 1) := by unfold partsR; rw [if_pos (by rw [HAO.out, hix]; rfl)]
          rw [idx_one, Bool.and_eq_true, decide_eq_true_eq, decide_eq_true_eq] at hix
          obtain ⟨h0, h1⟩ := hix
          obtain ⟨i, rfl⟩ : ∃ i : Nat, x = i := ⟨x.toNat, by omega⟩
          rw [Int.toNat_natCast] at hpr
          have hin : i < n := by omega
          have HQ2 : Hid (∀ p, p < q + 1 → 0 ≤ is.getD p 0 ∧ is.getD p 0 < n) := by
            intro p hp
            by_cases e : p = q
            · subst e; rw [HX.out]; exact ⟨h0, h1⟩
            · exact HQ.out p (by omega)
          have HSTEP : Hid (bitA ((pickTo (needR l i) (i + 1)).foldl bit1 (anyR l is q)) n = bitA (anyR l is (q + 1)) n) := anyR_step HALL.out hql HX.out
          have HPR := Lib.hid hpr
          clear hpr HQ
          go_wp2_with fail
          refine (specParts_any w3 B A n c l i (by omega) hlr3 hn).mono ?_
          rintro e w4 ⟨A4, c4, rfl, ho4, hb4⟩
          rw [HPR.out] at ho4 ⊢
          obtain ⟨P, hP⟩ : ∃ P, pickTo (needR l i) (i + 1) = P := ⟨_, rfl⟩
          have hPin : ∀ p, p < P.length → 0 ≤ P.getD p 0 ∧ P.getD p 0 < n := by
            intro p hp
            rw [← hP] at hp ⊢
            obtain ⟨j, h1, _, _, h4⟩ := pickTo_at hp
            rw [h4]
            omega
          rw [hP] at ho4 HSTEP
          rw [hP]
          obtain ⟨M, hM⟩ : ∃ M, P.length = M := ⟨_, rfl⟩
          rw [hM] at ho4 hPin
          rw [hM]
          have HM := Lib.hid hM
          have HPI := Lib.hid hPin
          have hM1 : M ≤ n := by rw [← hM, ← hP]; have := pickTo_len (needR l i) (i + 1); omega
          have HO4 : Hid (OwnI w4 (w1.heap.size + 1) A4 M c4 P) := own_base ho4 hs3
          have HG4 : Hid (Blk w4 w1.heap.size 4 (bitA ((P.take 0).foldl bit1 (anyR l is q)) n)) := HG3.out.below hb4 hs3
          have HB4 := Lib.hid (HB3.out.trans (hb4.mono hwr3))
          have hs4 : w1.heap.size < w4.heap.size := HG4.out.lt
          clear ho4 hb4 hP hM hPin HB3 HG3 k3 hlr3 hs3 hwr3
          obtain ⟨wt, hwt⟩ : ∃ X, X = w4 := ⟨_, rfl⟩
          subst hwt
          go_wp2
          go_loopw [10] (fun v wz => ∃ p : Nat, p ≤ M ∧ v = .int .i64 p ∧ Hid (OwnI wz (w1.heap.size + 1) A4 M c4 P) ∧ Hid (Blk wz w1.heap.size 4 (bitA ((P.take p).foldl bit1 (anyR l is q)) n)) ∧ Hid (Below w.heap.size w wz) ∧ w1.heap.size < wz.heap.size) (fun v _ => M - (intOf v).toNat)
          case atStart => exact ⟨0, Nat.zero_le _, rfl, HO4.out, HG4.out, HB4.out, hs4⟩
          case round =>
            clear HO4 HG4 HB4 hs4
            obtain ⟨p, hp, rfl, HO, HG, HB, hsz⟩ := hrel
            by_cases hpM : p < M
            · obtain ⟨b5, off5, hA5, hb5, hc5⟩ := (OwnI.reads HO.out).2 (by omega)
              subst hA5
              have z1 := hc5 p hpM
              obtain ⟨h2, h3⟩ := HPI.out p hpM
              have hfold := bits_fold P p (by rw [HM.out]; exact hpM) (anyR l is q)
              obtain ⟨y, hy⟩ : ∃ y, P.getD p 0 = y := ⟨_, rfl⟩
              rw [hy] at z1 h2 h3 hfold
              obtain ⟨j, rfl⟩ : ∃ j : Nat, y = j := ⟨y.toNat, by omega⟩
              have hjn : j < n := by omega
              have hf := HG.out.thawed j
              have he : wr.cell? ⟨w1.heap.size, j, none⟩ = some (.bool (((P.take p).foldl bit1 (anyR l is q)) j)) := (HG.out.cell j).trans (bitA_get _ hjn)
              obtain ⟨W5, hW5⟩ : ∃ X, wr.setCell ⟨w1.heap.size, j, none⟩ (.bool true) = X := ⟨_, rfl⟩
              have HG2 : Hid (Blk W5 w1.heap.size 4 (bitA ((P.take (p + 1)).foldl bit1 (anyR l is q)) n)) := by
                show Blk _ _ _ _
                have h := HG.out.put j (.bool true)
                rw [bitA_set, hW5] at h
                rw [hfold]
                exact h
              have HO2 : Hid (OwnI W5 (w1.heap.size + 1) (some ⟨b5, off5, none⟩) M c4 P) := by
                show OwnI _ _ _ _ _ _
                rw [← hW5]
                exact own_store HO.out (p := ⟨w1.heap.size, j, none⟩) (own_apart HO.out HG.out (by decide)) _
              have HB2 : Hid (Below w.heap.size w W5) := by
                show Below _ _ _
                rw [← hW5]
                exact Below.setCell HB.out (p := ⟨w1.heap.size, j, none⟩) (by show w.heap.size ≤ w1.heap.size; omega) _
              have hs2 : w1.heap.size < W5.heap.size := HG2.out.lt
              clear hy hfold HG HO HB hc5 hsz
              go_wp2
              go_roundw
              case rel => exact ⟨p + 1, by omega, by go_num, HO2.out, HG2.out, HB2.out, hs2⟩
              case measure => simp [intOf]; omega
            · obtain rfl : p = M := by omega
              have HG2 : Hid (Blk wr w1.heap.size 4 (bitA (anyR l is (q + 1)) n)) := by
                show Blk _ _ _ _
                have h := HG.out
                rw [List.take_of_length_le (by rw [HM.out]; exact Nat.le_refl _), HSTEP.out] at h
                exact h
              clear HG HO HM HSTEP HPI
              go_wp2
              go_roundw
              case rel => exact ⟨q + 1, by omega, by go_num, HQ2.out, HG2.out, HB.out, hsz⟩
              case measure => simp [intOf]; omega
      · obtain rfl : q = n2 := by omega
        have hix : idxR n is = true := by
          unfold idxR
          rw [List.all_eq_true]
          intro x hx
          obtain ⟨p, hp, rfl⟩ := List.getElem_of_mem hx
          have h := HQ.out p (by have := HIS.out.1; omega)
          rw [List.getD_eq_getElem?_getD, List.getElem?_eq_getElem hp] at h
          simpa using h
        have HOKK : Hid ((arenaOkR l && idxR n is) = true) := by show _ = _; rw [HAO.out, hix]; rfl
        obtain ⟨R, hR⟩ : ∃ R, rootsR l n is = R := ⟨_, rfl⟩
        have HRR : Hid (R = needD l n (is.foldl bit1 fun _ => false) n) := hR.symm
        have HPN : Hid (keepN l n is = leftN l R n) := by show _ = _; unfold keepN; rw [if_pos HOKK.out, hR]
        have HPI : Hid (keepI l n is = is.map fun r => ((cntK R r.toNat : Nat) : Int)) := by show _ = _; unfold keepI; rw [if_pos HOKK.out, hR]
        have HGR : Hid (Blk wr w1.heap.size 4 (bitA R n)) := by
          have h := HG.out
          show Blk _ _ _ _
          rw [← hR, roots_any hix]
          unfold anyR at h
          rw [List.take_of_length_le (by rw [HIS.out.1]; exact Nat.le_refl _)] at h
          exact h
        have HIX := Lib.hid hix
        clear hR hix HG HQ HFK
        obtain ⟨ws, hws⟩ : ∃ X, X = wr := ⟨_, rfl⟩
        subst hws
        obtain ⟨i0, hi, hz0, hz1, hz2⟩ := info_parts info_nod
        obtain ⟨j0, ji, jz0, jz1, jz2⟩ := info_parts info_int
        have HS1 : Hid (OwnN ((ws.alloc (.cells #[] 72)).alloc (.cells #[] 3)) ws.heap.size (some ⟨ws.heap.size, 0, none⟩) 0 0 (leftN l R 0)) := World.ownsRow.alloc (World.ownsRow_made ws #[] 0 (Nat.le_refl _) (by simp [maxLen]) (by simp)) _
        have HS2 : Hid (OwnI ((ws.alloc (.cells #[] 72)).alloc (.cells #[] 3)) ws.heap.size (some ⟨ws.heap.size + 1, 0, none⟩) 0 0 (atL R 0)) := by
          have h := World.ownsRow_made (e := 3) (size := 1) (base := ws.heap.size) (ws.alloc (.cells #[] 72)) #[] 0 (by simp) (by simp [maxLen]) (by simp)
          have e : (ws.alloc (.cells #[] 72)).heap.size = ws.heap.size + 1 := by simp
          rw [e] at h
          exact h
        have HS3 : Hid (Below ws.heap.size ws ((ws.alloc (.cells #[] 72)).alloc (.cells #[] 3))) := ((Below.refl _ _).alloc (Nat.le_refl _) _).alloc (by simp) _
        go_wp2
        go_loopw [11, 12, 13] (fun v1 v2 i wz => ∃ (k M g1 c1 g2 c3 : Nat), k ≤ n ∧ i = .int .i64 k ∧ v1 = .slice (some ⟨g1, 0, none⟩) M c1 ∧ v2 = .slice (some ⟨g2, 0, none⟩) k c3 ∧ Hid (cntK R k = M) ∧ M ≤ k ∧ Hid (OwnN wz ws.heap.size (some ⟨g1, 0, none⟩) M c1 (leftN l R k)) ∧ Hid (OwnI wz ws.heap.size (some ⟨g2, 0, none⟩) k c3 (atL R k)) ∧ Hid (Below ws.heap.size ws wz)) (fun _ _ i _ => n - (intOf i).toNat)
        case atStart => exact ⟨0, 0, ws.heap.size, 0, ws.heap.size + 1, 0, Nat.zero_le _, rfl, rfl, rfl, rfl, Nat.le_refl _, HS1.out, HS2.out, HS3.out⟩
        case round =>
          clear HS1 HS2 HS3
          obtain ⟨k, M, g1, c1, g2, c3, hk, rfl, rfl, rfl, HM, hMk, HN1, HI1, HZ⟩ := hrel
          have hzs := HZ.out.size
          by_cases hkn : k < n
          · have hown := HI1.out
            have hzw : w1.heap.size < ws.heap.size := HGR.out.lt
            obtain ⟨bl, ol, hAl, hbl, hcl⟩ := (HL.out.below (HB.out.mono hB)).2 (by omega)
            subst hAl
            have hblw : bl < ws.heap.size := by have := HB.out.size; omega
            obtain ⟨x1, x2, x3, x4⟩ := hcl k hkn
            obtain ⟨t, ht⟩ : ∃ t, l.getD k nd0 = t := ⟨_, rfl⟩
            have hok := (HALL.out k hkn).1
            rw [ht] at x1 x2 x3 x4 hok
            obtain ⟨o, u, a, y⟩ := t
            have hops := ndOk_ops hok
            have HTT := Lib.hid ht
            clear hcl ht hok
            have HSTEP : Hid (∀ w5 v', w5.ownsRow ws.heap.size 3 1 v' (k + 1) (((atL R k).map (Value.int .i64)) ++ [.int .i64 M]) → (wr.alloc (.cells #[.int .i64 M] 3)).grownBy w5 (Value.slice (some ⟨g2, 0, none⟩) k c3).ownBlock → Hid (OwnN w5 ws.heap.size (some ⟨g1, 0, none⟩) M c1 (leftN l R k)) ∧ Hid (w5.ownsRow ws.heap.size 3 1 v' (k + 1) ((atL R (k + 1)).map (Value.int .i64))) ∧ Hid (Below ws.heap.size ws w5) ∧ w5.cell? ⟨w1.heap.size, k, none⟩ = some (.bool (R k)) ∧ (w5.cell? ⟨bl, ol + k * 4, none⟩ = some (.int .i64 o) ∧ w5.cell? ⟨bl, ol + k * 4 + 1, none⟩ = some (.int .i64 u) ∧ w5.cell? ⟨bl, ol + k * 4 + 2, none⟩ = some (.int .i64 a) ∧ w5.cell? ⟨bl, ol + k * 4 + 3, none⟩ = some (.int .i64 y))) := by
              intro w5 v' ho hg
              have hz5 : Below ws.heap.size ws w5 := (HZ.out.alloc hzs _).grown hg (by simp; omega) (fun x hx => (hown.lt x hx).1)
              refine ⟨World.ownsRow.kept (World.ownsRow.alloc HN1.out _) hg (rows_apart HN1.out hown (by decide)), ?_, hz5, (hz5.cell (p := ⟨w1.heap.size, k, none⟩) hzw).trans ((HGR.out.cell k).trans (bitA_get _ hkn)), ((hz5.cell (p := ⟨bl, ol + k * 4, none⟩) hblw).trans x1), ((hz5.cell (p := ⟨bl, ol + k * 4 + 1, none⟩) hblw).trans x2), ((hz5.cell (p := ⟨bl, ol + k * 4 + 2, none⟩) hblw).trans x3), ((hz5.cell (p := ⟨bl, ol + k * 4 + 3, none⟩) hblw).trans x4)⟩
              show w5.ownsRow _ _ _ _ _ _
              rw [atL_succ, HM.out, List.map_append]
              exact ho
            cases hRk : R k with
            | false =>
              rw [hRk] at HSTEP
              have HM2 : Hid (cntK R (k + 1) = M) := by show _ = _; rw [cntK_succ, if_neg (by rw [hRk]; decide)]; exact HM.out
              have HLN : Hid (leftN l R (k + 1) = leftN l R k) := by show _ = _; rw [leftN_succ, if_neg (by rw [hRk]; decide)]
              clear hRk
              go_wp2_with (at_builtin; refine wpList_append_own _ rfl (.tmp 62) (.tmp 65) 40 rfl ws.heap.size 3 j0 (.int .i64 0) 1 8 Tryd.underlying40 ji jz0 jz1 jz2 rfl (by decide) (.slice (some ⟨g2, 0, none⟩) k c3) k ((atL R k).map (Value.int .i64)) rfl (World.ownsRow.alloc hown _) ⟨wr.heap.size, 0, none⟩ 1 1 [.int .i64 M] rfl rfl (cell_one_new _ _ _) (fun u hu => by simp at hu; subst hu; rfl) (by unfold maxLen; omega) (by omega) (by simp; omega) ?_; intro v' w5 hown' hgrow _; obtain ⟨g5, c5, rfl⟩ := int_more hown'; obtain ⟨HN5, HI5, HZ5, q5, l1, l2, l3, l4⟩ := HSTEP.out w5 _ hown' hgrow)
              go_wp2
              go_roundw
              case rel => exact ⟨k + 1, M, g1, c1, g5, c5, by omega, by go_num, rfl, rfl, HM2.out, by omega, by rw [HLN.out]; exact HN5, HI5.out, HZ5.out⟩
              case measure => simp [intOf]; omega
            | true =>
              rw [hRk] at HSTEP
              have HM2 : Hid (cntK R (k + 1) = M + 1) := by show _ = _; rw [cntK_succ, if_pos hRk, HM.out]
              have HLN : Hid (leftN l R (k + 1) = leftN l R k ++ [(o, u, newOp R a, newOp R y)]) := by show _ = _; rw [leftN_succ, if_pos hRk, HTT.out]; rfl
              clear hRk
              rcases hops.1 with hx | ⟨hx0, hxk⟩
              · subst hx
                rcases hops.2 with hy | ⟨hy0, hyk⟩
                · subst hy
                  have HV : Hid ((o, u, newOp R (-1), newOp R (-1)) = (o, u, (-1), (-1))) := by show _ = _; simp [newOp]
                  go_wp2_with (at_builtin; first | (refine wpList_append_own _ rfl (.tmp 62) (.tmp 65) 40 rfl ws.heap.size 3 j0 (.int .i64 0) 1 8 Tryd.underlying40 ji jz0 jz1 jz2 rfl (by decide) (.slice (some ⟨g2, 0, none⟩) k c3) k ((atL R k).map (Value.int .i64)) rfl (World.ownsRow.alloc hown _) ⟨wr.heap.size, 0, none⟩ 1 1 [.int .i64 M] rfl rfl (cell_one_new _ _ _) (fun u hu => by simp at hu; subst hu; rfl) (by unfold maxLen; omega) (by omega) (by simp; omega) ?_; intro v' w5 hown' hgrow _; obtain ⟨g5, c5, rfl⟩ := int_more hown'; obtain ⟨HN5, HI5, HZ5, q5, l1, l2, l3, l4⟩ := HSTEP.out w5 _ hown' hgrow; have hz5 := HZ5.out.size) | (refine wpList_append_own _ rfl (.tmp 94) (.tmp 96) 26 rfl ws.heap.size 72 i0 (.agg #[.int .i64 0, .int .i64 0, .int .i64 0, .int .i64 0]) 4 32 Tryd.underlying26 hi hz0 hz1 hz2 rfl (by decide) (.slice (some ⟨g1, 0, none⟩) M c1) M (nodCells (leftN l R k)) rfl (World.ownsRow.alloc (World.ownsRow.alloc HN5.out _) _) ⟨w5.heap.size + 1, 0, none⟩ 1 1 (nodCells [(o, u, (-1), (-1))]) rfl rfl (nod_blk (blkAt (by simp))) (nodCells_one _) (by unfold maxLen; omega) (by omega) (by simp; omega) ?_; intro v2 w6 hown2 hgrow2 _))
                  obtain ⟨g6, c6, rfl⟩ := nod_more hown2
                  have HZ6 : Hid (Below ws.heap.size ws w6) := ((HZ5.out.alloc hz5 _).alloc (by simp; omega) _).grown hgrow2 (by simp; omega) (fun x hx => (HN5.out.lt x hx).1)
                  have HI6 : Hid (OwnI w6 ws.heap.size (some ⟨g5, 0, none⟩) (k + 1) c5 (atL R (k + 1))) := World.ownsRow.kept (World.ownsRow.alloc (World.ownsRow.alloc HI5.out _) _) hgrow2 (rows_apart HI5.out HN5.out (by decide))
                  have HN6 : Hid (OwnN w6 ws.heap.size (some ⟨g6, 0, none⟩) (M + 1) c6 (leftN l R (k + 1))) := by
                    show OwnN _ _ _ _ _ _
                    rw [HLN.out, HV.out]
                    exact nod_snoc hown2
                  clear hown2 hgrow2 hown' hgrow l1 l2 l3 l4 q5
                  go_wp2
                  go_roundw
                  case rel => exact ⟨k + 1, M + 1, g6, c6, g5, c5, by omega, by go_num, rfl, rfl, HM2.out, by omega, HN6.out, HI6.out, HZ6.out⟩
                  case measure => simp [intOf]; omega
                · obtain ⟨r, rfl⟩ : ∃ r : Nat, y = r := ⟨y.toNat, by omega⟩
                  have hrk : r < k + 1 := by omega
                  have hrk' : (r : Int) < ((k + 1 : Nat) : Int) := by omega
                  have HV : Hid ((o, u, newOp R (-1), newOp R ((r : Nat) : Int)) = (o, u, (-1), ((cntK R r : Nat) : Int))) := by show _ = _; simp [newOp]
                  go_wp2_with (at_builtin; first | (refine wpList_append_own _ rfl (.tmp 62) (.tmp 65) 40 rfl ws.heap.size 3 j0 (.int .i64 0) 1 8 Tryd.underlying40 ji jz0 jz1 jz2 rfl (by decide) (.slice (some ⟨g2, 0, none⟩) k c3) k ((atL R k).map (Value.int .i64)) rfl (World.ownsRow.alloc hown _) ⟨wr.heap.size, 0, none⟩ 1 1 [.int .i64 M] rfl rfl (cell_one_new _ _ _) (fun u hu => by simp at hu; subst hu; rfl) (by unfold maxLen; omega) (by omega) (by simp; omega) ?_; intro v' w5 hown' hgrow _; obtain ⟨g5, c5, rfl⟩ := int_more hown'; obtain ⟨HN5, HI5, HZ5, q5, l1, l2, l3, l4⟩ := HSTEP.out w5 _ hown' hgrow; have hz5 := HZ5.out.size; have kr := at_cell HI5.out (j := r) (by omega)) | (refine wpList_append_own _ rfl (.tmp 94) (.tmp 96) 26 rfl ws.heap.size 72 i0 (.agg #[.int .i64 0, .int .i64 0, .int .i64 0, .int .i64 0]) 4 32 Tryd.underlying26 hi hz0 hz1 hz2 rfl (by decide) (.slice (some ⟨g1, 0, none⟩) M c1) M (nodCells (leftN l R k)) rfl (World.ownsRow.alloc (World.ownsRow.alloc HN5.out _) _) ⟨w5.heap.size + 1, 0, none⟩ 1 1 (nodCells [(o, u, (-1), ((cntK R r : Nat) : Int))]) rfl rfl (nod_blk (blkAt (by simp))) (nodCells_one _) (by unfold maxLen; omega) (by omega) (by simp; omega) ?_; intro v2 w6 hown2 hgrow2 _))
                  obtain ⟨g6, c6, rfl⟩ := nod_more hown2
                  have HZ6 : Hid (Below ws.heap.size ws w6) := ((HZ5.out.alloc hz5 _).alloc (by simp; omega) _).grown hgrow2 (by simp; omega) (fun x hx => (HN5.out.lt x hx).1)
                  have HI6 : Hid (OwnI w6 ws.heap.size (some ⟨g5, 0, none⟩) (k + 1) c5 (atL R (k + 1))) := World.ownsRow.kept (World.ownsRow.alloc (World.ownsRow.alloc HI5.out _) _) hgrow2 (rows_apart HI5.out HN5.out (by decide))
                  have HN6 : Hid (OwnN w6 ws.heap.size (some ⟨g6, 0, none⟩) (M + 1) c6 (leftN l R (k + 1))) := by
                    show OwnN _ _ _ _ _ _
                    rw [HLN.out, HV.out]
                    exact nod_snoc hown2
                  clear hown2 hgrow2 hown' hgrow l1 l2 l3 l4 q5
                  go_wp2
                  go_roundw
                  case rel => exact ⟨k + 1, M + 1, g6, c6, g5, c5, by omega, by go_num, rfl, rfl, HM2.out, by omega, HN6.out, HI6.out, HZ6.out⟩
                  case measure => simp [intOf]; omega
              · obtain ⟨p, rfl⟩ : ∃ p : Nat, a = p := ⟨a.toNat, by omega⟩
                have hpk : p < k + 1 := by omega
                have hpk' : (p : Int) < ((k + 1 : Nat) : Int) := by omega
                rcases hops.2 with hy | ⟨hy0, hyk⟩
                · subst hy
                  have HV : Hid ((o, u, newOp R ((p : Nat) : Int), newOp R (-1)) = (o, u, ((cntK R p : Nat) : Int), (-1))) := by show _ = _; simp [newOp]
                  go_wp2_with (at_builtin; first | (refine wpList_append_own _ rfl (.tmp 62) (.tmp 65) 40 rfl ws.heap.size 3 j0 (.int .i64 0) 1 8 Tryd.underlying40 ji jz0 jz1 jz2 rfl (by decide) (.slice (some ⟨g2, 0, none⟩) k c3) k ((atL R k).map (Value.int .i64)) rfl (World.ownsRow.alloc hown _) ⟨wr.heap.size, 0, none⟩ 1 1 [.int .i64 M] rfl rfl (cell_one_new _ _ _) (fun u hu => by simp at hu; subst hu; rfl) (by unfold maxLen; omega) (by omega) (by simp; omega) ?_; intro v' w5 hown' hgrow _; obtain ⟨g5, c5, rfl⟩ := int_more hown'; obtain ⟨HN5, HI5, HZ5, q5, l1, l2, l3, l4⟩ := HSTEP.out w5 _ hown' hgrow; have hz5 := HZ5.out.size; have kp := at_cell HI5.out (j := p) (by omega)) | (refine wpList_append_own _ rfl (.tmp 94) (.tmp 96) 26 rfl ws.heap.size 72 i0 (.agg #[.int .i64 0, .int .i64 0, .int .i64 0, .int .i64 0]) 4 32 Tryd.underlying26 hi hz0 hz1 hz2 rfl (by decide) (.slice (some ⟨g1, 0, none⟩) M c1) M (nodCells (leftN l R k)) rfl (World.ownsRow.alloc (World.ownsRow.alloc HN5.out _) _) ⟨w5.heap.size + 1, 0, none⟩ 1 1 (nodCells [(o, u, ((cntK R p : Nat) : Int), (-1))]) rfl rfl (nod_blk (blkAt (by simp))) (nodCells_one _) (by unfold maxLen; omega) (by omega) (by simp; omega) ?_; intro v2 w6 hown2 hgrow2 _))
                  obtain ⟨g6, c6, rfl⟩ := nod_more hown2
                  have HZ6 : Hid (Below ws.heap.size ws w6) := ((HZ5.out.alloc hz5 _).alloc (by simp; omega) _).grown hgrow2 (by simp; omega) (fun x hx => (HN5.out.lt x hx).1)
                  have HI6 : Hid (OwnI w6 ws.heap.size (some ⟨g5, 0, none⟩) (k + 1) c5 (atL R (k + 1))) := World.ownsRow.kept (World.ownsRow.alloc (World.ownsRow.alloc HI5.out _) _) hgrow2 (rows_apart HI5.out HN5.out (by decide))
                  have HN6 : Hid (OwnN w6 ws.heap.size (some ⟨g6, 0, none⟩) (M + 1) c6 (leftN l R (k + 1))) := by
                    show OwnN _ _ _ _ _ _
                    rw [HLN.out, HV.out]
                    exact nod_snoc hown2
                  clear hown2 hgrow2 hown' hgrow l1 l2 l3 l4 q5
                  go_wp2
                  go_roundw
                  case rel => exact ⟨k + 1, M + 1, g6, c6, g5, c5, by omega, by go_num, rfl, rfl, HM2.out, by omega, HN6.out, HI6.out, HZ6.out⟩
                  case measure => simp [intOf]; omega
                · obtain ⟨r, rfl⟩ : ∃ r : Nat, y = r := ⟨y.toNat, by omega⟩
                  have hrk : r < k + 1 := by omega
                  have hrk' : (r : Int) < ((k + 1 : Nat) : Int) := by omega
                  have HV : Hid ((o, u, newOp R ((p : Nat) : Int), newOp R ((r : Nat) : Int)) = (o, u, ((cntK R p : Nat) : Int), ((cntK R r : Nat) : Int))) := by show _ = _; simp [newOp]
                  go_wp2_with (at_builtin; first | (refine wpList_append_own _ rfl (.tmp 62) (.tmp 65) 40 rfl ws.heap.size 3 j0 (.int .i64 0) 1 8 Tryd.underlying40 ji jz0 jz1 jz2 rfl (by decide) (.slice (some ⟨g2, 0, none⟩) k c3) k ((atL R k).map (Value.int .i64)) rfl (World.ownsRow.alloc hown _) ⟨wr.heap.size, 0, none⟩ 1 1 [.int .i64 M] rfl rfl (cell_one_new _ _ _) (fun u hu => by simp at hu; subst hu; rfl) (by unfold maxLen; omega) (by omega) (by simp; omega) ?_; intro v' w5 hown' hgrow _; obtain ⟨g5, c5, rfl⟩ := int_more hown'; obtain ⟨HN5, HI5, HZ5, q5, l1, l2, l3, l4⟩ := HSTEP.out w5 _ hown' hgrow; have hz5 := HZ5.out.size; have kp := at_cell HI5.out (j := p) (by omega); have kr := at_cell HI5.out (j := r) (by omega)) | (refine wpList_append_own _ rfl (.tmp 94) (.tmp 96) 26 rfl ws.heap.size 72 i0 (.agg #[.int .i64 0, .int .i64 0, .int .i64 0, .int .i64 0]) 4 32 Tryd.underlying26 hi hz0 hz1 hz2 rfl (by decide) (.slice (some ⟨g1, 0, none⟩) M c1) M (nodCells (leftN l R k)) rfl (World.ownsRow.alloc (World.ownsRow.alloc HN5.out _) _) ⟨w5.heap.size + 1, 0, none⟩ 1 1 (nodCells [(o, u, ((cntK R p : Nat) : Int), ((cntK R r : Nat) : Int))]) rfl rfl (nod_blk (blkAt (by simp))) (nodCells_one _) (by unfold maxLen; omega) (by omega) (by simp; omega) ?_; intro v2 w6 hown2 hgrow2 _))
                  obtain ⟨g6, c6, rfl⟩ := nod_more hown2
                  have HZ6 : Hid (Below ws.heap.size ws w6) := ((HZ5.out.alloc hz5 _).alloc (by simp; omega) _).grown hgrow2 (by simp; omega) (fun x hx => (HN5.out.lt x hx).1)
                  have HI6 : Hid (OwnI w6 ws.heap.size (some ⟨g5, 0, none⟩) (k + 1) c5 (atL R (k + 1))) := World.ownsRow.kept (World.ownsRow.alloc (World.ownsRow.alloc HI5.out _) _) hgrow2 (rows_apart HI5.out HN5.out (by decide))
                  have HN6 : Hid (OwnN w6 ws.heap.size (some ⟨g6, 0, none⟩) (M + 1) c6 (leftN l R (k + 1))) := by
                    show OwnN _ _ _ _ _ _
                    rw [HLN.out, HV.out]
                    exact nod_snoc hown2
                  clear hown2 hgrow2 hown' hgrow l1 l2 l3 l4 q5
                  go_wp2
                  go_roundw
                  case rel => exact ⟨k + 1, M + 1, g6, c6, g5, c5, by omega, by go_num, rfl, rfl, HM2.out, by omega, HN6.out, HI6.out, HZ6.out⟩
                  case measure => simp [intOf]; omega
          · obtain rfl : k = n := by omega
            obtain ⟨wt, hwt⟩ : ∃ X, X = wr := ⟨_, rfl⟩
            subst hwt
            have hws := HB.out.size
            have HBT : Hid (Below w.heap.size w wt) := HB.out.trans (HZ.out.mono hws)
            have hwt := HBT.out.size
            have HIST := Lib.hid (HIS.out.below (HBT.out.mono hB2))
            have hg2l : g2 < wt.heap.size := (HI1.out.lt g2 rfl).2
            have HS9 : Hid (OwnI (wt.alloc (.cells #[] 3)) wt.heap.size (some ⟨wt.heap.size, 0, none⟩) 0 0 ((is.take 0).map fun r => ((cntK R r.toNat : Nat) : Int))) := World.ownsRow_made wt #[] 0 (Nat.le_refl _) (by simp [maxLen]) (by simp)
            have HB9 : Hid (Below wt.heap.size wt (wt.alloc (.cells #[] 3))) := (Below.refl _ _).alloc (Nat.le_refl _) _
            go_wp2
            go_loopw [15, 16] (fun v i wz => ∃ (p g9 c9 : Nat), p ≤ q ∧ i = .int .i64 p ∧ v = .slice (some ⟨g9, 0, none⟩) p c9 ∧ Hid (OwnI wz wt.heap.size (some ⟨g9, 0, none⟩) p c9 ((is.take p).map fun r => ((cntK R r.toNat : Nat) : Int))) ∧ Hid (Below wt.heap.size wt wz)) (fun _ i _ => q - (intOf i).toNat)
            case atStart => exact ⟨0, wt.heap.size, 0, Nat.zero_le _, rfl, rfl, HS9.out, HB9.out⟩
            case round =>
              clear HS9 HB9
              obtain ⟨p, g9, c9, hp, rfl, rfl, HO9, HB9⟩ := hrel
              by_cases hlt : p < q
              · obtain ⟨b3, off3, hA3', hb3, hc3⟩ := HIST.out.2 (by omega)
                subst hA3'
                have z1 := hc3 p hlt
                have hpl : p < is.length := by rw [HIST.out.1]; exact hlt
                obtain ⟨h0, h1⟩ := idx_at HIX.out hpl
                have htk : (is.take (p + 1)).map (fun r => ((cntK R r.toNat : Nat) : Int)) = (is.take p).map (fun r => ((cntK R r.toNat : Nat) : Int)) ++ [((cntK R (is.getD p 0).toNat : Nat) : Int)] := by
                  rw [List.take_add_one, List.getElem?_eq_getElem hpl, List.map_append]
                  simp [List.getD_eq_getElem?_getD, hpl]
                obtain ⟨x, hx⟩ : ∃ x, is.getD p 0 = x := ⟨_, rfl⟩
                rw [hx] at z1 h0 h1 htk
                obtain ⟨j, rfl⟩ : ∃ j : Nat, x = j := ⟨x.toNat, by omega⟩
                have hjn : j < k := by omega
                rw [Int.toNat_natCast] at htk
                have hszz := HB9.out.size
                have k1 := (HB9.out.cell (p := ⟨b3, off3 + p, none⟩) (by show b3 < _; omega)).trans z1
                have k2 : wr.cell? ⟨g2, j, none⟩ = some (.int .i64 ((cntK R j : Nat) : Int)) := by
                  have h := at_cell HI1.out hjn (.cells #[] 3)
                  have e := ((Below.refl wt.heap.size wt).alloc (Nat.le_refl _) (.cells #[] 3)).cell (p := ⟨g2, j, none⟩) hg2l
                  exact (HB9.out.cell (p := ⟨g2, j, none⟩) hg2l).trans (e.symm.trans h)
                have HTK := Lib.hid htk
                obtain ⟨y, hy⟩ : ∃ y : Nat, cntK R j = y := ⟨_, rfl⟩
                rw [hy] at k2 HTK
                have hown := HO9.out
                clear z1 hx htk hc3 hy
                go_wp2_with (at_builtin; refine wpList_append_own _ rfl (.tmp 105) (.tmp 113) 40 rfl wt.heap.size 3 j0 (.int .i64 0) 1 8 Tryd.underlying40 ji jz0 jz1 jz2 rfl (by decide) (.slice (some ⟨g9, 0, none⟩) p c9) p (((is.take p).map fun r => ((cntK R r.toNat : Nat) : Int)).map (Value.int .i64)) rfl (World.ownsRow.alloc hown _) ⟨wr.heap.size, 0, none⟩ 1 1 [.int .i64 y] rfl rfl (cell_one_new _ _ _) (fun u hu => by simp at hu; subst hu; rfl) (by unfold maxLen; omega) (by omega) (by simp; omega) ?_; intro v' wq hown' hgrow _)
                obtain ⟨g4, c4, rfl⟩ := int_more hown'
                have HB4 : Hid (Below wt.heap.size wt wq) := (HB9.out.alloc hszz _).grown hgrow (by simp; omega) (fun k h => (hown.lt k h).1)
                have HO4 : Hid (OwnI wq wt.heap.size (some ⟨g4, 0, none⟩) (p + 1) c4 ((is.take (p + 1)).map fun r => ((cntK R r.toNat : Nat) : Int))) := by
                  show OwnI _ _ _ _ _ _
                  rw [HTK.out]
                  simpa [OwnI] using hown'
                clear hown hown' hgrow HO9 HB9 HTK k1 k2
                go_wp2
                go_roundw
                case rel => exact ⟨p + 1, g4, c4, by omega, by go_num, rfl, HO4.out, HB4.out⟩
                case measure => simp [intOf]; omega
              · obtain rfl : p = q := by omega
                have HON : Hid (OwnN wr w.heap.size (some ⟨g1, 0, none⟩) M c1 (leftN l R k)) := own_base (own_below' HN1.out HB9.out) (by omega)
                have HOI : Hid (OwnI wr w.heap.size (some ⟨g9, 0, none⟩) p c9 (is.map fun r => ((cntK R r.toNat : Nat) : Int))) := by
                  have h := HO9.out
                  rw [List.take_of_length_le (by rw [HIST.out.1]; exact Nat.le_refl _)] at h
                  exact own_base h hwt
                have HBZ : Hid (Below w.heap.size w wr) := HBT.out.trans (HB9.out.mono hwt)
                have HL1 : Hid ((leftN l R k).length = M) := by show _ = _; rw [leftN_len]; exact HM.out
                have HL2 : Hid ((is.map fun r => ((cntK R r.toNat : Nat) : Int)).length = p) := by show _ = _; rw [List.length_map, HIST.out.1]
                go_wp2
                go_ret3
                rw [HPN.out, HPI.out, HOKK.out]
                refine ⟨some ⟨g1, 0, none⟩, c1, some ⟨g9, 0, none⟩, c9, ?_, ?_, ?_, HBZ.out⟩
                · rw [HL1.out, HL2.out]; rfl
                · rw [HL1.out]; exact HON.out
                · rw [HL2.out]; exact HOI.out
end Go.Proofs.YtfmhmnpmdjpmeaaDoor
