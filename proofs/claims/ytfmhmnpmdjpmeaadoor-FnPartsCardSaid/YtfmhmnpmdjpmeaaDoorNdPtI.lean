/- The arena's keep: the walk. -/
/- The arena's kept; ArenaParts of the program. -/
/- ArenaParts of the program. -/
import Derived.Test.YtfmhmnpmdjpmeaaDoorNdKeep

namespace Go.Proofs.YtfmhmnpmdjpmeaaDoor
open Go.RowKit Go.Maps

set_option maxRecDepth 100000 in
set_option maxHeartbeats 6000000 in
theorem keep_any (w : World) (base g m : Nat) (A : Option Addr) (n c : Nat) (D : DataW Unit) (l : List Nd) (B2 : Nat) (A2 : Option Addr) (n2 c2 : Nat) (is : List Int) (hA : ArO w base g m A n c D l) (hall : NdAll l n) (hn : n ≤ 200) (hbase : base ≤ w.heap.size) (hB2 : B2 ≤ w.heap.size) (his : IntR w B2 A2 n2 is) (hn2 : n2 ≤ 1048576) (hidx : idxR n is = true) :
    Calls Tryd.prog 80 #[.pointer (some ⟨g, 0, none⟩), .slice A2 n2 c2] w fun e w' => e = .returned (.tuple #[]) ∧ Below base w w' ∧ ∃ D', ArK w' base g m A n c D' l ∧ KeptTo l n (is.foldl bit1 fun _ => false) 0 D' := by
  have hmk := make_bits n (by omega)
  rw [bits_made] at hmk
  have hb1 : Below w.heap.size w (w.alloc (.cells (bitA (fun _ => false) n) 4)) := (Below.refl _ _).alloc (Nat.le_refl _) _
  have HG1 : Hid (Blk (w.alloc (.cells (bitA (fun _ => false) n) 4)) w.heap.size 4 (bitA ((is.take 0).foldl bit1 fun _ => false) n)) := Blk.made _ _ _
  have hK0 : ArK w base g m A n c D l := ⟨hA.box, hA.row, hA.map⟩
  have HK1 : Hid (ArK (w.alloc (.cells (bitA (fun _ => false) n) 4)) base g m A n c D l) := hK0.below hb1
  have HB1 := Lib.hid hb1
  have HKT : Hid (KeptTo l n (is.foldl bit1 fun _ => false) n D) := kept_start hA.len hn hall hA.gn
  have HIS := Lib.hid his
  have HIX := Lib.hid hidx
  have HALL := Lib.hid hall
  have HLEN := Lib.hid hA.len
  have HBG := Lib.hid hA.bg
  have HBM := Lib.hid hA.bm
  have hgl := hA.box.lt
  have k0 := hA.box.cell 0
  simp at k0
  clear hA hall his hidx hK0 hb1
  go_enter Tryd.func80, Tryd.ntmps80
  go_wp2
  go_loopw [18] (fun i wr => ∃ q : Nat, q ≤ n2 ∧ i = .int .i64 q ∧ Hid (Blk wr w.heap.size 4 (bitA ((is.take q).foldl bit1 fun _ => false) n)) ∧ Hid (ArK wr base g m A n c D l) ∧ Hid (Below w.heap.size w wr)) (fun i _ => n2 - (intOf i).toNat)
  case atStart => exact ⟨0, Nat.zero_le _, rfl, HG1.out, HK1.out, HB1.out⟩
  case round =>
    clear HG1 HK1 HB1 hmk
    obtain ⟨q, hq, rfl, HG, HK, HB⟩ := hrel
    by_cases hlt : q < n2
    · obtain ⟨b, off, rfl, hb, hc⟩ := HIS.out.2 (by omega)
      have x1 := hc q hlt
      obtain ⟨h0, h1⟩ := idx_at HIX.out (q := q) (by rw [HIS.out.1]; exact hlt)
      have hfold := bits_fold is q (by rw [HIS.out.1]; exact hlt) (fun _ => false)
      obtain ⟨x, hx⟩ : ∃ x, is.getD q 0 = x := ⟨_, rfl⟩
      rw [hx] at x1 h0 h1 hfold
      have k1 := (HB.out.cell (p := ⟨b, off + q, none⟩) (by show b < _; omega)).trans x1
      obtain ⟨p, rfl⟩ : ∃ p : Nat, x = p := ⟨x.toNat, by omega⟩
      have hpn : p < n := by omega
      have hf := HG.out.thawed p
      have he : wr.cell? ⟨w.heap.size, p, none⟩ = some (.bool (((is.take q).foldl bit1 fun _ => false) p)) := (HG.out.cell p).trans (bitA_get _ hpn)
      have HG2 : Hid (Blk (wr.setCell ⟨w.heap.size, p, none⟩ (.bool true)) w.heap.size 4 (bitA ((is.take (q + 1)).foldl bit1 fun _ => false) n)) := by
        show Blk _ _ _ _
        have h := HG.out.put p (.bool true)
        rw [bitA_set] at h
        rw [hfold]
        exact h
      have HK2 : Hid (ArK (wr.setCell ⟨w.heap.size, p, none⟩ (.bool true)) base g m A n c D l) := HK.out.bit HG.out _
      have HB2 : Hid (Below w.heap.size w (wr.setCell ⟨w.heap.size, p, none⟩ (.bool true))) := Below.setCell HB.out (p := ⟨w.heap.size, p, none⟩) (Nat.le_refl _) _
      clear x1 hx hfold HG HK HB hc
      go_wp2
      go_roundw
      case rel => exact ⟨q + 1, by omega, by go_num, HG2.out, HK2.out, HB2.out⟩
      case measure => simp [intOf]; omega
    · obtain rfl : q = n2 := by omega
      obtain ⟨f0, hf0⟩ : ∃ f0, (is.foldl bit1 fun _ => false) = f0 := ⟨_, rfl⟩
      have HF0 := Lib.hid hf0
      have HG2 : Hid (Blk wr w.heap.size 4 (bitA (needD l n f0 (n - n)) n)) := by
        have h := HG.out
        rw [List.take_of_length_le (by rw [HIS.out.1]; exact Nat.le_refl _), hf0] at h
        show Blk _ _ _ _
        rw [Nat.sub_self]
        exact h
      rw [hf0] at HKT
      have HBB : Hid (Below base w wr) := HB.out.mono hbase
      have hs0 : w.heap.size < wr.heap.size := HG.out.lt
      have k1 := HK.out.box.cell 0
      simp at k1
      clear hf0 HG HB HIS HIX k0
      obtain ⟨ws, hws⟩ : ∃ X, X = wr := ⟨_, rfl⟩
      subst hws
      go_wp2
      go_loopw [7] (fun v wy => ∃ (mm : Nat) (z : Int) (D' : DataW Unit), mm ≤ n ∧ v = .int .i64 z ∧ z = (mm : Int) - 1 ∧ Hid (Blk wy w.heap.size 4 (bitA (needD l n f0 (n - mm)) n)) ∧ Hid (ArK wy base g m A n c D' l) ∧ Hid (KeptTo l n f0 mm D') ∧ Hid (Below base w wy) ∧ w.heap.size < wy.heap.size) (fun v _ => (intOf v + 1).toNat)
      case atStart => exact ⟨n, (n : Int) - 1, D, Nat.le_refl _, by go_num, rfl, HG2.out, HK.out, HKT.out, HBB.out, hs0⟩
      case round =>
        clear HG2 HK HKT HBB k1 hs0
        obtain ⟨mm, z, D', hmm, rfl, hz, HG, HK, HKT, HB, hs⟩ := hrel
        by_cases hm0 : mm = 0
        · subst hm0
          have dz : decide (0 ≤ z) = false := decide_eq_false (by omega)
          clear hz
          go_wp2
          go_end0
          rw [HF0.out]
          exact ⟨rfl, HB.out, D', HK.out, HKT.out⟩
        · obtain ⟨k, rfl⟩ : ∃ k, mm = k + 1 := ⟨mm - 1, by omega⟩
          obtain rfl : z = (k : Int) := by omega
          have hkn : k < n := by omega
          have hkn' : (k : Int) < n := by omega
          clear hz hm0
          have q1 : wr.cell? ⟨w.heap.size, k, none⟩ = some (.bool (needD l n f0 (n - (k + 1)) k)) := (HG.out.cell k).trans (bitA_get _ hkn)
          obtain ⟨b, off, hA0, hb, hc⟩ := (OwnN.reads HK.out.row).2 (by omega)
          subst hA0
          obtain ⟨x1, x2, x3, x4⟩ := hc k hkn
          obtain ⟨t, ht⟩ : ∃ t, l.getD k nd0 = t := ⟨_, rfl⟩
          rw [ht] at x1 x2 x3 x4
          obtain ⟨o, u, a, y⟩ := t
          have k0 := HK.out.box.cell 0
          have k1 := HK.out.box.cell 1
          simp at k0 k1
          have hgl2 := HK.out.box.lt
          cases hFk : needD l n f0 (n - (k + 1)) k with
          | false =>
            rw [hFk] at q1
            have HKT2 : Hid (KeptTo l n f0 k (D'.del (nk (o, u, a, y)))) := by
              have h := kept_drop HLEN.out hn HALL.out hkn HKT.out hFk
              rw [ht] at h
              exact h
            have hwf : ndWf (o, u, a, y) := by
              have h := nd_wf HALL.out hn hkn
              rw [ht] at h
              exact h
            have hkey := nk_key hwf
            have hownD : wr.drew.ownsMap Tryd.prog 72 (plainElem Tryd.prog 3) m n D' := HK.out.map.drew
            have HND : Hid (needD l n f0 (n - k) = needD l n f0 (n - (k + 1))) := by
              show _ = _
              rw [kept_step hkn]
              unfold needN
              rw [if_neg (by rw [hFk]; decide)]
            clear hFk ht hc hwf
            go_wp2_with fail
            refine region_tail 11 (by kernel_rfl) (by kernel_rfl) ?_
            simp only [List.take_succ_cons, List.take_zero, List.drop_succ_cons, List.drop_zero]
            repeat still_step
            refine wpStill_nil ?_
            refine wpList_delete_own _ rfl _ _ 83 72 rfl 3 lawNd Tryd.underlying83 _ m n _ rfl hownD _ _ rfl hkey ?_
            intro w3 hown3 hturn3
            have hg3 := hturn3.grown
            have HK3 : Hid (ArK w3 base g m (some ⟨b, off, none⟩) n c (D'.del (nk (o, u, a, y))) l) :=
              ⟨Blk.grown (show Blk wr.drew g _ _ from HK.out.box) hg3 (fun x => map_apart HK.out.map HK.out.box (Option.some.inj x)), World.ownsRow.kept (show wr.drew.ownsRow _ _ _ _ _ _ from HK.out.row) hg3 (.inr (fun x => map_row HK.out.map HK.out.row x.symm)), hown3⟩
            have HG3 : Hid (Blk w3 w.heap.size 4 (bitA (needD l n f0 (n - k)) n)) := by
              show Blk _ _ _ _
              rw [HND.out]
              exact Blk.grown (show Blk wr.drew w.heap.size _ _ from HG.out) hg3 (fun x => map_apart HK.out.map HG.out (Option.some.inj x))
            have HB3 : Hid (Below base w w3) := HB.out.drew.grown hg3 (by show base ≤ wr.heap.size; omega) (fun x e => by have e' := Option.some.inj e; have := HBM.out; omega)
            have hs3 : w.heap.size < w3.heap.size := HG3.out.lt
            clear hown3 hturn3 hg3 hownD hkey x1 x2 x3 x4 k0 k1 q1 HG HK HB HKT HND hs hgl2
            go_wp2
            go_roundw
            case rel => exact ⟨k, (k : Int) - 1, _, by omega, by go_num, rfl, HG3.out, HK3.out, HKT2.out, HB3.out, hs3⟩
            case measure => simp [intOf]
          | true =>
            have hok := (HALL.out k hkn).1
            rw [ht] at hok
            have HOK := Lib.hid hok
            have HKT2 : Hid (KeptTo l n f0 k D') := kept_stay HALL.out hkn HKT.out hFk
            obtain ⟨F, hF⟩ : ∃ F, needD l n f0 (n - (k + 1)) = F := ⟨_, rfl⟩
            have HND : Hid (needD l n f0 (n - k) = (opsR a y).foldl bit1 F) := by
              show _ = _
              rw [kept_step hkn, hF, foldl_ops]
              rw [hF] at hFk
              unfold needN
              rw [if_pos hFk, ht]
            rw [hFk] at q1
            rw [hF] at HG
            clear hFk hF ht hc hok HKT
            go_wp2_with fail
            refine (operands_any wr o u a y).mono ?_
            rintro e w3 ⟨A3, c3, rfl, ho3, hb3⟩
            obtain ⟨M, hM⟩ : ∃ M, (opsR a y).length = M := ⟨_, rfl⟩
            rw [hM] at ho3
            rw [hM]
            have hbz : 0 ≤ wr.heap.size := Nat.zero_le _
            have HR3 : Hid (OwnI w3 0 A3 M c3 (opsR a y)) := own_base ho3 hbz
            have HG3 : Hid (Blk w3 w.heap.size 4 (bitA (((opsR a y).take 0).foldl bit1 F) n)) := HG.out.below hb3 hs
            have HK3 := Lib.hid (HK.out.below hb3)
            have HB3 : Hid (Below base w w3) := HB.out.trans (hb3.mono (by omega))
            have hs3 : w.heap.size < w3.heap.size := HG3.out.lt
            have HM := Lib.hid hM
            have hM1 : M ≤ 2 := by rw [← hM]; exact opsTo_len a y 2
            clear ho3 hb3 hbz x1 x2 x3 x4 k0 k1 q1 HG HK HB hs hgl2 hM
            obtain ⟨ws3, hws3⟩ : ∃ X, X = w3 := ⟨_, rfl⟩
            subst hws3
            go_wp2
            go_loopw [61] (fun i wz => ∃ q : Nat, q ≤ M ∧ i = .int .i64 q ∧ Hid (Blk wz w.heap.size 4 (bitA (((opsR a y).take q).foldl bit1 F) n)) ∧ Hid (ArK wz base g m (some ⟨b, off, none⟩) n c D' l) ∧ Hid (Below base w wz) ∧ Hid (OwnI wz 0 A3 M c3 (opsR a y)) ∧ w.heap.size < wz.heap.size) (fun i _ => M - (intOf i).toNat)
            case atStart => exact ⟨0, Nat.zero_le _, rfl, HG3.out, HK3.out, HB3.out, HR3.out, hs3⟩
            case round =>
              clear HG3 HK3 HB3 HR3 hs3
              obtain ⟨q, hq, rfl, HG, HK, HB, HR, hs⟩ := hrel
              by_cases hlt : q < M
              · obtain ⟨b3, off3, hA3, hb3, hc3⟩ := (OwnI.reads HR.out).2 (by omega)
                subst hA3
                have x1 := hc3 q hlt
                obtain ⟨h0, h1⟩ := ops_at HOK.out (q := q) (by rw [HM.out]; exact hlt)
                have hfold := bits_fold (opsR a y) q (by rw [HM.out]; exact hlt) F
                obtain ⟨x, hx⟩ : ∃ x, (opsR a y).getD q 0 = x := ⟨_, rfl⟩
                rw [hx] at x1 h0 h1 hfold
                obtain ⟨p, rfl⟩ : ∃ p : Nat, x = p := ⟨x.toNat, by omega⟩
                have hpn : p < n := by omega
                have hpn' : (p : Int) < n := by omega
                have hf := HG.out.thawed p
                have he : wr.cell? ⟨w.heap.size, p, none⟩ = some (.bool ((((opsR a y).take q).foldl bit1 F) p)) := (HG.out.cell p).trans (bitA_get _ hpn)
                obtain ⟨W5, hW5⟩ : ∃ X, wr.setCell ⟨w.heap.size, p, none⟩ (.bool true) = X := ⟨_, rfl⟩
                have HG2 : Hid (Blk W5 w.heap.size 4 (bitA (((opsR a y).take (q + 1)).foldl bit1 F) n)) := by
                  show Blk _ _ _ _
                  have h := HG.out.put p (.bool true)
                  rw [bitA_set, hW5] at h
                  rw [hfold]
                  exact h
                have HK2 : Hid (ArK W5 base g m (some ⟨b, off, none⟩) n c D' l) := by
                  show ArK _ _ _ _ _ _ _ _ _
                  rw [← hW5]
                  exact HK.out.bit HG.out _
                have HB2 : Hid (Below base w W5) := by
                  show Below _ _ _
                  rw [← hW5]
                  exact Below.setCell HB.out (p := ⟨w.heap.size, p, none⟩) hbase _
                have HR2 : Hid (OwnI W5 0 (some ⟨b3, off3, none⟩) M c3 (opsR a y)) := by
                  show OwnI _ _ _ _ _ _
                  rw [← hW5]
                  exact own_store HR.out (p := ⟨w.heap.size, p, none⟩) (own_apart HR.out HG.out (by decide)) _
                have hs2 : w.heap.size < W5.heap.size := HG2.out.lt
                clear hx hfold HG HK HB HR hc3 hs
                go_wp2
                go_roundw
                case rel => exact ⟨q + 1, by omega, by go_num, HG2.out, HK2.out, HB2.out, HR2.out, hs2⟩
                case measure => simp [intOf]; omega
              · obtain rfl : q = M := by omega
                have HG2 : Hid (Blk wr w.heap.size 4 (bitA (needD l n f0 (n - k)) n)) := by
                  show Blk _ _ _ _
                  have h := HG.out
                  rw [List.take_of_length_le (by rw [HM.out]; exact Nat.le_refl _)] at h
                  rw [HND.out]
                  exact h
                clear HG HR HND HM
                go_wp2
                go_roundw
                case rel => exact ⟨k, (k : Int) - 1, D', by omega, by go_num, rfl, HG2.out, HK.out, HKT2.out, HB.out, hs⟩
                case measure => simp [intOf]
end Go.Proofs.YtfmhmnpmdjpmeaaDoor

namespace Go.Proofs.YtfmhmnpmdjpmeaaDoor
open Go.RowKit Go.Maps

set_option maxRecDepth 100000 in
set_option maxHeartbeats 4000000 in
theorem kept_any (w : World) (base g m : Nat) (A : Option Addr) (n c : Nat) (D : DataW Unit) (l : List Nd) (R : Nat → Bool) (hK : ArK w base g m A n c D l) (hall : NdAll l n) (hn : n ≤ 200) (hR : ∀ j, j < n → Maps.has D (nk (l.getD j nd0)) = R j) :
    Calls Tryd.prog 81 #[.pointer (some ⟨g, 0, none⟩)] w fun e w' => ∃ A' c', e = .returned (.slice A' (pickTo R n).length c') ∧ OwnI w' w.heap.size A' (pickTo R n).length c' (pickTo R n) ∧ Below w.heap.size w w' := by
  obtain ⟨i0, hi, hz0, hz1, hz2⟩ := info_parts info_int
  have HK := Lib.hid hK
  have HALL := Lib.hid hall
  have HR := Lib.hid hR
  have k0 := hK.box.cell 0
  simp at k0
  have hgl := hK.box.lt
  have HS : Hid (OwnI w w.heap.size none 0 0 (pickTo R 0)) := World.ownsRow_nil _ _ _ _
  clear hK hall hR
  go_enter Tryd.func81, Tryd.ntmps81
  go_wp2
  go_loopw [3, 13] (fun v i wr => ∃ (k M : Nat) (A' : Option Addr) (c' : Nat), k ≤ n ∧ i = .int .i64 k ∧ v = .slice A' M c' ∧ Hid ((pickTo R k).length = M) ∧ M ≤ k ∧ Hid (OwnI wr w.heap.size A' M c' (pickTo R k)) ∧ Hid (Below w.heap.size w wr)) (fun _ i _ => n - (intOf i).toNat)
  case atStart => exact ⟨0, 0, none, 0, by omega, rfl, rfl, rfl, Nat.le_refl _, HS.out, Below.refl _ _⟩
  case round =>
    clear HS k0
    obtain ⟨k, M, A', c', hk, rfl, rfl, HM, hMk, HO, HB⟩ := hrel
    have hsr := HB.out.size
    by_cases hlt : k < n
    · have hKr := HK.out.below HB.out
      obtain ⟨b, off, hA0, hb, hc⟩ := (OwnN.reads hKr.row).2 (by omega)
      subst hA0
      obtain ⟨x1, x2, x3, x4⟩ := hc k hlt
      obtain ⟨t, ht⟩ : ∃ t, l.getD k nd0 = t := ⟨_, rfl⟩
      have hwf := nd_wf HALL.out hn hlt
      have hRk := HR.out k hlt
      rw [ht] at x1 x2 x3 x4 hwf hRk
      obtain ⟨o, u, a, y⟩ := t
      obtain ⟨W, hW⟩ : ∃ X, wr.alloc (.cells #[.int .i64 o, .int .i64 u, .int .i64 a, .int .i64 y] 72) = X := ⟨_, rfl⟩
      have hbW : Below wr.heap.size wr W := by rw [← hW]; exact (Below.refl _ _).alloc (Nat.le_refl _) _
      have hKW := hKr.below hbW
      have hbx : Blk W wr.heap.size 72 #[.int .i64 o, .int .i64 u, .int .i64 a, .int .i64 y] := by rw [← hW]; exact Blk.made _ _ _
      have y0 := hbx.cell 0
      have y1 := hbx.cell 1
      have y2 := hbx.cell 2
      have y3 := hbx.cell 3
      simp at y0 y1 y2 y3
      have k1 := hKW.box.cell 1
      simp at k1
      obtain ⟨v, ps, hrun, hv⟩ := hKW.map.drew.look_ok lawNd Tryd.underlying83 (zeroNd _) (plainElem_int Tryd.underlying3 (a := 0) (by decide)) (nk_key hwf)
      obtain ⟨z, rfl, -, -⟩ := plainElem_int_inv Tryd.underlying3 hv
      rw [hRk] at hrun
      have HBW : Hid (Below w.heap.size w W.drew) := (HB.out.trans (hbW.mono hsr)).drew
      have hsw : w.heap.size ≤ W.drew.heap.size := HBW.out.size
      have HOW : Hid (OwnI W.drew w.heap.size A' M c' (pickTo R k)) := own_below' HO.out hbW.drew
      clear hKr hKW hbx hbW hwf hRk ht hc HO HB hv
      cases hRv : R k with
      | false =>
        rw [hRv] at hrun
        have HP : Hid (pickTo R (k + 1) = pickTo R k) := by
          show _ = _
          rw [pickTo, if_neg (by rw [hRv]; decide)]
        clear hRv
        go_wp2_with fail
        go_region
        go_wp2
        go_roundw
        case rel => exact ⟨k + 1, M, A', c', by omega, by go_num, rfl, by rw [HP.out]; exact HM, by omega, by rw [HP.out]; exact HOW, HBW⟩
        case measure => simp [intOf]; omega
      | true =>
        rw [hRv] at hrun
        have HP : Hid (pickTo R (k + 1) = pickTo R k ++ [(k : Int)]) := by
          show _ = _
          rw [pickTo, if_pos hRv]
        have hown := HOW.out
        clear hRv
        go_wp2_with fail
        go_region
        obtain ⟨V, hV⟩ : ∃ X, W.drew = X := ⟨_, rfl⟩
        rw [hV] at hown HBW hsw ⊢
        clear hrun hW y0 y1 y2 y3 k1 hV HOW
        go_wp2_with (at_builtin; refine wpList_append_own _ rfl (.tmp 28) (.tmp 30) 40 rfl w.heap.size 3 i0 (.int .i64 0) 1 8 Tryd.underlying40 hi hz0 hz1 hz2 rfl (by decide) (.slice A' M c') M ((pickTo R k).map (Value.int .i64)) rfl (World.ownsRow.alloc hown _) ⟨V.heap.size, 0, none⟩ 1 1 [.int .i64 k] rfl rfl (cell_one_new _ _ _) (fun u hu => by simp at hu; subst hu; rfl) (by unfold maxLen; omega) (by omega) (by simp; omega) ?_; intro v' w3 hown' hgrow _)
        obtain ⟨g3, c3, rfl⟩ : ∃ g3 c3, v' = .slice (some ⟨g3, 0, none⟩) (M + 1) c3 := by
          rcases hown'.2 with ⟨_, h⟩ | ⟨g3, c3, _, h, _⟩
          · omega
          · exact ⟨g3, c3, h⟩
        have HB3 : Hid (Below w.heap.size w w3) := (HBW.out.alloc hsw _).grown hgrow (by simp; omega) (fun k h => (hown.lt k h).1)
        have HO3 : Hid (OwnI w3 w.heap.size (some ⟨g3, 0, none⟩) (M + 1) c3 (pickTo R (k + 1))) := by
          show OwnI _ _ _ _ _ _
          rw [HP.out]
          simpa [OwnI] using hown'
        have HM3 : Hid ((pickTo R (k + 1)).length = M + 1) := by
          show _ = _
          rw [HP.out, List.length_append, HM.out]
          rfl
        clear hown hown' hgrow HBW HM
        go_wp2
        go_roundw
        case rel => exact ⟨k + 1, M + 1, some ⟨g3, 0, none⟩, c3, by omega, by go_num, rfl, HM3.out, by omega, HO3.out, HB3.out⟩
        case measure => simp [intOf]; omega
    · obtain rfl : k = n := by omega
      have HOM : Hid (OwnI wr w.heap.size A' (pickTo R k).length c' (pickTo R k)) := by
        show OwnI _ _ _ _ _ _
        rw [HM.out]
        exact HO.out
      go_wp2
      go_ret
      refine ⟨A', c', ?_, HOM.out, HB.out⟩
      rw [HM.out]
      rfl
end Go.Proofs.YtfmhmnpmdjpmeaaDoor

namespace Go.Proofs.YtfmhmnpmdjpmeaaDoor
open Go.RowKit Go.Maps

/-- what a node consists of, where the list is right and has it -/
def partsR (l : List Nd) (n : Nat) (x : Int) : List Int := if (arenaOkR l && idxR n [x]) = true then pickTo (needR l x.toNat) (x.toNat + 1) else []
theorem partsR_len {l : List Nd} {n : Nat} {x : Int} : (partsR l n x).length ≤ n + 1 := by
  unfold partsR
  split
  · rename_i h
    rw [Bool.and_eq_true, idx_one, Bool.and_eq_true, decide_eq_true_eq, decide_eq_true_eq] at h
    have := pickTo_len (needR l x.toNat) (x.toNat + 1)
    omega
  · simp
/-- a row of ints of the call's own -/
def RowI (w : World) (out : List Int) (e : Ending) (w' : World) : Prop :=
  ∃ A c, e = .returned (.slice A out.length c) ∧ OwnI w' w.heap.size A out.length c out ∧ Below w.heap.size w w'
theorem specParts_any (w : World) (B : Nat) (A : Option Addr) (n c : Nat) (l : List Nd) (x : Int) (hB : B ≤ w.heap.size) (hl : NodR w B A n l) (hn : n ≤ 1048576) :
    Calls Tryd.prog 39 #[.slice A n c, .int .i64 x] w (RowI w (partsR l n x)) := by
  refine (specArenaParts_any w B A n c l x hB hl hn).mono ?_
  rintro e w' ⟨g, c', rfl, h2, h3⟩
  unfold partsR
  split
  · rename_i h
    rw [if_pos h, if_pos h] at h2
    exact ⟨_, _, rfl, h2, h3⟩
  · rename_i h
    rw [if_neg h, if_neg h] at h2
    exact ⟨_, _, rfl, h2, h3⟩

set_option maxRecDepth 100000 in
set_option maxHeartbeats 4000000 in
theorem implParts_any (w : World) (B : Nat) (A : Option Addr) (n c : Nat) (l : List Nd) (x : Int) (hB : B ≤ w.heap.size) (hl : NodR w B A n l) (hn : n ≤ 1048576) :
    Calls Tryd.prog 37 #[.slice A n c, .int .i64 x] w (RowI w (partsR l n x)) := by
  have hb0 : Below w.heap.size w (w.alloc (.cells #[.int .i64 x] 3)) := (Below.refl _ _).alloc (Nat.le_refl _) _
  obtain ⟨w0, hw0⟩ : ∃ X, w.alloc (.cells #[.int .i64 x] 3) = X := ⟨_, rfl⟩
  have hr0 : IntR w0 (w.heap.size + 1) (some ⟨w.heap.size, 0, none⟩) 1 [x] := by
    refine ⟨rfl, fun _ => ⟨w.heap.size, 0, rfl, by omega, fun k hk => ?_⟩⟩
    obtain rfl : k = 0 := by omega
    rw [← hw0]
    exact (Blk.made w 3 #[.int .i64 x]).cell 0
  have hs1 : w.heap.size + 1 ≤ w0.heap.size := by rw [← hw0]; simp
  rw [hw0] at hb0
  have HW0 := Lib.hid hw0
  clear hw0
  go_enter Tryd.func37, Tryd.ntmps37
  go_wp2_with fail
  rw [HW0.out]
  refine (arenaWith_any w0 B (w.heap.size + 1) A (some ⟨w.heap.size, 0, none⟩) n c 1 1 l [x] (by omega) hs1 (hl.below (hb0.mono hB)) hr0 hn (by omega)).mono ?_
  rintro e w1 ⟨rfl, hb1, hA⟩
  have HB1 := Lib.hid (hb0.trans (hb1.mono hb0.size))
  have hlen := hl.1
  clear hb0 hb1 hr0 HW0 hl
  cases hok : (arenaOkR l && idxR n [x]) with
  | false =>
    have HP : Hid (partsR l n x = []) := by show _ = _; unfold partsR; rw [if_neg (by rw [hok]; decide)]
    have HN : Hid (OwnI w1 w.heap.size none 0 0 []) := World.ownsRow_nil _ _ _ _
    clear hok hA
    unfold awV
    go_wp2
    go_ret
    rw [HP.out]
    exact ⟨none, 0, rfl, HN.out, HB1.out⟩
  | true =>
    obtain ⟨A', c', D', hA'⟩ := hA hok
    have HP : Hid (partsR l n x = pickTo (needR l x.toNat) (x.toNat + 1)) := by show _ = _; unfold partsR; rw [if_pos hok]
    have hix : idxR n [x] = true := by rw [Bool.and_eq_true] at hok; exact hok.2
    rw [Bool.and_eq_true, idx_one, Bool.and_eq_true, decide_eq_true_eq, decide_eq_true_eq] at hok
    obtain ⟨ha, h0, h1⟩ := hok
    unfold arenaOkR at ha
    rw [Bool.and_eq_true, decide_eq_true_eq, decide_eq_true_eq, hlen] at ha
    obtain ⟨hn2, hall⟩ := ha
    obtain ⟨i, rfl⟩ : ∃ i : Nat, x = i := ⟨x.toNat, by omega⟩
    have hin : i < n := by omega
    have HIX := Lib.hid hix
    have HALL := Lib.hid hall
    have hb2 : Below w1.heap.size w1 (w1.alloc (.cells #[.int .i64 i] 3)) := (Below.refl _ _).alloc (Nat.le_refl _) _
    obtain ⟨w2, hw2⟩ : ∃ X, w1.alloc (.cells #[.int .i64 i] 3) = X := ⟨_, rfl⟩
    rw [hw2] at hb2
    have hr2 : IntR w2 (w1.heap.size + 1) (some ⟨w1.heap.size, 0, none⟩) 1 [(i : Int)] := by
      refine ⟨rfl, fun _ => ⟨w1.heap.size, 0, rfl, by omega, fun k hk => ?_⟩⟩
      obtain rfl : k = 0 := by omega
      rw [← hw2]
      exact (Blk.made w1 3 #[.int .i64 i]).cell 0
    have hs2 : w1.heap.size + 1 ≤ w2.heap.size := by rw [← hw2]; simp
    have HA2 := Lib.hid (hA'.below hb2)
    have HB2 := Lib.hid (HB1.out.trans (hb2.mono HB1.out.size))
    have HR2 := Lib.hid hr2
    have HW2 := Lib.hid hw2
    have hbs : w0.heap.size ≤ w2.heap.size := by
      have h := HA2.out.box.lt
      omega
    clear hA hA' hix hall hb2 hr2 hw2 h0 h1
    unfold awV
    go_wp2_with fail
    rw [HW2.out]
    refine (keep_any w2 w0.heap.size (w0.heap.size + 1) w0.heap.size A' n c' D' l (w1.heap.size + 1) (some ⟨w1.heap.size, 0, none⟩) 1 1 [(i : Int)] HA2.out HALL.out hn2 hbs hs2 HR2.out (by omega) HIX.out).mono ?_
    rintro e w3 ⟨rfl, hb3, D3, hK3, hT3⟩
    have HK3 := Lib.hid hK3
    have HB3 : Hid (Below w.heap.size w w3) := HB2.out.trans (hb3.mono (by omega))
    have HT3 : Hid (∀ j, j < n → Maps.has D3 (nk (l.getD j nd0)) = needR l i j) := by
      intro j hj
      have h := hT3 j hj
      rw [if_neg (by omega), Nat.sub_zero] at h
      rw [h]
      show needD l n (bit1 (fun _ => false) (i : Int)) n j = _
      rw [needD_all hin]
    have HAB : Hid (pickTo (needR l i) n = pickTo (needR l i) (i + 1)) := by
      show _ = _
      have h := pickTo_above (f := needR l i) (i := i) (fun j hj => needR_above (fun k hk => HALL.out k (by omega)) hj) (n - (i + 1))
      rw [show i + 1 + (n - (i + 1)) = n by omega] at h
      exact h
    clear hb3 hK3 hT3 HA2 HB2 HR2 HW2
    go_wp2_with fail
    refine (kept_any w3 w0.heap.size (w0.heap.size + 1) w0.heap.size A' n c' D3 l (needR l i) HK3.out HALL.out hn2 HT3.out).mono ?_
    rintro e w4 ⟨A4, c4, rfl, ho4, hb4⟩
    rw [HAB.out] at ho4
    have HO4 : Hid (OwnI w4 w.heap.size A4 (pickTo (needR l i) (i + 1)).length c4 (pickTo (needR l i) (i + 1))) := own_base ho4 HB3.out.size
    have HB4 := Lib.hid (HB3.out.trans (hb4.mono HB3.out.size))
    rw [HAB.out]
    clear ho4 hb4
    go_wp2
    go_ret
    rw [HP.out, Int.toNat_natCast]
    exact ⟨A4, c4, rfl, HO4.out, HB4.out⟩
end Go.Proofs.YtfmhmnpmdjpmeaaDoor
