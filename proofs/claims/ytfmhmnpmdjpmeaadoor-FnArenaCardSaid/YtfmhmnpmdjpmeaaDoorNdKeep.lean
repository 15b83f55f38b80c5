/- ArenaParts of the model. -/
/- The arena's keep: what the roots do not consist of is deleted from the map. -/
import Derived.Test.YtfmhmnpmdjpmeaaDoorNdOps
import Derived.Test.YtfmhmnpmdjpmeaaDoorNdOkS
import Derived.Maps.AppendAt
import Derived.Test.YtfmhmnpmdjpmeaaDoorCls

namespace Go.Proofs.YtfmhmnpmdjpmeaaDoor
open Go.RowKit

theorem info_bit : (Tryd.prog.info? 4).map (fun i => (i.zero, i.size, i.bytes)) = some (some (.bool false), 1, 1) := by kernel_rfl
theorem make_bits (n : Nat) (hn : n ≤ 1000) : ∀ wx, (Instr.makeSlice 109 (.int .i64 (n : Int)) (.int .i64 (n : Int))).run Tryd.prog wx = .ok (.slice (some ⟨wx.heap.size, 0, none⟩) n n) (wx.alloc (.cells (madeCells #[Value.bool false] n) 4)) := by
  obtain ⟨i0, hi, hz0, hz1, hz2⟩ := info_parts info_bit
  intro wx
  have hr := run_make (P := Tryd.prog) wx 109 4 i0 _ Tryd.underlying109 hi hz0 .i64 .i64 n n (by omega) (by omega) (by rw [hz2]; omega) (by omega)
  simp only [Int.toNat_natCast, hz1, Nat.mul_one] at hr
  exact hr
theorem bits_made (n : Nat) : madeCells #[Value.bool false] n = bitA (fun _ => false) n := by
  apply Array.ext_getElem?
  intro k
  by_cases hk : k < n
  · rw [bitA_get _ hk]
    simp [madeCells, hk, Nat.mod_one]
  · rw [Array.getElem?_eq_none (by simp [madeCells]; omega), Array.getElem?_eq_none (by rw [bitA_size]; omega)]
theorem idx_one (n : Nat) (x : Int) : idxR n [x] = (decide (0 ≤ x) && decide (x < n)) := by simp [idxR]

set_option maxRecDepth 100000 in
set_option maxHeartbeats 1600000 in
theorem l08Has_any (w : World) (B : Nat) (A : Option Addr) (n c : Nat) (l : List Nd) (x : Int) (hB : B ≤ w.heap.size) (hl : NodR w B A n l) (hn : n ≤ 1048576) :
    Calls Tryd.prog 61 #[.slice A n c, .int .i64 x] w fun e w' => e = .returned (.bool (arenaOkR l && idxR n [x])) ∧ Below w.heap.size w w' := by
  rw [idx_one]
  go_enter Tryd.func61, Tryd.ntmps61
  go_wp2_with fail
  refine (specArenaOk_any w B A n c l hB hl hn).mono ?_
  rintro e w1 ⟨rfl, hb1⟩
  have HB := Lib.hid hb1
  clear hb1 hl
  cases h : arenaOkR l with
  | false =>
    go_wp2
    go_ret
    exact ⟨by rw [h]; rfl, HB.out⟩
  | true =>
    by_cases h0 : 0 ≤ x
    · have d0 : decide (0 ≤ x) = true := decide_eq_true h0
      go_wp2
      go_ret
      exact ⟨by rw [h, d0]; rfl, HB.out⟩
    · have d0 : decide (0 ≤ x) = false := decide_eq_false h0
      go_wp2
      go_ret
      exact ⟨by rw [h, d0]; rfl, HB.out⟩

/-- what the model answers: a row of its own -/
def PartsS (w : World) (ok : Bool) (out : List Int) (e : Ending) (w' : World) : Prop :=
  ∃ g c, e = .returned (.slice (some ⟨g, 0, none⟩) (if ok = true then out.length else 0) c) ∧ OwnI w' w.heap.size (some ⟨g, 0, none⟩) (if ok = true then out.length else 0) c (if ok = true then out else []) ∧ Below w.heap.size w w'

set_option maxRecDepth 100000 in
set_option maxHeartbeats 4000000 in
theorem specArenaParts_any (w : World) (B : Nat) (A : Option Addr) (n c : Nat) (l : List Nd) (x : Int) (hB : B ≤ w.heap.size) (hl : NodR w B A n l) (hn : n ≤ 1048576) :
    Calls Tryd.prog 39 #[.slice A n c, .int .i64 x] w (PartsS w (arenaOkR l && idxR n [x]) (pickTo (needR l x.toNat) (x.toNat + 1))) := by
  obtain ⟨ok, hok⟩ : ∃ ok, (arenaOkR l && idxR n [x]) = ok := ⟨_, rfl⟩
  rw [hok]
  have HS0 : Hid (OwnI (w.alloc (.cells #[] 3)) w.heap.size (some ⟨w.heap.size, 0, none⟩) 0 0 []) := World.ownsRow_made w #[] 0 (Nat.le_refl _) (by simp [maxLen]) (by simp)
  obtain ⟨w0, hw0⟩ : ∃ X, X = w.alloc (.cells #[] 3) := ⟨_, rfl⟩
  rw [← hw0] at HS0
  have hb0 : Below w.heap.size w w0 := by rw [hw0]; exact (Below.refl _ _).alloc (Nat.le_refl _) _
  have hl0 := hl.below (hb0.mono hB)
  have hs0 := hb0.size
  have HW0 := Lib.hid hw0
  clear hw0
  go_enter Tryd.func39, Tryd.ntmps39
  go_wp2_with fail
  rw [← HW0.out]
  refine (l08Has_any w0 B A n c l x (Nat.le_trans hB hs0) hl0 hn).mono ?_
  rintro e w1 ⟨rfl, hb1⟩
  have HB1 := Lib.hid (hb0.trans (hb1.mono hs0))
  have HO1 : Hid (OwnI w1 w.heap.size (some ⟨w.heap.size, 0, none⟩) 0 0 []) := own_below' HS0.out hb1
  have HL := Lib.hid hl
  clear hb1 hb0 hl0 HS0 HW0 hl
  rw [hok]
  cases ok with
  | false =>
    clear hok
    go_wp2
    go_ret
    exact ⟨w.heap.size, 0, rfl, HO1.out, HB1.out⟩
  | true =>
    rw [Bool.and_eq_true, idx_one, Bool.and_eq_true, decide_eq_true_eq, decide_eq_true_eq] at hok
    obtain ⟨ha, h0, h1⟩ := hok
    unfold arenaOkR at ha
    rw [Bool.and_eq_true, decide_eq_true_eq, decide_eq_true_eq, HL.out.1] at ha
    obtain ⟨hn2, hall⟩ := ha
    obtain ⟨i, rfl⟩ : ∃ i : Nat, x = i := ⟨x.toNat, by omega⟩
    rw [Int.toNat_natCast]
    have hin : i < n := by omega
    have HALL := Lib.hid hall
    have hmk := make_bits n (by omega)
    rw [bits_made] at hmk
    have hblk := Blk.made w1 4 (bitA (fun _ => false) n)
    have f1 := hblk.thawed i
    have e1 : (w1.alloc (.cells (bitA (fun _ => false) n) 4)).cell? ⟨w1.heap.size, i, none⟩ = some (.bool false) := (hblk.cell i).trans (bitA_get _ hin)
    obtain ⟨gb, hgb⟩ : ∃ gb, gb = w1.heap.size := ⟨_, rfl⟩
    have hgw : w.heap.size < gb := by
      have h := (HO1.out.lt w.heap.size rfl).2
      omega
    have HB2 : Hid (Below w.heap.size w (w1.alloc (.cells ((bitA (fun _ => false) n).setIfInBounds i (.bool true)) 4))) := HB1.out.alloc HB1.out.size _
    have HO2 : Hid (OwnI (w1.alloc (.cells ((bitA (fun _ => false) n).setIfInBounds i (.bool true)) 4)) w.heap.size (some ⟨w.heap.size, 0, none⟩) 0 0 []) := World.ownsRow.alloc HO1.out _
    have HG2 : Hid (Blk (w1.alloc (.cells ((bitA (fun _ => false) n).setIfInBounds i (.bool true)) 4)) gb 4 (bitA (needD l (i + 1) (bit1 (fun _ => false) i) (i + 1 - (i + 1))) n)) := by
      show Blk _ _ _ _
      rw [Nat.sub_self, hgb]
      have h := Blk.made w1 4 ((bitA (fun _ => false) n).setIfInBounds i (.bool true))
      rw [bitA_set] at h ⊢
      exact h
    subst hgb
    clear hblk HO1 HB1 hall
    go_wp2
    go_loopw [7] (fun v wr => ∃ (m : Nat) (z : Int), m ≤ i + 1 ∧ v = .int .i64 z ∧ z = (m : Int) - 1 ∧ Hid (Blk wr w1.heap.size 4 (bitA (needD l (i + 1) (bit1 (fun _ => false) i) (i + 1 - m)) n)) ∧ Hid (OwnI wr w.heap.size (some ⟨w.heap.size, 0, none⟩) 0 0 []) ∧ Hid (Below w.heap.size w wr)) (fun v _ => (intOf v + 1).toNat)
    case atStart =>
      exact ⟨i + 1, i, Nat.le_refl _, rfl, by omega, HG2.out, HO2.out, HB2.out⟩
    case round =>
      obtain ⟨m, z, hm, rfl, hz, HG, HO, HB⟩ := hrel
      clear f1 e1 HG2 HO2 HB2
      by_cases hm0 : m = 0
      · subst hm0
        have dz : decide (0 ≤ z) = false := decide_eq_false (by omega)
        clear hz
        obtain ⟨R, hR⟩ : ∃ R, needR l i = R := ⟨_, rfl⟩
        have HG1 : Hid (Blk wr w1.heap.size 4 (bitA R n)) := by
          have h := HG.out
          show Blk _ _ _ _
          rw [← hR]
          exact h
        have HRR : Hid (needR l i = R) := hR
        have HS : Hid (OwnI wr w.heap.size (some ⟨w.heap.size, 0, none⟩) 0 0 (pickTo R 0)) := HO.out
        clear hR HG HO hm HALL
        obtain ⟨i0, hi, hz0, hz1, hz2⟩ := info_parts info_int
        obtain ⟨ws, hws⟩ : ∃ X, X = wr := ⟨_, rfl⟩
        subst hws
        go_wp2
        go_loopw [5, 8] (fun v j wy => ∃ (k M g c2 : Nat), k ≤ i + 1 ∧ j = .int .i64 k ∧ v = .slice (some ⟨g, 0, none⟩) M c2 ∧ Hid ((pickTo R k).length = M) ∧ M ≤ k ∧ Hid (OwnI wy w.heap.size (some ⟨g, 0, none⟩) M c2 (pickTo R k)) ∧ Hid (Below w.heap.size w wy) ∧ Hid (Blk wy w1.heap.size 4 (bitA R n))) (fun _ j _ => i + 1 - (intOf j).toNat)
        case atStart => exact ⟨0, 0, w.heap.size, 0, by omega, rfl, rfl, rfl, Nat.le_refl _, HS.out, HB.out, HG1.out⟩
        case round =>
          clear HS HG1 HB
          obtain ⟨k, M, g, c2, hk, rfl, rfl, HM, hMk, HO, HB, HG⟩ := hrel
          have hsr := HB.out.size
          by_cases hki : k < i + 1
          · have hki' : (k : Int) ≤ i := by omega
            have hkn : k < n := by omega
            have hkn' : (k : Int) < n := by omega
            have q1 : wr.cell? ⟨w1.heap.size, k, none⟩ = some (.bool (R k)) := (HG.out.cell k).trans (bitA_get _ hkn)
            cases hRk : R k with
            | false =>
              rw [hRk] at q1
              have HP : Hid (pickTo R (k + 1) = pickTo R k) := by
                show _ = _
                rw [pickTo, if_neg (by rw [hRk]; decide)]
              clear hRk
              go_wp2
              go_roundw
              case rel => exact ⟨k + 1, M, g, c2, by omega, by go_num, rfl, by rw [HP.out]; exact HM, by omega, by rw [HP.out]; exact HO, HB, HG⟩
              case measure => simp [intOf]; omega
            | true =>
              rw [hRk] at q1
              have HP : Hid (pickTo R (k + 1) = pickTo R k ++ [(k : Int)]) := by
                show _ = _
                rw [pickTo, if_pos hRk]
              have hown := HO.out
              clear hRk
              go_wp2_with (at_builtin; refine wpList_append_own _ rfl (.tmp 73) (.tmp 75) 40 rfl w.heap.size 3 i0 (.int .i64 0) 1 8 Tryd.underlying40 hi hz0 hz1 hz2 rfl (by decide) (.slice (some ⟨g, 0, none⟩) M c2) M ((pickTo R k).map (Value.int .i64)) rfl (World.ownsRow.alloc hown _) ⟨wr.heap.size, 0, none⟩ 1 1 [.int .i64 k] rfl rfl (cell_one_new _ _ _) (fun u hu => by simp at hu; subst hu; rfl) (by unfold maxLen; omega) (by omega) (by simp; omega) ?_; intro v' w3 hown' hgrow _)
              obtain ⟨g3, c3, rfl⟩ : ∃ g3 c3, v' = .slice (some ⟨g3, 0, none⟩) (M + 1) c3 := by
                rcases hown'.2 with ⟨_, h⟩ | ⟨g3, c3, _, h, _⟩
                · omega
                · exact ⟨g3, c3, h⟩
              have HB3 : Hid (Below w.heap.size w w3) := (HB.out.alloc hsr _).grown hgrow (by simp; omega) (fun k h => (hown.lt k h).1)
              have HG3 : Hid (Blk w3 w1.heap.size 4 (bitA R n)) := (HG.out.alloc _).grown hgrow (fun x => own_apart hown HG.out (by decide) x.symm)
              have HO3 : Hid (OwnI w3 w.heap.size (some ⟨g3, 0, none⟩) (M + 1) c3 (pickTo R (k + 1))) := by
                show OwnI _ _ _ _ _ _
                rw [HP.out]
                simpa [OwnI] using hown'
              have HM3 : Hid ((pickTo R (k + 1)).length = M + 1) := by
                show _ = _
                rw [HP.out, List.length_append, HM.out]
                rfl
              clear hown hown' hgrow HO HB HG HM
              go_wp2
              go_roundw
              case rel => exact ⟨k + 1, M + 1, g3, c3, by omega, by go_num, rfl, HM3.out, by omega, HO3.out, HB3.out, HG3.out⟩
              case measure => simp [intOf]; omega
          · obtain rfl : k = i + 1 := by omega
            have hki' : ¬ ((i + 1 : Nat) : Int) ≤ i := by omega
            have HOM : Hid (OwnI wr w.heap.size (some ⟨g, 0, none⟩) (pickTo R (i + 1)).length c2 (pickTo R (i + 1))) := by
              show OwnI _ _ _ _ _ _
              rw [HM.out]
              exact HO.out
            go_wp2
            go_ret
            rw [HRR.out]
            refine ⟨g, c2, ?_, ?_, HB.out⟩
            · rw [if_pos rfl, HM.out]; rfl
            · exact HOM.out
      · obtain ⟨k, rfl⟩ : ∃ k, m = k + 1 := ⟨m - 1, by omega⟩
        obtain rfl : z = (k : Int) := by omega
        have hki : k ≤ i := by omega
        have hkn : k < n := by omega
        have hkn' : (k : Int) < n := by omega
        obtain ⟨F, hF⟩ : ∃ F, needD l (i + 1) (bit1 (fun _ => false) i) (i + 1 - (k + 1)) = F := ⟨_, rfl⟩
        have hstep : needD l (i + 1) (bit1 (fun _ => false) i) (i + 1 - k) = needN l k F := by
          rw [show i + 1 - k = (i + 1 - (k + 1)) + 1 by omega]
          unfold needD
          rw [hF, show i + 1 - 1 - (i + 1 - (k + 1)) = k by omega]
        rw [hF] at HG
        have HSTEP := Lib.hid hstep
        have hgl := HG.out.lt
        have q1 : wr.cell? ⟨w1.heap.size, k, none⟩ = some (.bool (F k)) := (HG.out.cell k).trans (bitA_get _ hkn)
        clear hF hstep hz hm0
        cases hFk : F k with
        | false =>
          rw [hFk] at q1
          have HG3 : Hid (Blk wr w1.heap.size 4 (bitA (needD l (i + 1) (bit1 (fun _ => false) i) (i + 1 - k)) n)) := by
            show Blk _ _ _ _
            rw [HSTEP.out]
            unfold needN
            rw [if_neg (by rw [hFk]; decide)]
            exact HG.out
          clear hFk HSTEP
          go_wp2
          go_roundw
          case rel => exact ⟨k, (k : Int) - 1, by omega, by go_num, rfl, HG3.out, HO.out, HB.out⟩
          case measure => simp [intOf]
        | true =>
          rw [hFk] at q1
          obtain ⟨b, off, rfl, hb, hc⟩ := HL.out.2 (by omega)
          obtain ⟨-, -, x3, x4⟩ := hc k hkn
          obtain ⟨t, ht⟩ : ∃ t, l.getD k nd0 = t := ⟨_, rfl⟩
          have hok := (HALL.out k hkn).1
          rw [ht] at x3 x4 hok
          obtain ⟨o, u, a, y⟩ := t
          have hops := ndOk_ops hok
          have k3 := (HB.out.cell (p := ⟨b, off + k * 4 + 2, none⟩) (by show b < _; omega)).trans x3
          have k4 := (HB.out.cell (p := ⟨b, off + k * 4 + 3, none⟩) (by show b < _; omega)).trans x4
          have HN : Hid (needN l k F = bit1 (bit1 F a) y) := by
            show _ = _
            unfold needN
            rw [if_pos hFk, ht]
          clear ht hok hc x3 x4
          rcases hops.1 with hx | ⟨hx0, hxk⟩
          · subst hx
            rcases hops.2 with hy | ⟨hy0, hyk⟩
            · subst hy
              have HG3 : Hid (Blk wr w1.heap.size 4 (bitA (needD l (i + 1) (bit1 (fun _ => false) i) (i + 1 - k)) n)) := by
                show Blk _ _ _ _
                rw [HSTEP.out, HN.out, bit1_none, bit1_none]
                exact HG.out
              clear hops hFk HSTEP HN
              go_wp2
              go_roundw
              case rel => exact ⟨k, (k : Int) - 1, by omega, by go_num, rfl, HG3.out, HO.out, HB.out⟩
              case measure => simp [intOf]
            · obtain ⟨r, rfl⟩ : ∃ r : Nat, y = r := ⟨y.toNat, by omega⟩
              have hrn : (r : Int) < n := by omega
              have hrn2 : r < n := by omega
              have hfr := Blk.thawed (HG.out) r
              have her : (wr).cell? ⟨w1.heap.size, r, none⟩ = some (.bool ((F) r)) := (Blk.cell (HG.out) r).trans (bitA_get _ hrn2)
              have HG3 : Hid (Blk ((wr).setCell ⟨w1.heap.size, r, none⟩ (.bool true)) w1.heap.size 4 (bitA (needD l (i + 1) (bit1 (fun _ => false) i) (i + 1 - k)) n)) := by
                show Blk _ _ _ _
                have h := Blk.put (HG.out) r (.bool true)
                rw [bitA_set] at h
                rw [HSTEP.out, HN.out, bit1_none]
                exact h
              have HO3 : Hid (OwnI ((wr).setCell ⟨w1.heap.size, r, none⟩ (.bool true)) w.heap.size (some ⟨w.heap.size, 0, none⟩) 0 0 []) := own_store (HO.out) (p := ⟨w1.heap.size, r, none⟩) (by simp [Value.ownBlock]; omega) _
              have HB3 : Hid (Below w.heap.size w ((wr).setCell ⟨w1.heap.size, r, none⟩ (.bool true))) := Below.setCell (HB.out) (p := ⟨w1.heap.size, r, none⟩) (by show w.heap.size ≤ w1.heap.size; omega) _
              clear hops hFk HSTEP HN
              go_wp2
              go_roundw
              case rel => exact ⟨k, (k : Int) - 1, by omega, by go_num, rfl, HG3.out, HO3.out, HB3.out⟩
              case measure => simp [intOf]
          · obtain ⟨s, rfl⟩ : ∃ s : Nat, a = s := ⟨a.toNat, by omega⟩
            have hsn : (s : Int) < n := by omega
            have hsn2 : s < n := by omega
            have hfs := HG.out.thawed s
            have hes : wr.cell? ⟨w1.heap.size, s, none⟩ = some (.bool (F s)) := (HG.out.cell s).trans (bitA_get _ hsn2)
            obtain ⟨W2, hW2⟩ : ∃ X, wr.setCell ⟨w1.heap.size, s, none⟩ (.bool true) = X := ⟨_, rfl⟩
            have HG2 : Hid (Blk W2 w1.heap.size 4 (bitA (bit1 F s) n)) := by
              show Blk _ _ _ _
              have h := HG.out.put s (.bool true)
              rw [bitA_set, hW2] at h
              exact h
            have HO2 : Hid (OwnI W2 w.heap.size (some ⟨w.heap.size, 0, none⟩) 0 0 []) := by
              show OwnI _ _ _ _ _ _
              rw [← hW2]
              exact own_store HO.out (p := ⟨w1.heap.size, s, none⟩) (by simp [Value.ownBlock]; omega) _
            have HB2 : Hid (Below w.heap.size w W2) := by
              show Below _ _ _
              rw [← hW2]
              exact Below.setCell HB.out (p := ⟨w1.heap.size, s, none⟩) (by show w.heap.size ≤ w1.heap.size; omega) _
            have q2 : W2.cell? ⟨w1.heap.size, k, none⟩ = some (.bool true) := by
              rw [(HG2.out.cell k).trans (bitA_get _ hkn)]
              simp [bit1, hFk]
            have k42 : W2.cell? ⟨b, off + k * 4 + 3, none⟩ = some (.int .i64 y) := (HB2.out.cell (p := ⟨b, off + k * 4 + 3, none⟩) (by show b < _; omega)).trans ((HB.out.cell (p := ⟨b, off + k * 4 + 3, none⟩) (by show b < _; omega)).symm.trans k4)
            rcases hops.2 with hy | ⟨hy0, hyk⟩
            · subst hy
              have HG3 : Hid (Blk W2 w1.heap.size 4 (bitA (needD l (i + 1) (bit1 (fun _ => false) i) (i + 1 - k)) n)) := by
                show Blk _ _ _ _
                rw [HSTEP.out, HN.out, bit1_none]
                exact HG2.out
              clear hops hFk HSTEP HN
              go_wp2
              go_roundw
              case rel => exact ⟨k, (k : Int) - 1, by omega, by go_num, rfl, HG3.out, HO2.out, HB2.out⟩
              case measure => simp [intOf]
            · obtain ⟨r, rfl⟩ : ∃ r : Nat, y = r := ⟨y.toNat, by omega⟩
              have hrn : (r : Int) < n := by omega
              have hrn2 : r < n := by omega
              have hfr := Blk.thawed (HG2.out) r
              have her : (W2).cell? ⟨w1.heap.size, r, none⟩ = some (.bool ((bit1 F s) r)) := (Blk.cell (HG2.out) r).trans (bitA_get _ hrn2)
              have HG3 : Hid (Blk ((W2).setCell ⟨w1.heap.size, r, none⟩ (.bool true)) w1.heap.size 4 (bitA (needD l (i + 1) (bit1 (fun _ => false) i) (i + 1 - k)) n)) := by
                show Blk _ _ _ _
                have h := Blk.put (HG2.out) r (.bool true)
                rw [bitA_set] at h
                rw [HSTEP.out, HN.out]
                exact h
              have HO3 : Hid (OwnI ((W2).setCell ⟨w1.heap.size, r, none⟩ (.bool true)) w.heap.size (some ⟨w.heap.size, 0, none⟩) 0 0 []) := own_store (HO2.out) (p := ⟨w1.heap.size, r, none⟩) (by simp [Value.ownBlock]; omega) _
              have HB3 : Hid (Below w.heap.size w ((W2).setCell ⟨w1.heap.size, r, none⟩ (.bool true))) := Below.setCell (HB2.out) (p := ⟨w1.heap.size, r, none⟩) (by show w.heap.size ≤ w1.heap.size; omega) _
              clear hops hFk HSTEP HN
              go_wp2
              go_roundw
              case rel => exact ⟨k, (k : Int) - 1, by omega, by go_num, rfl, HG3.out, HO3.out, HB3.out⟩
              case measure => simp [intOf]
end Go.Proofs.YtfmhmnpmdjpmeaaDoor

namespace Go.Proofs.YtfmhmnpmdjpmeaaDoor
open Go.RowKit Go.Maps

/-- the arena's memory while it is thinned -/
structure ArK (w : World) (base g m : Nat) (A : Option Addr) (n c : Nat) (D : DataW Unit) (l : List Nd) : Prop where
  box : Blk w g 85 #[.slice A n c, .map (some m)]
  row : OwnN w base A n c l
  map : w.ownsMap Tryd.prog 72 (plainElem Tryd.prog 3) m n D
theorem ArK.below {w w' : World} {base g m n c : Nat} {A : Option Addr} {D : DataW Unit} {l : List Nd} (h : ArK w base g m A n c D l) (hb : Below w.heap.size w w') : ArK w' base g m A n c D l :=
  ⟨h.box.below hb h.box.lt, own_below' h.row hb, map_below h.map hb h.map.lt⟩
/-- a store into a row of bools leaves the arena as it is -/
theorem ArK.bit {w : World} {base g m n c gb i : Nat} {A : Option Addr} {D : DataW Unit} {l : List Nd} {cs : Array Value} (h : ArK w base g m A n c D l) (hb : Blk w gb 4 cs) (v : Value) : ArK (w.setCell ⟨gb, i, none⟩ v) base g m A n c D l :=
  ⟨h.box.other (p := ⟨gb, i, none⟩) (h.box.apart hb (by decide)) v, own_store h.row (p := ⟨gb, i, none⟩) (own_apart h.row hb (by decide)) v, h.map.setCell (a := ⟨gb, i, none⟩) (fun x => map_apart h.map hb x.symm) v⟩
theorem bits_fold (is : List Int) (q : Nat) (hq : q < is.length) (f : Nat → Bool) : (is.take (q + 1)).foldl bit1 f = bit1 ((is.take q).foldl bit1 f) (is.getD q 0) := by
  rw [List.take_add_one, List.getElem?_eq_getElem hq, List.foldl_append]
  simp [List.getD_eq_getElem?_getD, hq]
theorem idx_at {n : Nat} {is : List Int} (h : idxR n is = true) {q : Nat} (hq : q < is.length) : 0 ≤ is.getD q 0 ∧ is.getD q 0 < n := by
  unfold idxR at h
  rw [List.all_eq_true] at h
  have h1 := h (is.getD q 0) (by rw [List.getD_eq_getElem?_getD, List.getElem?_eq_getElem hq]; simp)
  simpa using h1
theorem ops_at {o u a b : Int} {k q : Nat} (h : ndOk (o, u, a, b) k = true) (hq : q < (opsR a b).length) : 0 ≤ (opsR a b).getD q 0 ∧ (opsR a b).getD q 0 < k := by
  obtain ⟨h1, h2⟩ := ndOk_ops h
  have hm : (opsR a b).getD q 0 ∈ opsR a b := by
    rw [List.getD_eq_getElem?_getD, List.getElem?_eq_getElem hq]
    simp
  have hp : ∀ y x : Int, (x = -1 ∨ (0 ≤ x ∧ x < k)) → y ∈ opP x → 0 ≤ y ∧ y < k := by
    intro y x hx hy
    unfold opP at hy
    split at hy
    · cases hy
    · have e : y = x := by simpa using hy
      omega
  have hm2 : (opsR a b).getD q 0 ∈ opP a ++ opP b := hm
  rcases List.mem_append.1 hm2 with h' | h'
  · exact hp _ _ h1 h'
  · exact hp _ _ h2 h'
/-- what the map holds while the nodes are gone through downwards -/
def KeptTo (l : List Nd) (n : Nat) (f : Nat → Bool) (mm : Nat) (D : DataW Unit) : Prop := ∀ j, j < n → Maps.has D (nk (l.getD j nd0)) = if j < mm then true else needD l n f (n - mm) j
theorem nd_wf {l : List Nd} {n j : Nat} (hall : NdAll l n) (hn : n ≤ 200) (hj : j < n) : ndWf (l.getD j nd0) := by
  obtain ⟨t, ht⟩ : ∃ t, l.getD j nd0 = t := ⟨_, rfl⟩
  have h := (hall j hj).1
  rw [ht] at h ⊢
  obtain ⟨o, u, a, b⟩ := t
  exact ndOk_wf (by omega) h
theorem nd_ne {l : List Nd} {n j k : Nat} (hl : l.length = n) (hall : NdAll l n) (hj : j < n) (hk : k < n) (h : j ≠ k) : l.getD j nd0 ≠ l.getD k nd0 := by
  have key : ∀ p q, p < q → q < n → l.getD p nd0 ≠ l.getD q nd0 := by
    intro p q hpq hq e
    apply (hall q hq).2
    rw [← e, List.getD_eq_getElem?_getD, List.getElem?_eq_getElem (by omega)]
    exact List.mem_take_iff_getElem.2 ⟨p, by omega, rfl⟩
  rcases Nat.lt_or_gt_of_ne h with h1 | h1
  · exact key j k h1 hk
  · exact fun e => key k j h1 hj e.symm
theorem kept_step {l : List Nd} {n k : Nat} {f : Nat → Bool} (hk : k < n) : needD l n f (n - k) = needN l k (needD l n f (n - (k + 1))) := by
  rw [show n - k = (n - (k + 1)) + 1 by omega]
  conv => lhs; unfold needD
  rw [show n - 1 - (n - (k + 1)) = k by omega]
theorem kept_stay {l : List Nd} {n k : Nat} {f : Nat → Bool} {D : DataW Unit} (hall : NdAll l n) (hk : k < n) (h : KeptTo l n f (k + 1) D) (hf : needD l n f (n - (k + 1)) k = true) : KeptTo l n f k D := by
  intro j hj
  rw [h j hj, kept_step hk]
  by_cases h1 : j < k
  · rw [if_pos (by omega), if_pos h1]
  · rw [if_neg h1, needN_high (hall k hk).1 (by omega)]
    by_cases h2 : j = k
    · subst h2; rw [if_pos (by omega), hf]
    · rw [if_neg (by omega)]
theorem kept_drop {l : List Nd} {n k : Nat} {f : Nat → Bool} {D : DataW Unit} (hl : l.length = n) (hn : n ≤ 200) (hall : NdAll l n) (hk : k < n) (h : KeptTo l n f (k + 1) D) (hf : needD l n f (n - (k + 1)) k = false) : KeptTo l n f k (D.del (nk (l.getD k nd0))) := by
  intro j hj
  rw [kept_step hk]
  by_cases e : j = k
  · subst e
    rw [if_neg (by omega), has_del_same, needN_high (hall j hk).1 (Nat.le_refl _), hf]
  · rw [has_del_other (nk_ne (nd_wf hall hn hj) (nd_wf hall hn hk) (nd_ne hl hall hj hk e)), h j hj]
    by_cases h1 : j < k
    · rw [if_pos (by omega), if_pos h1]
    · rw [if_neg (by omega), if_neg h1, needN_high (hall k hk).1 (by omega)]
theorem kept_start {l : List Nd} {n : Nat} {f : Nat → Bool} {D : DataW Unit} (hl : l.length = n) (hn : n ≤ 200) (hall : NdAll l n) (h : GN D l) : KeptTo l n f n D := by
  intro j hj
  rw [if_pos hj, (h _ (nd_wf hall hn hj)).1, decide_eq_true_eq]
  rw [List.getD_eq_getElem?_getD, List.getElem?_eq_getElem (by omega)]
  simp
end Go.Proofs.YtfmhmnpmdjpmeaaDoor
