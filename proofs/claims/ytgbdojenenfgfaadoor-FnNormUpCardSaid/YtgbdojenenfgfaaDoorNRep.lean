/- slices.Repeat of one token, up to a thousand times. -/
import Derived.Test.YtgbdojenenfgfaaDoorSlc
namespace Go.Proofs.YtgbdojenenfgfaaDoor
open Go.RowKit

set_option maxRecDepth 100000 in
set_option maxHeartbeats 1600000 in
theorem repeat_big (n : Nat) (hn : n ≤ 1000) (w : World) (gx cx : Nat) (hgx : gx < w.heap.size) (x0 : w.cell? ⟨gx, 0, none⟩ = some (.int .i64 1)) (x1 : w.cell? ⟨gx, 1, none⟩ = some (.int .i64 0)) :
    Calls Tryd.prog 51 #[.slice (some ⟨gx, 0, none⟩) 1 cx, .int .i64 n] w (ResT w (sxs n)) := by
  obtain ⟨i0, hi, hz0, hz1, hz2⟩ := info_parts info_tok
  have hmk : ∀ wx, (Instr.makeSlice 24 (.int .i64 (n : Int)) (.int .i64 (n : Int))).run Tryd.prog wx = .ok (.slice (some ⟨wx.heap.size, 0, none⟩) n n) (wx.alloc (.cells (madeCells (Value.agg #[.int .i64 0, .int .i64 0]).cells (n * 2)) 71)) := by
    intro wx
    have hr := run_make (P := Tryd.prog) wx 24 71 i0 _ Tryd.underlying24 hi hz0 .i64 .i64 n n (by omega) (by omega) (by rw [hz2]; omega) (by omega)
    simp only [Int.toNat_natCast, hz1] at hr
    exact hr
  obtain ⟨cur, hcur⟩ : ∃ cur, madeCells (Value.agg #[.int .i64 0, .int .i64 0]).cells (n * 2) = cur := ⟨_, rfl⟩
  have hcs : cur.size = n * 2 := by rw [← hcur]; simp [madeCells]
  rw [hcur] at hmk
  have hst : Rep w w.heap.size n 0 (w.alloc (.cells cur 71)) := ⟨(Below.refl _ _).alloc (Nat.le_refl _) _, cur, Blk.made _ _ _, hcs, by intro j hj; omega⟩
  have hc1 : (Builtin.copy_ #[24, 24] 3 #[.slice (some ⟨w.heap.size, 0, none⟩) n n, .slice (some ⟨gx, 0, none⟩) 1 cx]).run Tryd.prog (w.alloc (.cells cur 71)) =
      .ok (goInt (Nat.min 1 n)) ((w.alloc (.cells cur 71)).setRow w.heap.size (cur.toList.take (0 * 2) ++ tokCells (sxs (Nat.min 1 n)) ++ cur.toList.drop (0 * 2 + (tokCells (sxs (Nat.min 1 n))).length)).toArray) := by
    have hlen : (tokCells (sxs (Nat.min 1 n))).length = Nat.min 1 n * 2 := by rw [tokCells_len]; simp [sxs]
    have hmin : Nat.min 1 n ≤ n := Nat.min_le_right _ _
    have hmin1 : Nat.min 1 n ≤ 1 := Nat.min_le_left _ _
    have h := run_copyN (P := Tryd.prog) (w.alloc (.cells cur 71)) 24 24 3 71 w.heap.size 0 n n ⟨gx, 0, none⟩ 1 cx 2 cur 71 (tokCells (sxs (Nat.min 1 n))) Tryd.underlying24 i0 hi hz1 (heap_alloc_new w _) hlen
      (by
        intro j v hj
        have hjl : j < (tokCells (sxs (Nat.min 1 n))).length := (List.getElem?_eq_some_iff.1 hj).1
        rw [hlen] at hjl
        rw [sxs_cells _ j hjl] at hj
        injection hj with hj
        subst hj
        rw [own_adds, World.cell?_alloc_past _ _ _ (by exact hgx)]
        have hj2 : j = 0 ∨ j = 1 := by omega
        rcases hj2 with rfl | rfl
        · exact x0
        · exact x1)
      (by rw [hlen]; omega) (sxs_one _)
    simpa using h
  have hmin : Nat.min 1 n ≤ n := Nat.min_le_right _ _
  have hmin1 : Nat.min 1 n ≤ 1 := Nat.min_le_left _ _
  have hrep1 := rep_copy (m := Nat.min 1 n) hst (by omega) cur (Blk.made _ _ _)
  obtain ⟨w1, hw1⟩ : ∃ w1, (w.alloc (.cells cur 71)).setRow w.heap.size (cur.toList.take (0 * 2) ++ tokCells (sxs (Nat.min 1 n)) ++ cur.toList.drop (0 * 2 + (tokCells (sxs (Nat.min 1 n))).length)).toArray = w1 := ⟨_, rfl⟩
  rw [hw1] at hc1 hrep1
  obtain ⟨m1, hm1⟩ : ∃ m1, Nat.min 1 n = m1 := ⟨_, rfl⟩
  have hpos : 1 ≤ n → 1 ≤ m1 := by intro h; rw [← hm1]; exact Nat.le_min.2 ⟨Nat.le_refl _, h⟩
  rw [hm1] at hc1 hrep1 hmin hmin1
  rw [Nat.zero_add] at hrep1
  have HR1 := Lib.hid hrep1
  have HPOS := Lib.hid hpos
  have HM := Lib.hid hm1
  have HI := Lib.hid hi
  have HZ := Lib.hid hz1
  clear hrep1 hw1 hst hcur hcs hi hz0 hz1 hz2 hpos hm1
  have hconv : IntKind.u64.wrap (n : Int) = (n : Int) := by rw [IntKind.wrap_u64]; omega
  have hconv2 : IntKind.i64.wrap (n : Int) = (n : Int) := by rw [IntKind.wrap_i64]; omega
  have hd0 : decide ((n : Int) < 0) = false := decide_eq_false (by omega)
  have hd1 : decide ((9223372036854775807 : Int) < (n : Int)) = false := decide_eq_false (by omega)
  go_enter Tryd.func51, Tryd.ntmps51
  go_wp2_with fail
  refine (mul_one n (by omega) w).mono ?_
  rintro e w' ⟨rfl, rfl⟩
  go_wp2_with fail
  go_loopw [8] (fun i wr => ∃ k : Nat, k ≤ n ∧ Hid (1 ≤ n → 1 ≤ k) ∧ i = .int .i64 k ∧ Rep w w.heap.size n k wr) (fun i _ => n - (intOf i).toNat)
  case atStart => exact ⟨m1, hmin, HPOS.out, rfl, HR1.out⟩
  case round =>
    obtain ⟨k, hk, hkp, rfl, hR⟩ := hrel
    by_cases hlt : k < n
    · have hk1 := hkp.out (by omega)
      have hne : ¬ n = k := by omega
      obtain ⟨m, hm⟩ : ∃ m, Nat.min k (n - k) = m := ⟨_, rfl⟩
      have hm1 : 1 ≤ m := by rw [← hm]; exact Nat.le_min.2 ⟨by omega, by omega⟩
      have hm2 : m ≤ k := by rw [← hm]; exact Nat.min_le_left _ _
      have hm3 : m ≤ n - k := by rw [← hm]; exact Nat.min_le_right _ _
      obtain ⟨hbel, cs, hblk, hs, hc⟩ := hR
      have hlen : (tokCells (sxs m)).length = m * 2 := by rw [tokCells_len]; simp [sxs]
      have HNX := Lib.hid (rep_copy (m := m) ⟨hbel, cs, hblk, hs, hc⟩ (by omega) cs hblk)
      have hcp : (Builtin.copy_ #[24, 24] 3 #[.slice (some ⟨w.heap.size, k * 2, none⟩) (n - k) (n - k), .slice (some ⟨w.heap.size, 0, none⟩) k n]).run Tryd.prog wr.drew =
          .ok (goInt m) (wr.drew.setRow w.heap.size (cs.toList.take (k * 2) ++ tokCells (sxs m) ++ cs.toList.drop (k * 2 + (tokCells (sxs m)).length)).toArray) := by
        have h := run_copyN (P := Tryd.prog) wr.drew 24 24 3 71 w.heap.size (k * 2) (n - k) (n - k) ⟨w.heap.size, 0, none⟩ k n 2 cs 71 (tokCells (sxs m)) Tryd.underlying24 i0 HI.out HZ.out hblk (by rw [hlen, hm])
          (by
            intro j v hj
            have hjl : j < (tokCells (sxs m)).length := (List.getElem?_eq_some_iff.1 hj).1
            rw [hlen] at hjl
            rw [sxs_cells _ j hjl] at hj
            rw [own_adds, ← hj]
            exact (hblk.cell j).trans (hc j (by omega)))
          (by rw [hlen]; omega) (sxs_one _)
        rw [hm] at h
        exact h
      obtain ⟨w2, hw2⟩ : ∃ w2, wr.setRow w.heap.size (cs.toList.take (k * 2) ++ tokCells (sxs m) ++ cs.toList.drop (k * 2 + (tokCells (sxs m)).length)).toArray = w2 := ⟨_, rfl⟩
      have hw3 : wr.drew.setRow w.heap.size (cs.toList.take (k * 2) ++ tokCells (sxs m) ++ cs.toList.drop (k * 2 + (tokCells (sxs m)).length)).toArray = w2.drew := by rw [← hw2]; rfl
      rw [hw3] at hcp
      have HN2 : Hid (Rep w w.heap.size n (k + m) w2.drew) := by
        have h := HNX.out
        rw [hw2] at h
        exact ⟨h.1.drew, h.2⟩
      have HCP := Lib.hid hcp
      have hsub : n - k = n - k := rfl
      clear HNX hw2 hw3 hm hs hc hblk hlen hsub hcp
      have hcp := HCP.out
      go_wp2_with fail
      go_region
      go_wp2
      go_roundw
      case rel => exact ⟨k + m, by omega, fun _ => by omega, by go_num, HN2.out⟩
      case measure => simp [intOf]; omega
    · obtain rfl : k = n := by omega
      have HD := Lib.hid (rep_done hR (by omega))
      have HB := Lib.hid hR.1
      have HL : Hid ((sxs k).length = k) := by show _ = _; simp [sxs]
      clear hR
      go_wp2
      go_ret
      exact ⟨w.heap.size, k, by rw [HL.out]; rfl, HD.out, HB.out⟩

end Go.Proofs.YtgbdojenenfgfaaDoor
