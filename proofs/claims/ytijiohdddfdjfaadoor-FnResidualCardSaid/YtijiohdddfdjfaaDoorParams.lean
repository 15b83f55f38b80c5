/- slices.Contains over tokens; LevelParams of the program and of the reference model. -/
import Derived.Test.YtijiohdddfdjfaaDoorMarks
import Derived.Test.YtijiohdddfdjfaaDoorSpec
namespace Go.Proofs.YtijiohdddfdjfaaDoor
open Go.RowKit

theorem mem_getD {l : List (Int × Int)} {t : Int × Int} {k : Nat} (hk : k < l.length) (h : l.getD k (0, 0) = t) : t ∈ l := by
  rw [List.getD_eq_getElem?_getD, List.getElem?_eq_getElem hk, Option.getD_some] at h
  rw [← h]; exact List.getElem_mem hk
theorem not_mem_of {l : List (Int × Int)} {t : Int × Int} (h : ∀ j, j < l.length → l.getD j (0, 0) ≠ t) : t ∉ l := by
  intro hm
  obtain ⟨j, hj, e⟩ := List.mem_iff_getElem.1 hm
  apply h j hj
  rw [List.getD_eq_getElem?_getD, List.getElem?_eq_getElem hj, Option.getD_some, e]

/-- what Index answers: a place of t, or -1 -/
def IndexOut (w : World) (l : List (Int × Int)) (t : Int × Int) (e : Ending) (w' : World) : Prop :=
  ∃ r : Int, e = .returned (.int .i64 r) ∧ Below w.heap.size w w' ∧ (t ∈ l → 0 ≤ r) ∧ (t ∉ l → r = -1) ∧ -1 ≤ r ∧ r ≤ 1048576

set_option maxRecDepth 100000 in
set_option maxHeartbeats 800000 in
theorem index_any (w : World) (B : Nat) (A : Option Addr) (n c : Nat) (l : List (Int × Int)) (a b : Int) (hB : B ≤ w.heap.size) (hl : TokR w B A n l) (hn : n ≤ 1048576) :
    Calls Tryd.prog 112 #[.slice A n c, .agg #[.int .i64 a, .int .i64 b]] w (IndexOut w l (a, b)) := by
  have HB : Hid (Below w.heap.size w (w.alloc (.cells #[.int .i64 a, .int .i64 b] 66))) := (Below.refl _ _).alloc (Nat.le_refl _) _
  have HK : Hid (Blk (w.alloc (.cells #[.int .i64 a, .int .i64 b] 66)) w.heap.size 66 #[.int .i64 a, .int .i64 b]) := Blk.made _ _ _
  go_enter Tryd.func112, Tryd.ntmps112
  go_wp2
  go_loopw [8] (fun i wr => ∃ k : Nat, k ≤ n ∧ i = .int .i64 k ∧ Hid (∀ j, j < k → l.getD j (0, 0) ≠ (a, b)) ∧ Below w.heap.size w wr ∧ Blk wr w.heap.size 66 #[.int .i64 a, .int .i64 b]) (fun i _ => n - (intOf i).toNat)
  case atStart => exact ⟨0, Nat.zero_le _, rfl, (fun j hj => absurd hj (by omega)), HB.out, HK.out⟩
  case round =>
    obtain ⟨k, hk, rfl, HA, hbel, hblk⟩ := hrel
    by_cases hlt : k < n
    · obtain ⟨b1, off, rfl, hb1, hc⟩ := hl.2 (by omega)
      obtain ⟨x1, x2⟩ := hc k hlt
      obtain ⟨t, ht⟩ : ∃ t, l.getD k (0, 0) = t := ⟨_, rfl⟩
      rw [ht] at x1 x2
      obtain ⟨p, q⟩ := t
      have HT := Lib.hid ht
      have k1 := (hbel.cell (p := ⟨b1, off + k * 2, none⟩) (by show b1 < _; omega)).trans x1
      have k2 := (hbel.cell (p := ⟨b1, off + k * 2 + 1, none⟩) (by show b1 < _; omega)).trans x2
      have k3 : wr.cell? ⟨w.heap.size, 0, none⟩ = some (.int .i64 a) := hblk.cell 0
      have k4 : wr.cell? ⟨w.heap.size, 1, none⟩ = some (.int .i64 b) := hblk.cell 1
      have HD := Lib.hid hbel.drew
      have HKD : Hid (Blk wr.drew w.heap.size 66 #[.int .i64 a, .int .i64 b]) := hblk
      have HL := Lib.hid hl.1
      clear x1 x2 hc ht hl hblk
      by_cases heq : (p, q) = (a, b)
      · injection heq with e1 e2
        subst e1; subst e2
        have HM : Hid ((p, q) ∈ l) := mem_getD (by rw [HL.out]; exact hlt) HT.out
        go_wp2_with fail
        refine region_tail 5 (by kernel_rfl) (by kernel_rfl) ?_
        simp only [List.take_succ_cons, List.take_zero, List.drop_succ_cons, List.drop_zero]
        repeat still_step
        refine wpStill_nil ?_
        go_wp2
        go_ret
        exact ⟨k, rfl, HD.out, fun _ => by omega, fun h => absurd HM.out h, by omega, by omega⟩
      · have HA2 : Hid (∀ j, j < k + 1 → l.getD j (0, 0) ≠ (a, b)) := by
          intro j hj
          by_cases e : j = k
          · subst e; rw [HT.out]; exact heq
          · exact HA.out j (by omega)
        by_cases e1 : a = p
        · subst e1
          have e2 : (b == q) = false := by
            rw [beq_eq_false_iff_ne]
            intro h
            apply heq
            rw [h]
          clear heq
          go_wp2_with fail
          refine region_tail 5 (by kernel_rfl) (by kernel_rfl) ?_
          simp only [List.take_succ_cons, List.take_zero, List.drop_succ_cons, List.drop_zero]
          repeat still_step
          refine wpStill_nil ?_
          go_wp2
          go_roundw
          case rel => exact ⟨k + 1, by omega, by go_num, HA2.out, HD.out, HKD.out⟩
          case measure => simp [intOf]; omega
        · have e2 : (a == p) = false := by simpa using e1
          clear heq e1
          go_wp2_with fail
          refine region_tail 5 (by kernel_rfl) (by kernel_rfl) ?_
          simp only [List.take_succ_cons, List.take_zero, List.drop_succ_cons, List.drop_zero]
          repeat still_step
          refine wpStill_nil ?_
          go_wp2
          go_roundw
          case rel => exact ⟨k + 1, by omega, by go_num, HA2.out, HD.out, HKD.out⟩
          case measure => simp [intOf]; omega
    · obtain rfl : k = n := by omega
      have HM : Hid ((a, b) ∉ l) := not_mem_of (by rw [hl.1]; exact HA.out)
      clear hl
      go_wp2
      go_ret
      exact ⟨-1, rfl, hbel, fun h => absurd h HM.out, fun _ => rfl, by omega, by omega⟩

set_option maxHeartbeats 800000 in
theorem contains_any (w : World) (B : Nat) (A : Option Addr) (n c : Nat) (l : List (Int × Int)) (a b : Int) (hB : B ≤ w.heap.size) (hl : TokR w B A n l) (hn : n ≤ 1048576) :
    Calls Tryd.prog 97 #[.slice A n c, .agg #[.int .i64 a, .int .i64 b]] w fun e w' => e = .returned (.bool (decide ((a, b) ∈ l))) ∧ Below w.heap.size w w' := by
  have hb1 : Below w.heap.size w (w.alloc (.cells #[.int .i64 a, .int .i64 b] 66)) := (Below.refl _ _).alloc (Nat.le_refl _) _
  have HT := Lib.hid (hl.below (hb1.mono hB))
  have HB := Lib.hid hb1
  clear hb1
  go_enter Tryd.func97, Tryd.ntmps97
  go_wp2_with fail
  refine (index_any _ B A n c l a b (by simp; omega) HT.out hn).mono ?_
  rintro e w1 ⟨r, rfl, hb2, hr1, hr2, hr3, hr4⟩
  have HB2 := Lib.hid (HB.out.trans (hb2.mono (by simp)))
  by_cases hm : (a, b) ∈ l
  · have hr := hr1 hm
    have HD := Lib.hid (decide_eq_true hm)
    clear hr1 hr2 hm hb2
    go_wp2
    go_ret
    exact ⟨by rw [HD.out]; rfl, HB2.out⟩
  · have hr := hr2 hm
    subst hr
    have HD := Lib.hid (decide_eq_false hm)
    clear hr1 hr2 hm hb2 hr3 hr4
    go_wp2
    go_ret
    exact ⟨by rw [HD.out]; rfl, HB2.out⟩
end Go.Proofs.YtijiohdddfdjfaaDoor
