/- The reference model's LevelEval; the laws' helpers on slices of numbers. -/
import Derived.Test.YtboogdkkcepifaaLaws2
namespace Go.Proofs.Ytboogdkkcepifaa
open Go.RowKit

set_option maxHeartbeats 800000 in
theorem specEnv_any (w : World) (B : Nat) (A : Option Addr) (n c : Nat) (env : List Int) (hR : IntR w B A n env) (hn : (n : Int) ≤ 140737488355328) :
    Calls Try.prog 78 #[.slice A n c] w fun e w' => e = .returned (.bool (envOk env)) ∧ w = w' := by
  by_cases h5 : n = 5
  · subst h5
    obtain ⟨hlen, hc⟩ := hR
    obtain ⟨b, off, rfl, hb, hc⟩ := hc (by omega)
    have HL := Lib.hid hlen
    clear hlen
    go_enter Try.func78, Try.ntmps78
    go_wp2
    go_loop [3] (fun i => ∃ k : Nat, k ≤ 5 ∧ i = .int .i64 k ∧ (env.take k).all (fun x => decide (0 ≤ x) && decide (x ≤ 1000)) = true) (fun i => 5 - (intOf i).toNat)
    case atStart => exact ⟨0, by omega, rfl, by simp⟩
    case round =>
      obtain ⟨k, hk, rfl, hall⟩ := hrel
      by_cases hlt : k < 5
      · have hcell := hc k hlt
        have hall2 : (env.take (k + 1)).all (fun x => decide (0 ≤ x) && decide (x ≤ 1000)) = (decide (0 ≤ env.getD k 0) && decide (env.getD k 0 ≤ 1000)) := by
          have hl := HL.out
          rw [List.take_succ_eq_append_getElem (by omega), List.all_append, hall]
          simp [List.getD_eq_getElem?_getD, List.getElem?_eq_getElem (show k < env.length by omega)]
        have HA := Lib.hid hall2
        generalize env.getD k 0 = v at hcell HA
        clear hall hall2 hc
        by_cases hv : 0 ≤ v ∧ v ≤ 1000
        · obtain ⟨hv0, hv1⟩ := hv
          go_wp2
          go_round
          case rel => exact ⟨k + 1, by omega, by go_num, by rw [HA.out]; simp; omega⟩
          case measure => simp [intOf]; omega
        · have HF : Hid (envOk env = false) := by
            have h := HA.out
            show envOk env = false
            rw [Bool.eq_false_iff]
            intro hk
            simp only [envOk, Bool.and_eq_true, List.all_eq_true] at hk
            have h2 : (env.take (k + 1)).all (fun x => decide (0 ≤ x) && decide (x ≤ 1000)) = true := by
              rw [List.all_eq_true]; intro x hx; simpa using hk.2 x (List.mem_of_mem_take hx)
            rw [h] at h2
            simp at h2
            omega
          by_cases hv0 : v < 0
          · go_wp2
            go_ret
            exact ⟨by rw [HF.out]; rfl, rfl⟩
          · have hv1 : 1000 < v := by omega
            clear hv
            go_wp2
            go_ret
            exact ⟨by rw [HF.out]; rfl, rfl⟩
      · have HF : Hid (envOk env = true) := by
          show envOk env = true
          rw [List.take_of_length_le (by rw [HL.out]; omega)] at hall
          simp only [envOk, hall, HL.out]; rfl
        clear hall hc
        go_wp2
        go_ret
        exact ⟨by rw [HF.out]; rfl, rfl⟩
  · have HF : Hid (envOk env = false) := by
      show envOk env = false
      simp [envOk, hR.1, h5]
    have hne : ((n : Int) != 5) = true := by simp; omega
    clear hR
    go_enter Try.func78, Try.ntmps78
    go_wp2
    go_ret
    exact ⟨by rw [HF.out]; rfl, rfl⟩

/-- block g is a row of just n numbers, those of l -/
def IntOwn (w : World) (g n : Nat) (l : List Int) : Prop :=
  l.length = n ∧ ∃ cs, Blk w g 3 cs ∧ cs.size = n ∧ ∀ k, k < n → cs[k]? = some (.int .i64 (l.getD k 0))
theorem IntOwn.reads {w : World} {g n : Nat} {l : List Int} (h : IntOwn w g n l) : IntR w (g + 1) (some ⟨g, 0, none⟩) n l := by
  obtain ⟨hl, cs, hb, hs, hc⟩ := h
  refine ⟨hl, fun _ => ⟨g, 0, rfl, by omega, fun k hk => ?_⟩⟩
  rw [hb.cell, Nat.zero_add]
  exact hc k hk

/-- the row of numbers that is being filled: the first k of them are there -/
def FillI (w : World) (g n k : Nat) (l : List Int) (wr : World) : Prop :=
  Below w.heap.size w wr ∧ ∃ cs, Blk wr g 3 cs ∧ cs.size = n ∧ ∀ j, j < k → cs[j]? = some (.int .i64 (l.getD j 0))
theorem fillI_step {w wr : World} {n k : Nat} {l : List Int} {a : Int} (h : FillI w w.heap.size n k l wr) (hk : k < n) (ht : l.getD k 0 = a) :
    FillI w w.heap.size n (k + 1) l (wr.setCell ⟨w.heap.size, k, none⟩ (.int .i64 a)) := by
  obtain ⟨hbel, cs, hblk, hs, hc⟩ := h
  refine ⟨hbel.setCell (p := ⟨w.heap.size, k, none⟩) (Nat.le_refl _) _, _, hblk.put _ _, by simp [hs], ?_⟩
  intro j hj
  by_cases e : j = k
  · subst e
    rw [ht, Array.getElem?_setIfInBounds_self_of_lt (by omega)]
  · rw [Array.getElem?_setIfInBounds_ne (by omega)]
    exact hc j (by omega)

set_option maxHeartbeats 800000 in
theorem toIntS_any (w : World) (B : Nat) (A : Option Addr) (n c : Nat) (l : List Int) (hB : B ≤ w.heap.size) (hl : IntR w B A n l) (hn : n ≤ 1048576) :
    Calls Try.prog 46 #[.slice A n c] w fun e w' => e = .returned (.slice (some ⟨w.heap.size, 0, none⟩) n n) ∧ Below w.heap.size w w' ∧ IntOwn w' w.heap.size n l := by
  obtain ⟨i0, hi, hz0, hz1, hz2⟩ := info_parts info_int
  have hmk : ∀ wx, (Instr.makeSlice 26 (.int .i64 (n : Int)) (.int .i64 (n : Int))).run Try.prog wx = .ok (.slice (some ⟨wx.heap.size, 0, none⟩) n n) (wx.alloc (.cells (madeCells (Value.int .i64 0).cells n) 3)) := by
    intro wx
    have hr := run_make (P := Try.prog) wx 26 3 i0 _ Try.underlying26 hi hz0 .i64 .i64 n n (by omega) (by omega) (by rw [hz2]; omega) (by omega)
    simp only [Int.toNat_natCast, hz1, Nat.mul_one] at hr
    exact hr
  have hstart : FillI w w.heap.size n 0 l (w.alloc (.cells (madeCells (Value.int .i64 0).cells n) 3)) :=
    ⟨(Below.refl _ _).alloc (Nat.le_refl _) _, _, Blk.made _ _ _, by simp [madeCells], by intro j hj; omega⟩
  have HS := Lib.hid hstart
  clear hstart hi hz0 hz1 hz2
  go_enter Try.func46, Try.ntmps46
  go_wp2
  go_loopw [4] (fun i wr => ∃ k : Nat, k ≤ n ∧ i = .int .i64 k ∧ FillI w w.heap.size n k l wr) (fun i _ => n - (intOf i).toNat)
  case atStart => exact ⟨0, Nat.zero_le _, rfl, HS.out⟩
  case round =>
    obtain ⟨k, hk, rfl, hF⟩ := hrel
    by_cases hlt : k < n
    · obtain ⟨b, off, rfl, hb, hc⟩ := hl.2 (by omega)
      have c1 := hc k hlt
      obtain ⟨t, ht⟩ : ∃ t, l.getD k 0 = t := ⟨_, rfl⟩
      rw [ht] at c1
      have hbel := hF.1
      have k1 := (hbel.cell (p := ⟨b, off + k, none⟩) (by show b < _; omega)).trans c1
      have HT := Lib.hid ht
      have HN := Lib.hid (fillI_step hF hlt ht)
      obtain ⟨_, cs, hblk, hs, _⟩ := hF
      have f1 := hblk.thawed k
      obtain ⟨v1, e1⟩ : ∃ v1, wr.cell? ⟨w.heap.size, k, none⟩ = some v1 := ⟨_, (hblk.cell _).trans (Array.getElem?_eq_getElem (by omega))⟩
      clear c1 hc ht hblk hs
      go_wp2
      go_roundw
      case rel => exact ⟨k + 1, by omega, by go_num, HN.out⟩
      case measure => simp [intOf]; omega
    · obtain rfl : k = n := by omega
      obtain ⟨hbel, hcs⟩ := hF
      have HC := Lib.hid hcs
      clear hcs
      go_wp2
      go_ret
      exact ⟨rfl, hbel, hl.1, HC.out⟩

set_option maxRecDepth 100000 in
set_option maxHeartbeats 1000000 in
theorem eqIntS_any (w : World) (B : Nat) (A1 A2 : Option Addr) (n1 n2 c1 c2 : Nat) (l m : List Int) (hB : B ≤ w.heap.size) (hl : IntR w B A1 n1 l) (hm : IntR w B A2 n2 m)
    (hn1 : (n1 : Int) ≤ 140737488355328) (hn2 : (n2 : Int) ≤ 140737488355328) :
    Calls Try.prog 48 #[.slice A1 n1 c1, .slice A2 n2 c2] w fun e w' => e = .returned (.bool (decide (l = m))) ∧ Below w.heap.size w w' := by
  by_cases hne : n1 = n2
  · subst hne
    have en : ((n1 : Int) != (n1 : Int)) = false := by simp
    go_enter Try.func48, Try.ntmps48
    go_wp2
    go_loopw [5] (fun i wr => ∃ k : Nat, k ≤ n1 ∧ i = .int .i64 k ∧ Agree 0 k l m ∧ Below w.heap.size w wr) (fun i _ => n1 - (intOf i).toNat)
    case atStart => exact ⟨0, Nat.zero_le _, rfl, (fun j hj => absurd hj (by omega)), Below.refl _ _⟩
    case round =>
      obtain ⟨k, hk, rfl, hag, hbel⟩ := hrel
      have HG := Lib.hid hag
      clear hag
      by_cases hlt : k < n1
      · obtain ⟨b, off, rfl, hb, hc⟩ := hl.2 (by omega)
        have x1 := hc k hlt
        obtain ⟨b', off', rfl, hb', hc'⟩ := hm.2 (by omega)
        have y1 := hc' k hlt
        obtain ⟨t, ht⟩ : ∃ t, l.getD k 0 = t := ⟨_, rfl⟩
        obtain ⟨u, hu⟩ : ∃ u, m.getD k 0 = u := ⟨_, rfl⟩
        rw [ht] at x1
        rw [hu] at y1
        have HT := Lib.hid ht
        have HU := Lib.hid hu
        have k1 := (hbel.cell (p := ⟨b, off + k, none⟩) (by show b < _; omega)).trans x1
        have k3 := (hbel.cell (p := ⟨b', off' + k, none⟩) (by show b' < _; omega)).trans y1
        have HB := Lib.hid hbel.drew
        clear x1 y1 hc hc' ht hu hl hm
        by_cases heq : t = u
        · subst heq
          have HA : Hid (Agree 0 (k + 1) l m) := agree_step HG.out (by rw [HT.out, HU.out])
          go_wp2_with fail
          refine region_tail 8 (by kernel_rfl) (by kernel_rfl) ?_
          simp only [List.take_succ_cons, List.take_zero, List.drop_succ_cons, List.drop_zero]
          repeat still_step
          refine wpStill_nil ?_
          go_wp2
          go_roundw
          case rel => exact ⟨k + 1, by omega, by go_num, HA.out, HB.out⟩
          case measure => simp [intOf]; omega
        · have dne : (t != u) = true := by simpa using heq
          have HF : Hid (decide (l = m) = false) := by
            show _ = _
            rw [decide_eq_false_iff_not]
            intro h
            apply heq
            rw [← HT.out, ← HU.out, h]
          clear heq
          go_wp2_with fail
          refine region_tail 8 (by kernel_rfl) (by kernel_rfl) ?_
          simp only [List.take_succ_cons, List.take_zero, List.drop_succ_cons, List.drop_zero]
          repeat still_step
          refine wpStill_nil ?_
          go_wp2
          go_ret
          exact ⟨by rw [HF.out]; rfl, HB.out⟩
      · obtain rfl : k = n1 := by omega
        have HF : Hid (decide (l = m) = true) := by
          show _ = _
          rw [decide_eq_true_eq]
          exact agree_all hl.1 hm.1 HG.out
        clear hl hm
        go_wp2
        go_ret
        exact ⟨by rw [HF.out]; rfl, hbel⟩
  · have HF : Hid (decide (l = m) = false) := by
      show _ = _
      rw [decide_eq_false_iff_not]
      intro h
      apply hne
      rw [← hl.1, ← hm.1, h]
    have en : ((n1 : Int) != (n2 : Int)) = true := by simp; omega
    clear hl hm hne
    go_enter Try.func48, Try.ntmps48
    go_wp2
    go_ret
    exact ⟨by rw [HF.out]; rfl, Below.refl _ _⟩
end Go.Proofs.Ytboogdkkcepifaa
