/- The reference model's LevelEval; the laws' helpers on slices of numbers. -/
import Derived.Test.YtijiohdddfdjfaaDoorLaws2
namespace Go.Proofs.YtijiohdddfdjfaaDoor
open Go.RowKit

set_option maxHeartbeats 800000 in
theorem specEnv_any (w : World) (B : Nat) (A : Option Addr) (n c : Nat) (env : List Int) (hR : IntR w B A n env) (hn : (n : Int) ≤ 140737488355328) :
    Calls Tryd.prog 41 #[.slice A n c] w fun e w' => e = .returned (.bool (envOk env)) ∧ w = w' := by
  by_cases h5 : n = 5
  · subst h5
    obtain ⟨hlen, hc⟩ := hR
    obtain ⟨b, off, rfl, hb, hc⟩ := hc (by omega)
    have HL := Lib.hid hlen
    clear hlen
    go_enter Tryd.func41, Tryd.ntmps41
    go_wp2
    go_loop [3] (fun i => ∃ k : Nat, k ≤ 5 ∧ i = .int .i64 k ∧ (env.take k).all (fun x => decide (0 ≤ x) && decide (x ≤ 1000)) = true) (fun i => 5 - (intOf i).toNat)
    case atStart => exact ⟨0, by omega, rfl, by simp⟩
    case round =>
      obtain ⟨k, hk, rfl, hall⟩ := hrel
      by_cases hlt : k < 5
      · have hcell := hc k hlt
        have hall2 : (env.take (k + 1)).all (fun x => decide (0 ≤ x) && decide (x ≤ 1000)) = (decide (0 ≤ env.getD k 0) && decide (env.getD k 0 ≤ 1000)) := by
          have hl := HL.out
          rw [List.take_succ_eq_append_getElem (by omega), List.all_append, hall]
          simp [List.getD_eq_getElem?_getD, List.getElem?_eq_getElem (show k < env.length by omega)]
        have HA := Lib.hid hall2
        generalize env.getD k 0 = v at hcell HA
        clear hall hall2 hc
        by_cases hv : 0 ≤ v ∧ v ≤ 1000
        · obtain ⟨hv0, hv1⟩ := hv
          go_wp2
          go_round
          case rel => exact ⟨k + 1, by omega, by go_num, by rw [HA.out]; simp; omega⟩
          case measure => simp [intOf]; omega
        · have HF : Hid (envOk env = false) := by
            have h := HA.out
            show envOk env = false
            rw [Bool.eq_false_iff]
            intro hk
            simp only [envOk, Bool.and_eq_true, List.all_eq_true] at hk
            have h2 : (env.take (k + 1)).all (fun x => decide (0 ≤ x) && decide (x ≤ 1000)) = true := by
              rw [List.all_eq_true]; intro x hx; simpa using hk.2 x (List.mem_of_mem_take hx)
            rw [h] at h2
            simp at h2
            omega
          by_cases hv0 : v < 0
          · go_wp2
            go_ret
            exact ⟨by rw [HF.out]; rfl, rfl⟩
          · have hv1 : 1000 < v := by omega
            clear hv
            go_wp2
            go_ret
            exact ⟨by rw [HF.out]; rfl, rfl⟩
      · have HF : Hid (envOk env = true) := by
          show envOk env = true
          rw [List.take_of_length_le (by rw [HL.out]; omega)] at hall
          simp only [envOk, hall, HL.out]; rfl
        clear hall hc
        go_wp2
        go_ret
        exact ⟨by rw [HF.out]; rfl, rfl⟩
  · have HF : Hid (envOk env = false) := by
      show envOk env = false
      simp [envOk, hR.1, h5]
    have hne : ((n : Int) != 5) = true := by simp; omega
    clear hR
    go_enter Tryd.func41, Tryd.ntmps41
    go_wp2
    go_ret
    exact ⟨by rw [HF.out]; rfl, rfl⟩

/-- block g is a row of just n numbers, those of l -/
def IntOwn (w : World) (g n : Nat) (l : List Int) : Prop :=
  l.length = n ∧ ∃ cs, Blk w g 3 cs ∧ cs.size = n ∧ ∀ k, k < n → cs[k]? = some (.int .i64 (l.getD k 0))
theorem IntOwn.reads {w : World} {g n : Nat} {l : List Int} (h : IntOwn w g n l) : IntR w (g + 1) (some ⟨g, 0, none⟩) n l := by
  obtain ⟨hl, cs, hb, hs, hc⟩ := h
  refine ⟨hl, fun _ => ⟨g, 0, rfl, by omega, fun k hk => ?_⟩⟩
  rw [hb.cell, Nat.zero_add]
  exact hc k hk

/-- the row of numbers that is being filled: the first k of them are there -/
def FillI (w : World) (g n k : Nat) (l : List Int) (wr : World) : Prop :=
  Below w.heap.size w wr ∧ ∃ cs, Blk wr g 3 cs ∧ cs.size = n ∧ ∀ j, j < k → cs[j]? = some (.int .i64 (l.getD j 0))
theorem fillI_step {w wr : World} {n k : Nat} {l : List Int} {a : Int} (h : FillI w w.heap.size n k l wr) (hk : k < n) (ht : l.getD k 0 = a) :
    FillI w w.heap.size n (k + 1) l (wr.setCell ⟨w.heap.size, k, none⟩ (.int .i64 a)) := by
  obtain ⟨hbel, cs, hblk, hs, hc⟩ := h
  refine ⟨hbel.setCell (p := ⟨w.heap.size, k, none⟩) (Nat.le_refl _) _, _, hblk.put _ _, by simp [hs], ?_⟩
  intro j hj
  by_cases e : j = k
  · subst e
    rw [ht, Array.getElem?_setIfInBounds_self_of_lt (by omega)]
  · rw [Array.getElem?_setIfInBounds_ne (by omega)]
    exact hc j (by omega)

end Go.Proofs.YtijiohdddfdjfaaDoor
