/- An atom under a table of longest ways: l06Atom of the reference model. -/
import Derived.Test.YtmmhcpigcdlnmaaUnAtom
import Derived.Test.YtmmhcpigcdlnmaaROk2

namespace Go.Proofs.Ytmmhcpigcdlnmaa
open Go.RowKit
open Cs (Cn Tb)

set_option maxRecDepth 100000 in
set_option maxHeartbeats 1600000 in
theorem l06Atom_any (w : World) (B base g cap : Nat) (rw' cp : Nat → Nat) (T : Tb) (p x : Int) (A : Option Addr) (n c : Nat) (l : List (Int × Int)) (hB : B ≤ w.heap.size) (ht : TabN w base g cap 6 rw' cp T) (hl : TokR w B A n l) (hn : (n : Int) ≤ 140737488355328) (hok : Nm.AllOk l) (hp1 : -1 ≤ p) (hp2 : p < 5) (hT : ∀ i j, -1 ≤ T i j ∧ T i j ≤ 1000) :
    Calls Try.prog 81 #[.slice (some ⟨g, 0, none⟩) 6 cap, .agg #[.int .i64 p, .int .i64 x], .slice A n c] w fun e w' => e = .returned (.bool (Un.atB T (p, x) l)) ∧ Below w.heap.size w w' := by
  obtain ⟨W0, hW0⟩ : ∃ W, w.alloc (.cells #[.int .i64 p, .int .i64 x] 57) = W := ⟨_, rfl⟩
  have HB0 : Hid (Below w.heap.size w W0) := by show Below _ _ _; rw [← hW0]; exact (Below.refl _ _).alloc (Nat.le_refl _) _
  have HK0 : Hid (Blk W0 w.heap.size 57 #[.int .i64 p, .int .i64 x]) := by show Blk _ _ _ _; rw [← hW0]; exact Blk.made _ _ _
  obtain ⟨u, hu⟩ : ∃ u : Nat, p + 1 = u := ⟨(p + 1).toNat, by omega⟩
  have hu6 : u < 6 := by omega
  have hui : (u : Int) < 6 := by omega
  have HU := Lib.hid hu
  have HOK := Lib.hid hok
  have HTB := Lib.hid hT
  have HTD := Lib.hid ht
  clear hok hT ht
  go_enter Try.func81, Try.ntmps81
  go_wp2
  clear hW0
  go_loopw [7] (fun i wr => ∃ k : Nat, k ≤ n ∧ i = .int .i64 k ∧ Hid (∀ j, j < k → Un.leB T (p, x) (l.getD j (0, 0)) = false) ∧ Hid (Below w.heap.size w wr) ∧ Hid (Blk wr w.heap.size 57 #[.int .i64 p, .int .i64 x])) (fun i _ => n - (intOf i).toNat)
  case atStart => exact ⟨0, Nat.zero_le _, rfl, (fun j hj => absurd hj (by omega)), HB0.out, HK0.out⟩
  case round =>
    clear HB0 HK0
    obtain ⟨k, hk, rfl, HA, HB, HK⟩ := hrel
    by_cases hlt : k < n
    · have hki : (k : Int) < (n : Int) := by omega
      obtain ⟨b, off, rfl, hb, hc⟩ := hl.2 (by omega)
      obtain ⟨c1, c2⟩ := hc k hlt
      have HL := Lib.hid hl.1
      have hat := (Nm.atOk_iff _).1 (HOK.out k (by rw [hl.1]; exact hlt))
      obtain ⟨t, ht⟩ : ∃ t, l.getD k (0, 0) = t := ⟨_, rfl⟩
      rw [ht] at c1 c2 hat
      obtain ⟨q, y⟩ := t
      simp only at hat
      obtain ⟨a1, a2, a3, a4⟩ := hat
      have HT := Lib.hid ht
      have k1 := (HB.out.cell (p := ⟨b, off + k * 2, none⟩) (by show b < _; omega)).trans c1
      have k2 := (HB.out.cell (p := ⟨b, off + k * 2 + 1, none⟩) (by show b < _; omega)).trans c2
      obtain ⟨v, hv⟩ : ∃ v : Nat, q + 1 = v := ⟨(q + 1).toNat, by omega⟩
      have hv6 : v < 6 := by omega
      have hvi : (v : Int) < 6 := by omega
      have z0 : wr.cell? ⟨w.heap.size, 0, none⟩ = some (.int .i64 p) := HK.out.cell 0
      have z1 : wr.cell? ⟨w.heap.size, 1, none⟩ = some (.int .i64 x) := HK.out.cell 1
      have q1 := (HTD.out.below HB.out).head hu6
      obtain ⟨q2, _⟩ := (HTD.out.below HB.out).spot hu6 hv6
      have wu : IntKind.i64.wrap (u : Int) = u := IntWalk.i64_in _ ⟨by omega, by omega⟩
      have wv : IntKind.i64.wrap (v : Int) = v := IntWalk.i64_in _ ⟨by omega, by omega⟩
      have hu0 : 0 ≤ (u : Int) := by omega
      have hv0 : 0 ≤ (v : Int) := by omega
      obtain ⟨f, hf⟩ : ∃ f, T u v = f := ⟨_, rfl⟩
      have hfb := HTB.out u v
      rw [hf] at hfb q2
      have HLE : Hid (Un.leB T (p, x) (q, y) = (decide (0 ≤ f) && decide (x ≤ f + y))) := by show _ = _; rw [Un.leB_at HU.out hv, hf]
      have yes_of : 0 ≤ f → x ≤ f + y → Hid (Un.atB T (p, x) l = true) := fun h1 h2 => Un.atB_some (k := k) (by rw [HL.out]; exact hlt) (by rw [HT.out, HLE.out, decide_eq_true h1, decide_eq_true h2]; rfl)
      have no_of : ¬ (0 ≤ f ∧ x ≤ f + y) → Hid (∀ j, j < k + 1 → Un.leB T (p, x) (l.getD j (0, 0)) = false) := by
        intro h j hj
        by_cases e : j = k
        · subst e
          rw [HT.out, HLE.out, Bool.and_eq_false_iff]
          by_cases h1 : 0 ≤ f
          · exact .inr (decide_eq_false fun h2 => h ⟨h1, h2⟩)
          · exact .inl (decide_eq_false h1)
        · exact HA.out j (by omega)
      have HB2 : Hid (Below w.heap.size w wr.drew) := HB.out.drew
      have HB3 : Hid (Below w.heap.size w wr.drew.drew) := HB.out.drew.drew
      have HK2 : Hid (Blk wr.drew w.heap.size 57 #[.int .i64 p, .int .i64 x]) := HK.out
      have HK3 : Hid (Blk wr.drew.drew w.heap.size 57 #[.int .i64 p, .int .i64 x]) := HK.out
      have wf : IntKind.i64.wrap (f + y) = f + y := IntWalk.i64_in _ ⟨by omega, by omega⟩
      clear c1 c2 hc ht hf hl
      by_cases h1 : 0 ≤ f
      · have df : decide (0 ≤ f) = true := decide_eq_true h1
        by_cases h2 : x ≤ f + y
        · have dx : decide (x ≤ f + y) = true := decide_eq_true h2
          have HR := yes_of h1 h2
          clear yes_of no_of
          go_wp2_with fail
          refine region_tail 14 (by kernel_rfl) (by kernel_rfl) ?_
          simp only [List.take_succ_cons, List.take_zero, List.drop_succ_cons, List.drop_zero]
          repeat still_step
          refine wpStill_nil ?_
          go_wp2_with fail
          refine region_tail 13 (by kernel_rfl) (by kernel_rfl) ?_
          simp only [List.take_succ_cons, List.take_zero, List.drop_succ_cons, List.drop_zero]
          repeat still_step
          refine wpStill_nil ?_
          go_wp2
          go_ret
          exact ⟨by rw [HR.out]; rfl, HB3.out⟩
        · have dx : decide (x ≤ f + y) = false := decide_eq_false h2
          have HA2 := no_of (fun h => h2 h.2)
          clear yes_of no_of
          go_wp2_with fail
          refine region_tail 14 (by kernel_rfl) (by kernel_rfl) ?_
          simp only [List.take_succ_cons, List.take_zero, List.drop_succ_cons, List.drop_zero]
          repeat still_step
          refine wpStill_nil ?_
          go_wp2_with fail
          refine region_tail 13 (by kernel_rfl) (by kernel_rfl) ?_
          simp only [List.take_succ_cons, List.take_zero, List.drop_succ_cons, List.drop_zero]
          repeat still_step
          refine wpStill_nil ?_
          go_wp2
          go_roundw
          case rel => exact ⟨k + 1, by omega, by go_num, HA2.out, HB3.out, HK3.out⟩
          case measure => simp [intOf]; omega
      · have HA2 := no_of (fun h => h1 h.1)
        obtain rfl : f = -1 := by omega
        clear yes_of no_of wf hfb h1
        go_wp2_with fail
        refine region_tail 14 (by kernel_rfl) (by kernel_rfl) ?_
        simp only [List.take_succ_cons, List.take_zero, List.drop_succ_cons, List.drop_zero]
        repeat still_step
        refine wpStill_nil ?_
        go_wp2_with fail
        go_region
        go_wp2
        go_roundw
        case rel => exact ⟨k + 1, by omega, by go_num, HA2.out, HB3.out, HK3.out⟩
        case measure => simp [intOf]; omega
    · have HR : Hid (Un.atB T (p, x) l = false) := Un.atB_not (fun j hj => HA.out j (by have := hl.1; omega))
      clear hl
      have hki : ¬ (k : Int) < (n : Int) := by omega
      go_wp2
      go_ret
      exact ⟨by rw [HR.out]; rfl, HB.out⟩
end Go.Proofs.Ytmmhcpigcdlnmaa
