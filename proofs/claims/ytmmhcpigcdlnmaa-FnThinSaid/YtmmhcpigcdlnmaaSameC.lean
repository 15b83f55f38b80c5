/- laws.sameCons: two rows of constraints are compared. -/
import Derived.Test.YtmmhcpigcdlnmaaCoMem
import Derived.Test.YtmmhcpigcdlnmaaEvalLaw
import Derived.Shelf.RegionOpen

namespace Go.Proofs.Ytmmhcpigcdlnmaa
open Go.RowKit
open Cs (Cn)

set_option maxRecDepth 100000 in
set_option maxHeartbeats 2000000 in
theorem sameCons_any (w : World) (B : Nat) (A1 A2 : Option Addr) (n1 n2 c1 c2 : Nat) (l m : List Cn) (hB : B ≤ w.heap.size) (hl : ConR w B A1 n1 l) (hm : ConR w B A2 n2 m)
    (hn1 : (n1 : Int) ≤ 1048576) (hn2 : (n2 : Int) ≤ 1048576) :
    Calls Try.prog 29 #[.slice A1 n1 c1, .slice A2 n2 c2] w fun e w' => e = .returned (.bool (decide (l = m))) ∧ Below w.heap.size w w' := by
  by_cases hne : n1 = n2
  · subst hne
    have en : ((n1 : Int) != (n1 : Int)) = false := by simp
    go_enter Try.func29, Try.ntmps29
    go_wp2
    go_loopw [5] (fun i wr => ∃ k : Nat, k ≤ n1 ∧ i = .int .i64 k ∧ Agree (0, 0, 0) k l m ∧ Below w.heap.size w wr) (fun i _ => n1 - (intOf i).toNat)
    case atStart => exact ⟨0, Nat.zero_le _, rfl, (fun j hj => absurd hj (by omega)), Below.refl _ _⟩
    case round =>
      obtain ⟨k, hk, rfl, hag, hbel⟩ := hrel
      have HG := Lib.hid hag
      clear hag
      by_cases hlt : k < n1
      · obtain ⟨b, off, rfl, hb, hc⟩ := hl.2 (by omega)
        obtain ⟨x1, x2, x3⟩ := hc k hlt
        obtain ⟨b', off', rfl, hb', hc'⟩ := hm.2 (by omega)
        obtain ⟨y1, y2, y3⟩ := hc' k hlt
        have HL := Lib.hid hl
        have HM := Lib.hid hm
        obtain ⟨t, ht⟩ : ∃ t, l.getD k (0, 0, 0) = t := ⟨_, rfl⟩
        obtain ⟨u, hu⟩ : ∃ u, m.getD k (0, 0, 0) = u := ⟨_, rfl⟩
        rw [ht] at x1 x2 x3
        rw [hu] at y1 y2 y3
        obtain ⟨p, q, q3⟩ := t
        obtain ⟨r, s, s3⟩ := u
        have HT := Lib.hid ht
        have HU := Lib.hid hu
        have k1 := (hbel.cell (p := ⟨b, off + k * 3, none⟩) (by show b < _; omega)).trans x1
        have k2 := (hbel.cell (p := ⟨b, off + k * 3 + 1, none⟩) (by show b < _; omega)).trans x2
        have k3 := (hbel.cell (p := ⟨b', off' + k * 3, none⟩) (by show b' < _; omega)).trans y1
        have k4 := (hbel.cell (p := ⟨b', off' + k * 3 + 1, none⟩) (by show b' < _; omega)).trans y2
        have k5 := (hbel.cell (p := ⟨b, off + k * 3 + 2, none⟩) (by show b < _; omega)).trans x3
        have k6 := (hbel.cell (p := ⟨b', off' + k * 3 + 2, none⟩) (by show b' < _; omega)).trans y3
        have HB := Lib.hid hbel.drew
        clear x1 x2 x3 y1 y2 y3 hc hc' ht hu hl hm hbel
        have HF : Hid ((p, q, q3) ≠ (r, s, s3) → decide (l = m) = false) := by
          show _ → _
          intro heq
          rw [decide_eq_false_iff_not]
          intro h
          apply heq
          rw [← HT.out, ← HU.out, h]
        by_cases e1 : p = r
        · subst e1
          by_cases e2 : q = s
          · subst e2
            by_cases e3 : q3 = s3
            · subst e3
              have HA : Hid (Agree (0, 0, 0) (k + 1) l m) := agree_step HG.out (by rw [HT.out, HU.out])
              go_wp2_with fail
              go_region
              go_wp2
              go_roundw
              case rel => exact ⟨k + 1, by omega, by go_num, HA.out, HB.out⟩
              case measure => simp [intOf]; omega
            · have HF2 := Lib.hid (HF.out (by simp [e3]))
              have d3 : (q3 == s3) = false := by simpa using e3
              clear e3
              go_wp2_with fail
              go_region
              go_wp2
              go_ret
              exact ⟨by rw [HF2.out]; rfl, HB.out⟩
          · have HF2 := Lib.hid (HF.out (by simp [e2]))
            have d2 : (q == s) = false := by simpa using e2
            clear e2
            go_wp2_with fail
            go_region
            go_wp2
            go_ret
            exact ⟨by rw [HF2.out]; rfl, HB.out⟩
        · have HF2 := Lib.hid (HF.out (by simp [e1]))
          have d1 : (p == r) = false := by simpa using e1
          clear e1
          go_wp2_with fail
          go_region
          go_wp2
          go_ret
          exact ⟨by rw [HF2.out]; rfl, HB.out⟩
      · obtain rfl : k = n1 := by omega
        have HF : Hid (decide (l = m) = true) := by
          show _ = _
          rw [decide_eq_true_eq]
          exact agree_all hl.1 hm.1 HG.out
        clear hl hm
        go_wp2
        go_ret
        exact ⟨by rw [HF.out]; rfl, hbel⟩
  · have HF : Hid (decide (l = m) = false) := by
      show _ = _
      rw [decide_eq_false_iff_not]
      intro h
      apply hne
      rw [← hl.1, ← hm.1, h]
    have en : ((n1 : Int) != (n2 : Int)) = true := by simp; omega
    clear hl hm hne
    go_enter Try.func29, Try.ntmps29
    go_wp2
    go_ret
    exact ⟨by rw [HF.out]; rfl, Below.refl _ _⟩
end Go.Proofs.Ytmmhcpigcdlnmaa
