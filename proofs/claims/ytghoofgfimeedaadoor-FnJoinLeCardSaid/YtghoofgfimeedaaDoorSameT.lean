/- laws.sameToks at equal rows. -/
import Derived.Test.YtghoofgfimeedaaDoorSgLev

namespace Go.Proofs.YtghoofgfimeedaaDoor
open Go.RowKit

set_option maxRecDepth 100000 in
set_option maxHeartbeats 2000000 in
theorem sameT_any (w : World) (B : Nat) (A1 A2 : Option Addr) (n c1 c2 : Nat) (l : List (Int × Int)) (hB : B ≤ w.heap.size) (h1 : TokR w B A1 n l) (h2 : TokR w B A2 n l) (hn : n ≤ 1048576) :
    Calls Tryd.prog 35 #[.slice A1 n c1, .slice A2 n c2] w fun e w' => e = .returned (.bool true) ∧ Below w.heap.size w w' := by
  have en : ((n : Int) != (n : Int)) = false := by simp
  go_enter Tryd.func35, Tryd.ntmps35
  go_wp2
  go_loopw [5] (fun i wr => ∃ k : Nat, k ≤ n ∧ i = .int .i64 k ∧ Below w.heap.size w wr) (fun i _ => n - (intOf i).toNat)
  case atStart => exact ⟨0, Nat.zero_le _, rfl, Below.refl _ _⟩
  case round =>
    obtain ⟨k, hk, rfl, hbel⟩ := hrel
    by_cases hlt : k < n
    · obtain ⟨b, off, rfl, hb, hc⟩ := h1.2 (by omega)
      obtain ⟨x1, x2⟩ := hc k hlt
      obtain ⟨b', off', rfl, hb', hc'⟩ := h2.2 (by omega)
      obtain ⟨y1, y2⟩ := hc' k hlt
      obtain ⟨t, ht⟩ : ∃ t, l.getD k (0, 0) = t := ⟨_, rfl⟩
      rw [ht] at x1 x2 y1 y2
      obtain ⟨p, q⟩ := t
      have k1 := (hbel.cell (p := ⟨b, off + k * 2, none⟩) (by show b < _; omega)).trans x1
      have k2 := (hbel.cell (p := ⟨b, off + k * 2 + 1, none⟩) (by show b < _; omega)).trans x2
      have k3 := (hbel.cell (p := ⟨b', off' + k * 2, none⟩) (by show b' < _; omega)).trans y1
      have k4 := (hbel.cell (p := ⟨b', off' + k * 2 + 1, none⟩) (by show b' < _; omega)).trans y2
      have HH1 := Lib.hid h1
      have HH2 := Lib.hid h2
      clear x1 x2 y1 y2 hc hc' ht h1 h2
      go_wp2_with fail
      go_region
      go_wp2
      go_roundw
      case rel => exact ⟨k + 1, by omega, by go_num, hbel.drew⟩
      case measure => simp [intOf]; omega
    · obtain rfl : k = n := by omega
      go_wp2
      go_ret
      exact ⟨rfl, hbel⟩
end Go.Proofs.YtghoofgfimeedaaDoor
