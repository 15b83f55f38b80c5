/- slices.Clone, slices.IndexFunc and slices.DeleteFunc on rows of numbers, as leaveOut calls them. -/
import Derived.Test.YtmmhcpigcdlnmaaSigns1
import Derived.Lib.SliceRun

namespace Go.Proofs.Ytmmhcpigcdlnmaa
open Go.RowKit
open Cs (Cn Tb)

set_option maxRecDepth 100000 in
set_option maxHeartbeats 800000 in
theorem cloneI_any (w : World) (g n c base : Nat) (l : List Int) (hl : OwnI w base (some ⟨g, 0, none⟩) n c l) (hn : n ≤ 1000) :
    Calls Try.prog 88 #[.slice (some ⟨g, 0, none⟩) n c] w fun e w' => ∃ g2 c2, e = .returned (.slice (some ⟨g2, 0, none⟩) n c2) ∧ OwnI w' w.heap.size (some ⟨g2, 0, none⟩) n c2 l ∧ Below w.heap.size w w' := by
  obtain ⟨i0, hi, hz0, hz1, hz2⟩ := info_parts info_int
  have hlen : l.length = n := by have := hl.1; simpa using this
  have hb0 : Below w.heap.size w (w.alloc (.cells #[] 3)) := (Below.refl _ _).alloc (Nat.le_refl _) _
  have ho0 : OwnI (w.alloc (.cells #[] 3)) w.heap.size (some ⟨w.heap.size, 0, none⟩) 0 0 [] := World.ownsRow_made w #[] 0 (Nat.le_refl _) (by simp [maxLen]) (by simp)
  have hc0 := own_below' hl hb0
  have hnews : ∀ j u, (l.map (Value.int .i64))[j]? = some u → (w.alloc (.cells #[] 3)).cell? ((⟨g, 0, none⟩ : Addr).add j) = some u := fun j u hu => hc0.cells (g := g) rfl j u hu
  have hones : ∀ u ∈ l.map (Value.int .i64), u.oneCell' = true := fun u hu => by
    simp only [List.mem_map] at hu
    obtain ⟨x, _, rfl⟩ := hu
    rfl
  have hcl : (l.map (Value.int .i64)).length = n * 1 := by simp [hlen]
  have hnil := Lib.run_eql_slice_nil (P := Try.prog)
  clear hl hc0 hlen
  go_enter Try.func88, Try.ntmps88
  go_wp2_with (at_builtin; refine wpList_append_own _ rfl (.tmp 5) (.tmp 6) 26 rfl w.heap.size 3 i0 (.int .i64 0) 1 8 Try.underlying26 hi hz0 hz1 hz2 rfl (by decide) (.slice (some ⟨w.heap.size, 0, none⟩) 0 0) 0 [] rfl ho0 ⟨g, 0, none⟩ n c (l.map (Value.int .i64)) rfl hcl hnews hones (by unfold maxLen; omega) (by omega) (by simp) ?_; intro v' w3 hown' hgrow hnil)
  obtain ⟨g', cap', rfl⟩ : ∃ g' cap', v' = .slice (some ⟨g', 0, none⟩) n cap' := by
    rcases hown'.2 with ⟨h0, _⟩ | ⟨g', cap', _, h0, _⟩
    · have := (hnil.1 h0).1
      cases this
    · rw [Nat.zero_add] at h0; exact ⟨g', cap', h0⟩
  have HB3 : Hid (Below w.heap.size w w3) := hb0.grown hgrow (by simp) (fun k h => by have h' : w.heap.size = k := (by simpa [Value.ownBlock] using h); omega)
  have HW0 : Hid (OwnI w3 w.heap.size (some ⟨g', 0, none⟩) n cap' l) := by
    have h := hown'
    rw [List.nil_append, Nat.zero_add] at h
    exact h
  clear hown' hgrow hnil ho0 hb0 hnews
  go_wp2
  go_ret
  exact ⟨g', cap', rfl, HW0.out, HB3.out⟩

set_option maxHeartbeats 400000 in
theorem leave1_any (w : World) (k x : Int) (ib : Nat) (hi : w.cell? ⟨ib, 0, none⟩ = some (.int .i64 x)) :
    Calls Try.prog 89 #[.int .i64 k, .pointer (some ⟨ib, 0, none⟩)] w fun e w' => e = .returned (.bool (k == x)) ∧ w' = w := by
  go_enter Try.func89, Try.ntmps89
  go_wp2
  go_ret
  exact ⟨rfl, rfl⟩

set_option maxRecDepth 100000 in
set_option maxHeartbeats 800000 in
/-- the first place of x, which is there -/
theorem indexI_any (w : World) (g n c base ib : Nat) (l : List Int) (x : Int) (j : Nat) (hl : OwnI w base (some ⟨g, 0, none⟩) n c l) (hn : n ≤ 1000) (hi : w.cell? ⟨ib, 0, none⟩ = some (.int .i64 x)) (hj : j < n) (hx : l.getD j 0 = x) (hf : ∀ i, i < j → l.getD i 0 ≠ x) :
    Calls Try.prog 105 #[.slice (some ⟨g, 0, none⟩) n c, .func (.func 89) #[] #[.pointer (some ⟨ib, 0, none⟩)]] w fun e w' => e = .returned (.int .i64 (j : Int)) ∧ w' = w := by
  have hlen : l.length = n := by have := hl.1; simpa using this
  have HC : Hid (∀ i, i < n → w.cell? ⟨g, i, none⟩ = some (.int .i64 (l.getD i 0))) := fun i hi => by
    refine (own_spot hl ?_).1
    have hi' : i < l.length := by omega
    simp [List.getD_eq_getElem?_getD, List.getElem?_eq_getElem hi']
  have HF := Lib.hid hf
  clear hl hlen hf
  go_enter Try.func105, Try.ntmps105
  go_wp2
  go_loop [8] (fun i => ∃ k : Nat, k ≤ j ∧ i = .int .i64 k) (fun i => n - (intOf i).toNat)
  case atStart => exact ⟨0, Nat.zero_le _, rfl⟩
  case round =>
    obtain ⟨k, hk, rfl⟩ := hrel
    have hki : (k : Int) < (n : Int) := by omega
    have k1 := HC.out k (by omega)
    by_cases e : k = j
    · subst e
      rw [hx] at k1
      go_wp2_with fail
      refine (leave1_any w x x ib hi).mono ?_
      rintro e w1 ⟨rfl, rfl⟩
      rw [show (x == x) = true by simp]
      go_wp2
      go_ret
      exact ⟨rfl, rfl⟩
    · have hne := HF.out k (by omega)
      have d1 : (l.getD k 0 == x) = false := by simpa using hne
      generalize l.getD k 0 = y at k1 d1 hne
      clear hne
      go_wp2_with fail
      refine (leave1_any w y x ib hi).mono ?_
      rintro e w1 ⟨rfl, rfl⟩
      rw [d1]
      go_wp2
      go_round
      case rel => exact ⟨k + 1, by omega, by go_num⟩
      case measure => simp [intOf]; omega
end Go.Proofs.Ytmmhcpigcdlnmaa
