/- The laws' marks upon slices of constraints. -/
import Derived.Test.YtmmhcpigcdlnmaaLawC
namespace Go.Proofs.Ytmmhcpigcdlnmaa
open Go.RowKit
open Cs (Cn)

set_option maxHeartbeats 800000 in
theorem markConS_any (w : World) (base : Nat) (A : Option Addr) (n c : Nat) (xs : List Value) (hown : w.ownsRow base 34 3 (.slice A n c) n xs) (k : Nat) (hn : n ≤ 3000000) (hk : k ≤ 3000000) :
    Calls Try.prog 40 #[.slice A n c, .int .i64 k] w fun e w' => e = .returned (.int .i64 ((k + n * 3 : Nat) : Int)) ∧ MarkOut w base 34 3 (.slice A n c) n k w' := by
  by_cases h0 : n = 0
  · subst h0
    have HO := Lib.hid (own_empty hown k)
    clear hown
    go_enter Try.func40, Try.ntmps40
    go_wp2
    go_loop [1, 5] (fun m i => m = .int .i64 k ∧ i = .int .i64 0) (fun _ _ => 0)
    case atStart => exact ⟨rfl, rfl⟩
    case round =>
      obtain ⟨rfl, rfl⟩ := hrel
      go_wp2
      go_ret
      exact ⟨rfl, World.grownBy.refl _ _, rfl, HO.out⟩
  · rcases hown.2 with ⟨_, h⟩ | ⟨g, cap, cur, hv, hb, hgg, h1, h2, h3, h4⟩
    · omega
    · injection hv with e1 e2 e3
      subst e1; subst e3
      have hblk : Blk w g 34 cur := hgg
      have HS : Hid (Marking w g 34 (c * 3) k 0 w) := ⟨World.grownBy.refl _ _, rfl, cur, hblk, h3, by intro i hi; omega⟩
      have HW := Lib.hid hown
      clear hgg hblk h3 h4 hown
      go_enter Try.func40, Try.ntmps40
      go_wp2
      go_loopw [1, 5] (fun m i wr => ∃ j : Nat, j ≤ n ∧ i = .int .i64 j ∧ m = .int .i64 ((k + j * 3 : Nat) : Int) ∧ Marking w g 34 (c * 3) k (j * 3) wr) (fun _ i _ => n - (intOf i).toNat)
      case atStart => exact ⟨0, Nat.zero_le _, rfl, rfl, HS.out⟩
      case round =>
        obtain ⟨j, hj, rfl, rfl, hM⟩ := hrel
        by_cases hlt : j < n
        · have hM1 := marking_step hM (by omega)
          have hM2 := marking_step hM1 (by omega)
          have HN := Lib.hid (marking_step hM2 (by omega))
          obtain ⟨_, _, cs, hblk, hs, _⟩ := hM
          have f1 := hblk.thawed (j * 3)
          have f2 := hblk.thawed (j * 3 + 1)
          have f3 := hblk.thawed (j * 3 + 2)
          obtain ⟨v1, d1⟩ : ∃ v1, wr.cell? ⟨g, j * 3, none⟩ = some v1 := ⟨_, (hblk.cell _).trans (Array.getElem?_eq_getElem (by omega))⟩
          obtain ⟨v2, d2⟩ : ∃ v2, wr.cell? ⟨g, j * 3 + 1, none⟩ = some v2 := ⟨_, (hblk.cell _).trans (Array.getElem?_eq_getElem (by omega))⟩
          obtain ⟨v3, d3⟩ : ∃ v3, wr.cell? ⟨g, j * 3 + 2, none⟩ = some v3 := ⟨_, (hblk.cell _).trans (Array.getElem?_eq_getElem (by omega))⟩
          clear hblk hs hM1 hM2
          go_wp2
          go_roundw
          case rel => exact ⟨j + 1, by omega, by go_num, by go_num, by
            have h := HN.out
            rw [show (j + 1) * 3 = j * 3 + 1 + 1 + 1 by omega]
            simpa [Nat.add_assoc, Int.add_assoc] using h⟩
          case measure => simp [intOf]; omega
        · obtain rfl : j = n := by omega
          have HM := Lib.hid hM
          clear hM
          go_wp2
          go_ret
          have hM := HM.out
          exact ⟨rfl, hM.1, hM.2.1, marked (size := 3) HW.out hM⟩

theorem ConOwn.mark {w w' : World} {g n base m k size : Nat} {e : TypeId} {v : Value} {l : List Cn} {lo hi : Nat} (h : ConOwn w g n l) (hm : MarkOut w base e size v m k w') (hv : InR v lo hi) (hd : g < lo ∨ hi ≤ g) : ConOwn w' g n l := by
  obtain ⟨hl, cs, hblk, rest⟩ := h
  refine ⟨hl, cs, ?_, rest⟩
  exact (hm.1.block g hblk.lt (fun he => by have := hv g he.symm; omega)).trans hblk
end Go.Proofs.Ytmmhcpigcdlnmaa
