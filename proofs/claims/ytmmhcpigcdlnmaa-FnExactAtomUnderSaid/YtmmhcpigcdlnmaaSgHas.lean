/- SignHas of the program and of the model. -/
import Derived.Test.YtmmhcpigcdlnmaaSgMath
import Derived.Test.YtmmhcpigcdlnmaaBase

namespace Go.Proofs.Ytmmhcpigcdlnmaa
open Go.RowKit

theorem signOk_any (w : World) (s : Int) :
    Calls Try.prog 96 #[.int .i64 s] w fun e w' => e = .returned (.bool (Sg.isSign s)) ∧ w' = w := by
  by_cases h1 : 0 ≤ s
  · by_cases h2 : s ≤ 31
    · go_enter Try.func96, Try.ntmps96
      go_wp2
      go_ret
      exact ⟨by simp [Sg.isSign, h1, h2], rfl⟩
    · go_enter Try.func96, Try.ntmps96
      go_wp2
      go_ret
      exact ⟨by simp [Sg.isSign, h1, h2], rfl⟩
  · go_enter Try.func96, Try.ntmps96
    go_wp2
    go_ret
    exact ⟨by simp [Sg.isSign]; omega, rfl⟩

theorem paramOk_any (w : World) (s : Int) :
    Calls Try.prog 91 #[.int .i64 s] w fun e w' => e = .returned (.bool (Sg.isPar s)) ∧ w' = w := by
  by_cases h1 : 0 ≤ s
  · by_cases h2 : s < 5
    · go_enter Try.func91, Try.ntmps91
      go_wp2
      go_ret
      exact ⟨by simp [Sg.isPar, h1, h2], rfl⟩
    · go_enter Try.func91, Try.ntmps91
      go_wp2
      go_ret
      exact ⟨by simp [Sg.isPar, h1, h2], rfl⟩
  · go_enter Try.func91, Try.ntmps91
    go_wp2
    go_ret
    exact ⟨by simp [Sg.isPar]; omega, rfl⟩

theorem and_one (x : Int) (h : 0 ≤ x) (hx : x ≤ 31) : Go.bits BinOp.and IntKind.i64 x 1 = x % 2 := by
  have : ∀ k : Fin 32, Go.bits BinOp.and IntKind.i64 ((k : Nat) : Int) 1 = ((k : Nat) : Int) % 2 := by decide +kernel
  have := this ⟨x.toNat, by omega⟩
  rwa [show ((x.toNat : Nat) : Int) = x by omega] at this

theorem implSignHas_any (w : World) (s p : Int) :
    Calls Try.prog 94 #[.int .i64 s, .int .i64 p] w fun e w' => e = .returned (.bool (Sg.has s p)) ∧ w' = w := by
  cases h1 : Sg.isSign s with
  | false =>
    have HF : Hid (Sg.has s p = false) := by unfold Hid Sg.has; simp [Sg.isSign] at h1; simp; omega
    go_enter Try.func94, Try.ntmps94
    go_wp2_with fail
    refine (signOk_any w s).mono ?_
    rintro e w' ⟨rfl, rfl⟩
    rw [h1]
    go_wp2
    go_ret
    exact ⟨by rw [HF.out]; rfl, rfl⟩
  | true =>
    cases h2 : Sg.isPar p with
    | false =>
      have HF : Hid (Sg.has s p = false) := by unfold Hid Sg.has; simp [Sg.isPar] at h2; simp; omega
      go_enter Try.func94, Try.ntmps94
      go_wp2_with fail
      refine (signOk_any w s).mono ?_
      rintro e w' ⟨rfl, rfl⟩
      rw [h1]
      go_wp2_with fail
      refine (paramOk_any _ p).mono ?_
      rintro e w' ⟨rfl, rfl⟩
      rw [h2]
      go_wp2
      go_ret
      exact ⟨by rw [HF.out]; rfl, rfl⟩
    | true =>
      have hs : 0 ≤ s ∧ s ≤ 31 := by simpa [Sg.isSign] using h1
      have hp : 0 ≤ p ∧ p < 5 := by simpa [Sg.isPar] using h2
      go_enter Try.func94, Try.ntmps94
      go_wp2_with fail
      refine (signOk_any w s).mono ?_
      rintro e w' ⟨rfl, rfl⟩
      rw [h1]
      go_wp2_with fail
      refine (paramOk_any _ p).mono ?_
      rintro e w' ⟨rfl, rfl⟩
      rw [h2]
      go_wp2
      go_ret
      refine ⟨?_, rfl⟩
      have b1 : 0 ≤ s / 2 ^ p.toNat := Int.ediv_nonneg hs.1 (Int.pow_nonneg (by decide))
      have b2 : s / 2 ^ p.toNat ≤ s := Int.ediv_le_self _ hs.1
      show Ending.returned (.bool (Go.bits BinOp.and IntKind.i64 (s / 2 ^ p.toNat) 1 == 1)) = _
      rw [and_one _ b1 (by omega)]
      unfold Sg.has
      simp [hs, hp]
      rfl

theorem quo_two (x : Int) (h : 0 ≤ x) (k : Nat) : (x / 2 ^ k).tdiv 2 = x / 2 ^ (k + 1) := by
  rw [Int.tdiv_eq_ediv_of_nonneg (Int.ediv_nonneg h (Int.pow_nonneg (by decide))), Int.pow_succ, Int.ediv_ediv_of_nonneg (Int.pow_nonneg (by decide))]

theorem specSignHas_any (w : World) (s p : Int) :
    Calls Try.prog 95 #[.int .i64 s, .int .i64 p] w fun e w' => e = .returned (.bool (Sg.has s p)) ∧ w' = w := by
  by_cases h : 0 ≤ s ∧ s ≤ 31 ∧ 0 ≤ p ∧ p < 5
  · obtain ⟨h1, h2, h3, h4⟩ := h
    go_enter Try.func95, Try.ntmps95
    go_wp2
    go_loopw [0, 1] (fun x i wr => ∃ k : Nat, (k : Int) ≤ p ∧ i = .int .i64 (p - k) ∧ x = .int .i64 (s / 2 ^ k) ∧ wr = w) (fun _ i _ => (intOf i).toNat)
    case atStart => exact ⟨0, by omega, by simp, by simp, rfl⟩
    case round =>
      obtain ⟨k, hk, rfl, rfl, rfl⟩ := hrel
      have b1 : 0 ≤ s / 2 ^ k := Int.ediv_nonneg h1 (Int.pow_nonneg (by decide))
      have b2 : s / 2 ^ k ≤ s := Int.ediv_le_self _ h1
      have hq := quo_two s h1 k
      have b3 : 0 ≤ s / 2 ^ (k + 1) := Int.ediv_nonneg h1 (Int.pow_nonneg (by decide))
      have b4 : s / 2 ^ (k + 1) ≤ 31 := Int.le_trans (Int.ediv_le_self _ h1) h2
      by_cases hlt : (k : Int) < p
      · have d : 0 < p - k := by omega
        go_wp2
        go_roundw
        case rel => exact ⟨k + 1, by omega, by go_num, rfl, trivial⟩
        case measure => simp [intOf]; omega
      · obtain rfl : p = k := by omega
        have d : (k : Int) - k = 0 := by omega
        rw [d]
        go_wp2
        go_ret
        refine ⟨?_, rfl⟩
        show Ending.returned (.bool (s / 2 ^ k % 2 == 1)) = _
        unfold Sg.has
        rw [Int.toNat_natCast]
        simp [h1, h2, h4]
        rfl
  · have HF : Hid (Sg.has s p = false) := by unfold Hid Sg.has; simp; omega
    have hh : s < 0 ∨ 0 ≤ s ∧ 31 < s ∨ 0 ≤ s ∧ s ≤ 31 ∧ p < 0 ∨ 0 ≤ s ∧ s ≤ 31 ∧ 0 ≤ p ∧ 5 ≤ p := by omega
    clear h
    rcases hh with h1 | ⟨h1, h2⟩ | ⟨h1, h2, h3⟩ | ⟨h1, h2, h3, h4⟩
    all_goals
      go_enter Try.func95, Try.ntmps95
      go_wp2
      go_ret
      exact ⟨by rw [HF.out]; rfl, rfl⟩
end Go.Proofs.Ytmmhcpigcdlnmaa
