/- SignOf of the program and of the model. -/
import Derived.Test.YtijiohdddfdjfaaDoorSgHas
import Derived.Test.YtijiohdddfdjfaaDoorEvalLaw
namespace Go.Proofs.YtijiohdddfdjfaaDoor
open Go.RowKit

namespace Sg
/-- what SignOf answers -/
def sgR (env : List Int) : Int := if envOk env = true then bits env else -1
theorem bits_cons (v : Int) (l : List Int) : bits (v :: l) = (if v > 0 then 1 else 0) + 2 * bits l := rfl
theorem bits_take (l : List Int) (k : Nat) (hk : k < l.length) : bits (l.take (k + 1)) = bits (l.take k) + (if l.getD k 0 > 0 then 2 ^ k else 0) := by
  induction l generalizing k with
  | nil => simp at hk
  | cons v l ih =>
    cases k with
    | zero => simp [bits]
    | succ k =>
      rw [List.length_cons] at hk
      rw [List.take_succ_cons, List.take_succ_cons, bits_cons, bits_cons, ih k (by omega), List.getD_cons_succ, Int.pow_succ]
      split <;> split <;> omega
theorem bits_drop (l : List Int) (k : Nat) (hk : k < l.length) : bits (l.drop k) = 2 * bits (l.drop (k + 1)) + (if l.getD k 0 > 0 then 1 else 0) := by
  rw [List.drop_eq_getElem_cons hk, bits_cons, List.getD_eq_getElem?_getD, List.getElem?_eq_getElem hk]
  simp only [Option.getD_some]
  omega
end Sg

theorem or_bit (k : Nat) (hk : k < 5) (x : Int) (h : 0 ≤ x) (hx : x < 2 ^ k) : Go.bits BinOp.or IntKind.i64 x (2 ^ k) = x + 2 ^ k := by
  have : ∀ k : Fin 5, ∀ m : Fin 32, ((m : Nat) : Int) < 2 ^ (k : Nat) → Go.bits BinOp.or IntKind.i64 ((m : Nat) : Int) (2 ^ (k : Nat)) = ((m : Nat) : Int) + 2 ^ (k : Nat) := by decide +kernel
  have h5 : (2 : Int) ^ k ≤ 2 ^ 5 := by
    have : ∀ k : Fin 5, (2 : Int) ^ (k : Nat) ≤ 2 ^ 5 := by decide
    exact this ⟨k, hk⟩
  have := this ⟨k, hk⟩ ⟨x.toNat, by omega⟩
  simp only [show ((x.toNat : Nat) : Int) = x by omega] at this
  exact this hx

set_option maxHeartbeats 800000 in
theorem implSignOf_any (w : World) (B : Nat) (A : Option Addr) (n c : Nat) (env : List Int) (hR : IntR w B A n env) (hn : (n : Int) ≤ 140737488355328) :
    Calls Tryd.prog 12 #[.slice A n c] w fun e w' => e = .returned (.int .i64 (Sg.sgR env)) ∧ w' = w := by
  cases hok : envOk env with
  | false =>
    have HF : Hid (Sg.sgR env = -1) := by unfold Hid Sg.sgR; rw [if_neg (by rw [hok]; decide)]
    go_enter Tryd.func12, Tryd.ntmps12
    go_wp2_with fail
    refine (envOk_any w B A n c env hR hn).mono ?_
    rintro e w' ⟨rfl, rfl⟩
    rw [hok]
    go_wp2
    go_ret
    exact ⟨by rw [HF.out]; rfl, rfl⟩
  | true =>
    have HF : Hid (Sg.sgR env = Sg.bits env) := by unfold Hid Sg.sgR; rw [if_pos hok]
    have hm := envOk_mem hok
    obtain rfl : n = 5 := by rw [← hR.1]; exact hm.1
    have HL := Lib.hid hm.1
    go_enter Tryd.func12, Tryd.ntmps12
    go_wp2_with fail
    refine (envOk_any w B A 5 c env hR hn).mono ?_
    rintro e w' ⟨rfl, rfl⟩
    rw [hok]
    obtain ⟨b, off, rfl, hb, hc⟩ := hR.2 (by omega)
    clear hm hok hR
    go_wp2
    go_loop [3, 11] (fun s i => ∃ k : Nat, k ≤ 5 ∧ i = .int .i64 k ∧ s = .int .i64 (Sg.bits (env.take k))) (fun _ i => 5 - (intOf i).toNat)
    case atStart => exact ⟨0, by omega, rfl, rfl⟩
    case round =>
      obtain ⟨k, hk, rfl, rfl⟩ := hrel
      by_cases hlt : k < 5
      · have hcell := hc k hlt
        have HB := Lib.hid (Sg.bits_take env k (by rw [HL.out]; exact hlt))
        have b1 := Sg.bits_nonneg (env.take k)
        have HB2 := Lib.hid (Sg.bits_lt (env.take k))
        have HT : Hid ((env.take k).length = k) := by unfold Hid; rw [List.length_take, HL.out]; omega
        generalize Sg.bits (env.take k) = x at *
        generalize env.getD k 0 = v at hcell HB
        have hp : (2 : Int) ^ k ≤ 16 ∧ 0 < (2 : Int) ^ k := by
          have : ∀ k : Fin 5, (2 : Int) ^ (k : Nat) ≤ 16 ∧ 0 < (2 : Int) ^ (k : Nat) := by decide
          exact this ⟨k, hlt⟩
        have ho := or_bit k hlt x b1 (by have := HB2.out; rw [HT.out] at this; exact this)
        obtain ⟨hp1, hp2⟩ := hp
        clear hc
        by_cases hv : 0 < v
        · go_wp2
          go_round
          case rel => exact ⟨k + 1, by omega, by go_num, by rw [HB.out, if_pos hv]⟩
          case measure => simp [intOf]; omega
        · go_wp2
          go_round
          case rel => exact ⟨k + 1, by omega, by go_num, by rw [HB.out, if_neg hv, Int.add_zero]⟩
          case measure => simp [intOf]; omega
      · obtain rfl : k = 5 := by omega
        have HT : Hid (env.take 5 = env) := by unfold Hid; rw [List.take_of_length_le (by rw [HL.out]; omega)]
        clear hc
        go_wp2
        go_ret
        exact ⟨by rw [HF.out, HT.out]; rfl, rfl⟩

set_option maxHeartbeats 800000 in
theorem specSignOf_any (w : World) (B : Nat) (A : Option Addr) (n c : Nat) (env : List Int) (hR : IntR w B A n env) (hn : (n : Int) ≤ 140737488355328) :
    Calls Tryd.prog 13 #[.slice A n c] w fun e w' => e = .returned (.int .i64 (Sg.sgR env)) ∧ w' = w := by
  cases hok : envOk env with
  | false =>
    have HF : Hid (Sg.sgR env = -1) := by unfold Hid Sg.sgR; rw [if_neg (by rw [hok]; decide)]
    go_enter Tryd.func13, Tryd.ntmps13
    go_wp2_with fail
    refine (specEnv_any w B A n c env hR hn).mono ?_
    rintro e w' ⟨rfl, rfl⟩
    rw [hok]
    go_wp2
    go_ret
    exact ⟨by rw [HF.out]; rfl, rfl⟩
  | true =>
    have HF : Hid (Sg.sgR env = Sg.bits env) := by unfold Hid Sg.sgR; rw [if_pos hok]
    have hm := envOk_mem hok
    obtain rfl : n = 5 := by rw [← hR.1]; exact hm.1
    have HL := Lib.hid hm.1
    go_enter Tryd.func13, Tryd.ntmps13
    go_wp2_with fail
    refine (specEnv_any w B A 5 c env hR hn).mono ?_
    rintro e w' ⟨rfl, rfl⟩
    rw [hok]
    obtain ⟨b, off, rfl, hb, hc⟩ := hR.2 (by omega)
    clear hm hok hR
    go_wp2
    go_loop [3, 4] (fun s i => ∃ k : Nat, k ≤ 5 ∧ i = .int .i64 ((k : Int) - 1) ∧ s = .int .i64 (Sg.bits (env.drop k))) (fun _ i => (intOf i + 1).toNat)
    case atStart => exact ⟨5, by omega, rfl, by rw [List.drop_of_length_le (by rw [HL.out]; omega)]; rfl⟩
    case round =>
      obtain ⟨k, hk, rfl, rfl⟩ := hrel
      by_cases hlt : 0 < k
      · obtain ⟨j, rfl⟩ : ∃ j, k = j + 1 := ⟨k - 1, by omega⟩
        have hj : j < 5 := by omega
        have hcell := hc j hj
        have HB := Lib.hid (Sg.bits_drop env j (by rw [HL.out]; omega))
        have b1 := Sg.bits_nonneg (env.drop (j + 1))
        have b2 : Sg.bits (env.drop (j + 1)) < 32 := by
          have h1 := Sg.bits_lt (env.drop (j + 1))
          have h2 : (env.drop (j + 1)).length = 4 - j := by rw [List.length_drop, HL.out]; omega
          rw [h2] at h1
          have h3 : ∀ j : Fin 5, (2 : Int) ^ (4 - (j : Nat)) ≤ 32 := by decide
          exact Int.lt_of_lt_of_le h1 (h3 ⟨j, hj⟩)
        generalize Sg.bits (env.drop (j + 1)) = x at *
        generalize env.getD j 0 = v at hcell HB
        have e1 : ((j + 1 : Nat) : Int) - 1 = j := by omega
        rw [e1]
        clear hc
        by_cases hv : 0 < v
        · go_wp2
          go_round
          case rel => exact ⟨j, by omega, by go_num, by rw [HB.out, if_pos hv]⟩
          case measure => simp [intOf]
        · go_wp2
          go_round
          case rel => exact ⟨j, by omega, by go_num, by rw [HB.out, if_neg hv, Int.add_zero]⟩
          case measure => simp [intOf]
      · obtain rfl : k = 0 := by omega
        have e1 : ((0 : Nat) : Int) - 1 = -1 := by omega
        rw [e1]
        clear hc
        go_wp2
        go_ret
        exact ⟨by rw [HF.out]; rfl, rfl⟩

theorem implSignOf_bel (w : World) (B : Nat) (A : Option Addr) (n c : Nat) (env : List Int) (hR : IntR w B A n env) (hn : (n : Int) ≤ 140737488355328) :
    Calls Tryd.prog 12 #[.slice A n c] w fun e w' => e = .returned (.int .i64 (Sg.sgR env)) ∧ Below w.heap.size w w' :=
  (implSignOf_any w B A n c env hR hn).mono fun _ _ ⟨h, h'⟩ => ⟨h, h' ▸ Below.refl _ _⟩
theorem specSignOf_bel (w : World) (B : Nat) (A : Option Addr) (n c : Nat) (env : List Int) (hR : IntR w B A n env) (hn : (n : Int) ≤ 140737488355328) :
    Calls Tryd.prog 13 #[.slice A n c] w fun e w' => e = .returned (.int .i64 (Sg.sgR env)) ∧ Below w.heap.size w w' :=
  (specSignOf_any w B A n c env hR hn).mono fun _ _ ⟨h, h'⟩ => ⟨h, h' ▸ Below.refl _ _⟩
end Go.Proofs.YtijiohdddfdjfaaDoor
