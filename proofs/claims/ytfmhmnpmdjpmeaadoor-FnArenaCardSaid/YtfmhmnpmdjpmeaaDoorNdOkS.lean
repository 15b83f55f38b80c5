/- A node right at its place: the model's l08Node. -/
/- ArenaOk: the program's and the model's. -/
import Derived.Test.YtfmhmnpmdjpmeaaDoorNdOps
import Derived.Test.YtfmhmnpmdjpmeaaDoorNdWith2

namespace Go.Proofs.YtfmhmnpmdjpmeaaDoor
open Go.RowKit

set_option maxRecDepth 100000 in
set_option maxHeartbeats 4000000 in
theorem l08Node_any (w : World) (o n a b : Int) (k : Nat) : Calls Tryd.prog 95 #[.agg #[.int .i64 o, .int .i64 n, .int .i64 a, .int .i64 b], .int .i64 (k : Int)] w fun e w' => e = .returned (.bool (ndOk (o, n, a, b) k)) ∧ Below w.heap.size w w' := by
  have HB : Hid (Below w.heap.size w (w.alloc (.cells #[.int .i64 o, .int .i64 n, .int .i64 a, .int .i64 b] 72))) := (Below.refl _ _).alloc (Nat.le_refl _) _

  by_cases hb : 0 ≤ b
  · skip
    by_cases h0 : o = 0
    · subst h0
      by_cases hn : n = 0
      · subst hn
        by_cases ha : a = -1
        · subst ha
          have HF : Hid (ndOk (0, 0, (-1), b) k = (b == -1)) := by show _ = _; rw [Bool.eq_iff_iff]; simp [ndOk, tokB, opdB, tkA, tkB] <;> omega
          have db : decide (0 ≤ b) = true := decide_eq_true hb
          clear hb
          go_enter Tryd.func95, Tryd.ntmps95
          go_wp2
          go_ret
          exact ⟨by rw [HF.out]; rfl, HB.out⟩
        · have ea : (a == -1) = false := by simpa using ha
          have HF : Hid (ndOk (0, 0, a, b) k = false) := by show _ = _; rw [Bool.eq_iff_iff]; simp [ndOk, tokB, opdB, tkA, tkB] <;> omega
          have db : decide (0 ≤ b) = true := decide_eq_true hb
          clear hb ha
          go_enter Tryd.func95, Tryd.ntmps95
          go_wp2
          go_ret
          exact ⟨by rw [HF.out]; rfl, HB.out⟩
      · have en : (n == 0) = false := by simpa using hn
        have HF : Hid (ndOk (0, n, a, b) k = false) := by show _ = _; rw [Bool.eq_iff_iff]; simp [ndOk, tokB, opdB, tkA, tkB] <;> omega
        have db : decide (0 ≤ b) = true := decide_eq_true hb
        clear hb hn
        go_enter Tryd.func95, Tryd.ntmps95
        go_wp2
        go_ret
        exact ⟨by rw [HF.out]; rfl, HB.out⟩
    · have e0 : (o == 0) = false := by simpa using h0
      by_cases h1 : o = 1
      · subst h1
        by_cases hn : n = 0
        · subst hn
          by_cases ha : a = -1
          · subst ha
            have HF : Hid (ndOk (1, 0, (-1), b) k = decide (b < (k : Int))) := by show _ = _; rw [Bool.eq_iff_iff]; simp [ndOk, tokB, opdB, tkA, tkB] <;> omega
            have db : decide (0 ≤ b) = true := decide_eq_true hb
            clear hb
            go_enter Tryd.func95, Tryd.ntmps95
            go_wp2
            go_ret
            exact ⟨by rw [HF.out]; rfl, HB.out⟩
          · have ea : (a == -1) = false := by simpa using ha
            have HF : Hid (ndOk (1, 0, a, b) k = false) := by show _ = _; rw [Bool.eq_iff_iff]; simp [ndOk, tokB, opdB, tkA, tkB] <;> omega
            have db : decide (0 ≤ b) = true := decide_eq_true hb
            clear hb ha
            go_enter Tryd.func95, Tryd.ntmps95
            go_wp2
            go_ret
            exact ⟨by rw [HF.out]; rfl, HB.out⟩
        · have en : (n == 0) = false := by simpa using hn
          have HF : Hid (ndOk (1, n, a, b) k = false) := by show _ = _; rw [Bool.eq_iff_iff]; simp [ndOk, tokB, opdB, tkA, tkB] <;> omega
          have db : decide (0 ≤ b) = true := decide_eq_true hb
          clear hb hn
          go_enter Tryd.func95, Tryd.ntmps95
          go_wp2
          go_ret
          exact ⟨by rw [HF.out]; rfl, HB.out⟩
      · have e1 : (o == 1) = false := by simpa using h1
        by_cases h2 : o = 2
        · subst h2
          by_cases hn : n = 0
          · subst hn
            by_cases ha : 0 ≤ a
            · have da : decide (0 ≤ a) = true := decide_eq_true ha
              by_cases hc : a < (k : Int)
              · have dc : decide (a < (k : Int)) = true := decide_eq_true hc
                have HF : Hid (ndOk (2, 0, a, b) k = decide (b < (k : Int))) := by show _ = _; rw [Bool.eq_iff_iff]; simp [ndOk, tokB, opdB, tkA, tkB] <;> omega
                have db : decide (0 ≤ b) = true := decide_eq_true hb
                clear hb ha hc
                go_enter Tryd.func95, Tryd.ntmps95
                go_wp2
                go_ret
                exact ⟨by rw [HF.out]; rfl, HB.out⟩
              · have dc : decide (a < (k : Int)) = false := decide_eq_false hc
                have HF : Hid (ndOk (2, 0, a, b) k = false) := by show _ = _; rw [Bool.eq_iff_iff]; simp [ndOk, tokB, opdB, tkA, tkB] <;> omega
                have db : decide (0 ≤ b) = true := decide_eq_true hb
                clear hb ha hc
                go_enter Tryd.func95, Tryd.ntmps95
                go_wp2
                go_ret
                exact ⟨by rw [HF.out]; rfl, HB.out⟩
            · have da : decide (0 ≤ a) = false := decide_eq_false ha
              have HF : Hid (ndOk (2, 0, a, b) k = false) := by show _ = _; rw [Bool.eq_iff_iff]; simp [ndOk, tokB, opdB, tkA, tkB] <;> omega
              have db : decide (0 ≤ b) = true := decide_eq_true hb
              clear hb ha
              go_enter Tryd.func95, Tryd.ntmps95
              go_wp2
              go_ret
              exact ⟨by rw [HF.out]; rfl, HB.out⟩
          · have en : (n == 0) = false := by simpa using hn
            have HF : Hid (ndOk (2, n, a, b) k = false) := by show _ = _; rw [Bool.eq_iff_iff]; simp [ndOk, tokB, opdB, tkA, tkB] <;> omega
            have db : decide (0 ≤ b) = true := decide_eq_true hb
            clear hb hn
            go_enter Tryd.func95, Tryd.ntmps95
            go_wp2
            go_ret
            exact ⟨by rw [HF.out]; rfl, HB.out⟩
        · have e2 : (o == 2) = false := by simpa using h2
          by_cases h3 : o = 3
          · subst h3
            by_cases hn : n = 0
            · subst hn
              by_cases ha : 0 ≤ a
              · have da : decide (0 ≤ a) = true := decide_eq_true ha
                by_cases hc : a < (k : Int)
                · have dc : decide (a < (k : Int)) = true := decide_eq_true hc
                  have HF : Hid (ndOk (3, 0, a, b) k = decide (b < (k : Int))) := by show _ = _; rw [Bool.eq_iff_iff]; simp [ndOk, tokB, opdB, tkA, tkB] <;> omega
                  have db : decide (0 ≤ b) = true := decide_eq_true hb
                  clear hb ha hc
                  go_enter Tryd.func95, Tryd.ntmps95
                  go_wp2
                  go_ret
                  exact ⟨by rw [HF.out]; rfl, HB.out⟩
                · have dc : decide (a < (k : Int)) = false := decide_eq_false hc
                  have HF : Hid (ndOk (3, 0, a, b) k = false) := by show _ = _; rw [Bool.eq_iff_iff]; simp [ndOk, tokB, opdB, tkA, tkB] <;> omega
                  have db : decide (0 ≤ b) = true := decide_eq_true hb
                  clear hb ha hc
                  go_enter Tryd.func95, Tryd.ntmps95
                  go_wp2
                  go_ret
                  exact ⟨by rw [HF.out]; rfl, HB.out⟩
              · have da : decide (0 ≤ a) = false := decide_eq_false ha
                have HF : Hid (ndOk (3, 0, a, b) k = false) := by show _ = _; rw [Bool.eq_iff_iff]; simp [ndOk, tokB, opdB, tkA, tkB] <;> omega
                have db : decide (0 ≤ b) = true := decide_eq_true hb
                clear hb ha
                go_enter Tryd.func95, Tryd.ntmps95
                go_wp2
                go_ret
                exact ⟨by rw [HF.out]; rfl, HB.out⟩
            · have en : (n == 0) = false := by simpa using hn
              have HF : Hid (ndOk (3, n, a, b) k = false) := by show _ = _; rw [Bool.eq_iff_iff]; simp [ndOk, tokB, opdB, tkA, tkB] <;> omega
              have db : decide (0 ≤ b) = true := decide_eq_true hb
              clear hb hn
              go_enter Tryd.func95, Tryd.ntmps95
              go_wp2
              go_ret
              exact ⟨by rw [HF.out]; rfl, HB.out⟩
          · have e3 : (o == 3) = false := by simpa using h3
            by_cases h4 : o = 4
            · subst h4
              by_cases hn : 0 ≤ n
              · have dn : decide (0 ≤ n) = true := decide_eq_true hn
                by_cases hm : n < 5
                · have dm : decide (n < 5) = true := decide_eq_true hm
                  by_cases ha : a = -1
                  · subst ha
                    have HF : Hid (ndOk (4, n, (-1), b) k = (b == -1)) := by show _ = _; rw [Bool.eq_iff_iff]; simp [ndOk, tokB, opdB, tkA, tkB] <;> omega
                    have db : decide (0 ≤ b) = true := decide_eq_true hb
                    clear hb hn hm
                    go_enter Tryd.func95, Tryd.ntmps95
                    go_wp2
                    go_ret
                    exact ⟨by rw [HF.out]; rfl, HB.out⟩
                  · have ea : (a == -1) = false := by simpa using ha
                    have HF : Hid (ndOk (4, n, a, b) k = false) := by show _ = _; rw [Bool.eq_iff_iff]; simp [ndOk, tokB, opdB, tkA, tkB] <;> omega
                    have db : decide (0 ≤ b) = true := decide_eq_true hb
                    clear hb hn hm ha
                    go_enter Tryd.func95, Tryd.ntmps95
                    go_wp2
                    go_ret
                    exact ⟨by rw [HF.out]; rfl, HB.out⟩
                · have dm : decide (n < 5) = false := decide_eq_false hm
                  have HF : Hid (ndOk (4, n, a, b) k = false) := by show _ = _; rw [Bool.eq_iff_iff]; simp [ndOk, tokB, opdB, tkA, tkB] <;> omega
                  have db : decide (0 ≤ b) = true := decide_eq_true hb
                  clear hb hn hm
                  go_enter Tryd.func95, Tryd.ntmps95
                  go_wp2
                  go_ret
                  exact ⟨by rw [HF.out]; rfl, HB.out⟩
              · have dn : decide (0 ≤ n) = false := decide_eq_false hn
                have HF : Hid (ndOk (4, n, a, b) k = false) := by show _ = _; rw [Bool.eq_iff_iff]; simp [ndOk, tokB, opdB, tkA, tkB] <;> omega
                have db : decide (0 ≤ b) = true := decide_eq_true hb
                clear hb hn
                go_enter Tryd.func95, Tryd.ntmps95
                go_wp2
                go_ret
                exact ⟨by rw [HF.out]; rfl, HB.out⟩
            · have e4 : (o == 4) = false := by simpa using h4
              have ht : tokB o n = false := by
                unfold tokB
                rw [if_neg h4]
                simp
                intro _ _
                omega
              have HF : Hid (ndOk (o, n, a, b) k = false) := by show _ = _; simp [ndOk, ht]
              have db : decide (0 ≤ b) = true := decide_eq_true hb
              clear hb h0 h1 h2 h3 h4 ht
              go_enter Tryd.func95, Tryd.ntmps95
              go_wp2
              go_ret
              exact ⟨by rw [HF.out]; rfl, HB.out⟩
  · skip
    by_cases h0 : o = 0
    · subst h0
      by_cases hn : n = 0
      · subst hn
        by_cases ha : a = -1
        · subst ha
          have HF : Hid (ndOk (0, 0, (-1), b) k = (b == -1)) := by show _ = _; rw [Bool.eq_iff_iff]; simp [ndOk, tokB, opdB, tkA, tkB] <;> omega
          have db : decide (0 ≤ b) = false := decide_eq_false hb
          clear hb
          go_enter Tryd.func95, Tryd.ntmps95
          go_wp2
          go_ret
          exact ⟨by rw [HF.out]; rfl, HB.out⟩
        · have ea : (a == -1) = false := by simpa using ha
          have HF : Hid (ndOk (0, 0, a, b) k = false) := by show _ = _; rw [Bool.eq_iff_iff]; simp [ndOk, tokB, opdB, tkA, tkB] <;> omega
          have db : decide (0 ≤ b) = false := decide_eq_false hb
          clear hb ha
          go_enter Tryd.func95, Tryd.ntmps95
          go_wp2
          go_ret
          exact ⟨by rw [HF.out]; rfl, HB.out⟩
      · have en : (n == 0) = false := by simpa using hn
        have HF : Hid (ndOk (0, n, a, b) k = false) := by show _ = _; rw [Bool.eq_iff_iff]; simp [ndOk, tokB, opdB, tkA, tkB] <;> omega
        have db : decide (0 ≤ b) = false := decide_eq_false hb
        clear hb hn
        go_enter Tryd.func95, Tryd.ntmps95
        go_wp2
        go_ret
        exact ⟨by rw [HF.out]; rfl, HB.out⟩
    · have e0 : (o == 0) = false := by simpa using h0
      by_cases h1 : o = 1
      · subst h1
        by_cases hn : n = 0
        · subst hn
          by_cases ha : a = -1
          · subst ha
            have HF : Hid (ndOk (1, 0, (-1), b) k = false) := by show _ = _; rw [Bool.eq_iff_iff]; simp [ndOk, tokB, opdB, tkA, tkB] <;> omega
            have db : decide (0 ≤ b) = false := decide_eq_false hb
            clear hb
            go_enter Tryd.func95, Tryd.ntmps95
            go_wp2
            go_ret
            exact ⟨by rw [HF.out]; rfl, HB.out⟩
          · have ea : (a == -1) = false := by simpa using ha
            have HF : Hid (ndOk (1, 0, a, b) k = false) := by show _ = _; rw [Bool.eq_iff_iff]; simp [ndOk, tokB, opdB, tkA, tkB] <;> omega
            have db : decide (0 ≤ b) = false := decide_eq_false hb
            clear hb ha
            go_enter Tryd.func95, Tryd.ntmps95
            go_wp2
            go_ret
            exact ⟨by rw [HF.out]; rfl, HB.out⟩
        · have en : (n == 0) = false := by simpa using hn
          have HF : Hid (ndOk (1, n, a, b) k = false) := by show _ = _; rw [Bool.eq_iff_iff]; simp [ndOk, tokB, opdB, tkA, tkB] <;> omega
          have db : decide (0 ≤ b) = false := decide_eq_false hb
          clear hb hn
          go_enter Tryd.func95, Tryd.ntmps95
          go_wp2
          go_ret
          exact ⟨by rw [HF.out]; rfl, HB.out⟩
      · have e1 : (o == 1) = false := by simpa using h1
        by_cases h2 : o = 2
        · subst h2
          by_cases hn : n = 0
          · subst hn
            by_cases ha : 0 ≤ a
            · have da : decide (0 ≤ a) = true := decide_eq_true ha
              by_cases hc : a < (k : Int)
              · have dc : decide (a < (k : Int)) = true := decide_eq_true hc
                have HF : Hid (ndOk (2, 0, a, b) k = false) := by show _ = _; rw [Bool.eq_iff_iff]; simp [ndOk, tokB, opdB, tkA, tkB] <;> omega
                have db : decide (0 ≤ b) = false := decide_eq_false hb
                clear hb ha hc
                go_enter Tryd.func95, Tryd.ntmps95
                go_wp2
                go_ret
                exact ⟨by rw [HF.out]; rfl, HB.out⟩
              · have dc : decide (a < (k : Int)) = false := decide_eq_false hc
                have HF : Hid (ndOk (2, 0, a, b) k = false) := by show _ = _; rw [Bool.eq_iff_iff]; simp [ndOk, tokB, opdB, tkA, tkB] <;> omega
                have db : decide (0 ≤ b) = false := decide_eq_false hb
                clear hb ha hc
                go_enter Tryd.func95, Tryd.ntmps95
                go_wp2
                go_ret
                exact ⟨by rw [HF.out]; rfl, HB.out⟩
            · have da : decide (0 ≤ a) = false := decide_eq_false ha
              have HF : Hid (ndOk (2, 0, a, b) k = false) := by show _ = _; rw [Bool.eq_iff_iff]; simp [ndOk, tokB, opdB, tkA, tkB] <;> omega
              have db : decide (0 ≤ b) = false := decide_eq_false hb
              clear hb ha
              go_enter Tryd.func95, Tryd.ntmps95
              go_wp2
              go_ret
              exact ⟨by rw [HF.out]; rfl, HB.out⟩
          · have en : (n == 0) = false := by simpa using hn
            have HF : Hid (ndOk (2, n, a, b) k = false) := by show _ = _; rw [Bool.eq_iff_iff]; simp [ndOk, tokB, opdB, tkA, tkB] <;> omega
            have db : decide (0 ≤ b) = false := decide_eq_false hb
            clear hb hn
            go_enter Tryd.func95, Tryd.ntmps95
            go_wp2
            go_ret
            exact ⟨by rw [HF.out]; rfl, HB.out⟩
        · have e2 : (o == 2) = false := by simpa using h2
          by_cases h3 : o = 3
          · subst h3
            by_cases hn : n = 0
            · subst hn
              by_cases ha : 0 ≤ a
              · have da : decide (0 ≤ a) = true := decide_eq_true ha
                by_cases hc : a < (k : Int)
                · have dc : decide (a < (k : Int)) = true := decide_eq_true hc
                  have HF : Hid (ndOk (3, 0, a, b) k = false) := by show _ = _; rw [Bool.eq_iff_iff]; simp [ndOk, tokB, opdB, tkA, tkB] <;> omega
                  have db : decide (0 ≤ b) = false := decide_eq_false hb
                  clear hb ha hc
                  go_enter Tryd.func95, Tryd.ntmps95
                  go_wp2
                  go_ret
                  exact ⟨by rw [HF.out]; rfl, HB.out⟩
                · have dc : decide (a < (k : Int)) = false := decide_eq_false hc
                  have HF : Hid (ndOk (3, 0, a, b) k = false) := by show _ = _; rw [Bool.eq_iff_iff]; simp [ndOk, tokB, opdB, tkA, tkB] <;> omega
                  have db : decide (0 ≤ b) = false := decide_eq_false hb
                  clear hb ha hc
                  go_enter Tryd.func95, Tryd.ntmps95
                  go_wp2
                  go_ret
                  exact ⟨by rw [HF.out]; rfl, HB.out⟩
              · have da : decide (0 ≤ a) = false := decide_eq_false ha
                have HF : Hid (ndOk (3, 0, a, b) k = false) := by show _ = _; rw [Bool.eq_iff_iff]; simp [ndOk, tokB, opdB, tkA, tkB] <;> omega
                have db : decide (0 ≤ b) = false := decide_eq_false hb
                clear hb ha
                go_enter Tryd.func95, Tryd.ntmps95
                go_wp2
                go_ret
                exact ⟨by rw [HF.out]; rfl, HB.out⟩
            · have en : (n == 0) = false := by simpa using hn
              have HF : Hid (ndOk (3, n, a, b) k = false) := by show _ = _; rw [Bool.eq_iff_iff]; simp [ndOk, tokB, opdB, tkA, tkB] <;> omega
              have db : decide (0 ≤ b) = false := decide_eq_false hb
              clear hb hn
              go_enter Tryd.func95, Tryd.ntmps95
              go_wp2
              go_ret
              exact ⟨by rw [HF.out]; rfl, HB.out⟩
          · have e3 : (o == 3) = false := by simpa using h3
            by_cases h4 : o = 4
            · subst h4
              by_cases hn : 0 ≤ n
              · have dn : decide (0 ≤ n) = true := decide_eq_true hn
                by_cases hm : n < 5
                · have dm : decide (n < 5) = true := decide_eq_true hm
                  by_cases ha : a = -1
                  · subst ha
                    have HF : Hid (ndOk (4, n, (-1), b) k = (b == -1)) := by show _ = _; rw [Bool.eq_iff_iff]; simp [ndOk, tokB, opdB, tkA, tkB] <;> omega
                    have db : decide (0 ≤ b) = false := decide_eq_false hb
                    clear hb hn hm
                    go_enter Tryd.func95, Tryd.ntmps95
                    go_wp2
                    go_ret
                    exact ⟨by rw [HF.out]; rfl, HB.out⟩
                  · have ea : (a == -1) = false := by simpa using ha
                    have HF : Hid (ndOk (4, n, a, b) k = false) := by show _ = _; rw [Bool.eq_iff_iff]; simp [ndOk, tokB, opdB, tkA, tkB] <;> omega
                    have db : decide (0 ≤ b) = false := decide_eq_false hb
                    clear hb hn hm ha
                    go_enter Tryd.func95, Tryd.ntmps95
                    go_wp2
                    go_ret
                    exact ⟨by rw [HF.out]; rfl, HB.out⟩
                · have dm : decide (n < 5) = false := decide_eq_false hm
                  have HF : Hid (ndOk (4, n, a, b) k = false) := by show _ = _; rw [Bool.eq_iff_iff]; simp [ndOk, tokB, opdB, tkA, tkB] <;> omega
                  have db : decide (0 ≤ b) = false := decide_eq_false hb
                  clear hb hn hm
                  go_enter Tryd.func95, Tryd.ntmps95
                  go_wp2
                  go_ret
                  exact ⟨by rw [HF.out]; rfl, HB.out⟩
              · have dn : decide (0 ≤ n) = false := decide_eq_false hn
                have HF : Hid (ndOk (4, n, a, b) k = false) := by show _ = _; rw [Bool.eq_iff_iff]; simp [ndOk, tokB, opdB, tkA, tkB] <;> omega
                have db : decide (0 ≤ b) = false := decide_eq_false hb
                clear hb hn
                go_enter Tryd.func95, Tryd.ntmps95
                go_wp2
                go_ret
                exact ⟨by rw [HF.out]; rfl, HB.out⟩
            · have e4 : (o == 4) = false := by simpa using h4
              have ht : tokB o n = false := by
                unfold tokB
                rw [if_neg h4]
                simp
                intro _ _
                omega
              have HF : Hid (ndOk (o, n, a, b) k = false) := by show _ = _; simp [ndOk, ht]
              have db : decide (0 ≤ b) = false := decide_eq_false hb
              clear hb h0 h1 h2 h3 h4 ht
              go_enter Tryd.func95, Tryd.ntmps95
              go_wp2
              go_ret
              exact ⟨by rw [HF.out]; rfl, HB.out⟩
end Go.Proofs.YtfmhmnpmdjpmeaaDoor

namespace Go.Proofs.YtfmhmnpmdjpmeaaDoor
open Go.RowKit Go.Maps

set_option maxRecDepth 100000 in
set_option maxHeartbeats 1600000 in
theorem implArenaOk_any (w : World) (B : Nat) (A : Option Addr) (n c : Nat) (l : List Nd) (hB : B ≤ w.heap.size) (hl : NodR w B A n l) (hn : n ≤ 1048576) :
    Calls Tryd.prog 35 #[.slice A n c] w fun e w' => e = .returned (.bool (arenaOkR l)) ∧ Below w.heap.size w w' := by
  have his : IntR w w.heap.size none 0 [] := ⟨rfl, fun h => absurd h (by omega)⟩
  go_enter Tryd.func35, Tryd.ntmps35
  go_wp2_with fail
  refine (arenaWith_any w B w.heap.size A none n c 0 0 l [] hB (Nat.le_refl _) hl his hn (by omega)).mono ?_
  rintro e w1 ⟨rfl, hb1, -⟩
  have e1 : (arenaOkR l && idxR n []) = arenaOkR l := by simp [idxR]
  rw [e1]
  have HB := Lib.hid hb1
  clear hb1 e1 hl
  cases h : arenaOkR l with
  | false =>
    unfold awV
    go_wp2
    go_ret
    exact ⟨by rw [h]; rfl, HB.out⟩
  | true =>
    unfold awV
    go_wp2
    go_ret
    exact ⟨by rw [h]; rfl, HB.out⟩

set_option maxRecDepth 100000 in
set_option maxHeartbeats 4000000 in
theorem specArenaOk_any (w : World) (B : Nat) (A : Option Addr) (n c : Nat) (l : List Nd) (hB : B ≤ w.heap.size) (hl : NodR w B A n l) (hn : n ≤ 1048576) :
    Calls Tryd.prog 50 #[.slice A n c] w fun e w' => e = .returned (.bool (arenaOkR l)) ∧ Below w.heap.size w w' := by
  by_cases hbig : 200 < n
  · have HF : Hid (arenaOkR l = false) := arena_big hl.1 hbig
    have hi0 : (0 : Int) < n := by omega
    have d1 : decide ((n : Int) ≤ 200) = false := by simp; omega
    clear hl hbig
    go_enter Tryd.func50, Tryd.ntmps50
    go_wp2
    go_loopw [3] (fun i wr => i = .int .i64 0 ∧ wr = w) (fun _ _ => 0)
    case atStart => exact ⟨rfl, rfl⟩
    case round =>
      obtain ⟨rfl, rfl⟩ := hrel
      go_wp2
      go_ret
      exact ⟨by rw [HF.out]; rfl, Below.refl _ _⟩
  · have hn3 : n ≤ 200 := by omega
    have d1 : decide ((n : Int) ≤ 200) = true := by simp; omega
    have HL := Lib.hid hl
    clear hl hbig
    go_enter Tryd.func50, Tryd.ntmps50
    go_wp2
    go_loopw [3] (fun i wr => ∃ k : Nat, k ≤ n ∧ i = .int .i64 k ∧ Hid (NdAll l k) ∧ Below w.heap.size w wr) (fun i _ => n - (intOf i).toNat)
    case atStart => exact ⟨0, Nat.zero_le _, rfl, ndAll_zero l, Below.refl _ _⟩
    case round =>
      obtain ⟨k, hk, rfl, HN, hbel⟩ := hrel
      by_cases hlt : k < n
      · obtain ⟨b, off, rfl, hb, hc⟩ := HL.out.2 (by omega)
        obtain ⟨x1, x2, x3, x4⟩ := hc k hlt
        obtain ⟨t, ht⟩ : ∃ t, l.getD k nd0 = t := ⟨_, rfl⟩
        rw [ht] at x1 x2 x3 x4
        obtain ⟨o, u, a, z⟩ := t
        have HT := Lib.hid ht
        have k1 := (hbel.cell (p := ⟨b, off + k * 4, none⟩) (by show b < _; omega)).trans x1
        have k2 := (hbel.cell (p := ⟨b, off + k * 4 + 1, none⟩) (by show b < _; omega)).trans x2
        have k3 := (hbel.cell (p := ⟨b, off + k * 4 + 2, none⟩) (by show b < _; omega)).trans x3
        have k4 := (hbel.cell (p := ⟨b, off + k * 4 + 3, none⟩) (by show b < _; omega)).trans x4
        have hsr := hbel.size
        have HBEL := Lib.hid hbel
        have dk : decide ((k : Int) < n) = true := by simp; omega
        clear ht hbel
        go_wp2_with fail
        refine (l08Node_any _ o u a z k).mono ?_
        rintro e w2 ⟨rfl, hb2⟩
        have HB2 := Lib.hid (HBEL.out.trans (hb2.mono hsr))
        have hs2 : w.heap.size ≤ w2.heap.size := HB2.out.size
        clear hb2 HBEL k1 k2 k3 k4 hsr
        cases hok : ndOk (o, u, a, z) k with
        | false =>
          have HF : Hid (arenaOkR l = false) := arena_no HL.out.1 hlt (by rw [HT.out, hok]; rintro ⟨h, _⟩; cases h)
          clear hok
          go_wp2
          go_ret
          exact ⟨by rw [HF.out]; rfl, HB2.out⟩
        | true =>
          have HOK := Lib.hid hok
          have HC := Lib.hid hc
          clear hok x1 x2 x3 x4 hc dk
          obtain ⟨ws, hws⟩ : ∃ X, X = w2 := ⟨_, rfl⟩
          subst hws
          go_wp2
          go_loopw [4] (fun i wy => ∃ j : Nat, j ≤ k ∧ i = .int .i64 j ∧ Hid (∀ q, q < j → l.getD q nd0 ≠ l.getD k nd0) ∧ Below w.heap.size w wy) (fun i _ => k - (intOf i).toNat)
          case atStart => exact ⟨0, Nat.zero_le _, rfl, (fun q hq => absurd hq (by omega)), HB2.out⟩
          case round =>
            obtain ⟨j, hj, rfl, HQ, hbel⟩ := hrel
            by_cases hjl : j < k
            · obtain ⟨x1, x2, x3, x4⟩ := HC.out k hlt
              obtain ⟨y1, y2, y3, y4⟩ := HC.out j (by omega)
              rw [HT.out] at x1 x2 x3 x4
              obtain ⟨s, hs⟩ : ∃ s, l.getD j nd0 = s := ⟨_, rfl⟩
              rw [hs] at y1 y2 y3 y4
              obtain ⟨o', u', a', z'⟩ := s
              have HS := Lib.hid hs
              have k1 := (hbel.cell (p := ⟨b, off + k * 4, none⟩) (by show b < _; omega)).trans x1
              have k2 := (hbel.cell (p := ⟨b, off + k * 4 + 1, none⟩) (by show b < _; omega)).trans x2
              have k3 := (hbel.cell (p := ⟨b, off + k * 4 + 2, none⟩) (by show b < _; omega)).trans x3
              have k4 := (hbel.cell (p := ⟨b, off + k * 4 + 3, none⟩) (by show b < _; omega)).trans x4
              have k5 := (hbel.cell (p := ⟨b, off + j * 4, none⟩) (by show b < _; omega)).trans y1
              have k6 := (hbel.cell (p := ⟨b, off + j * 4 + 1, none⟩) (by show b < _; omega)).trans y2
              have k7 := (hbel.cell (p := ⟨b, off + j * 4 + 2, none⟩) (by show b < _; omega)).trans y3
              have k8 := (hbel.cell (p := ⟨b, off + j * 4 + 3, none⟩) (by show b < _; omega)).trans y4
              have HBEL := Lib.hid hbel.drew
              have hjn : (j : Int) < n := by omega
              have hkn : (k : Int) < n := by omega
              clear x1 x2 x3 x4 y1 y2 y3 y4 hs hbel
              go_wp2_with fail
              refine region_tail 8 (by kernel_rfl) (by kernel_rfl) ?_
              simp only [List.take_succ_cons, List.take_zero, List.drop_succ_cons, List.drop_zero]
              repeat still_step
              refine wpStill_nil ?_
              by_cases heq : (o', u', a', z') = (o, u, a, z)
              · have HF : Hid (arenaOkR l = false) := by
                  refine arena_no HL.out.1 hlt ?_
                  rintro ⟨_, h⟩
                  apply h
                  rw [HT.out, ← heq, ← HS.out, List.getD_eq_getElem?_getD, List.getElem?_eq_getElem (by rw [HL.out.1]; omega)]
                  exact List.mem_take_iff_getElem.2 ⟨j, by have := HL.out.1; omega, rfl⟩
                injection heq with q1 heq
                injection heq with q2 heq
                injection heq with q3 q4
                subst q1; subst q2; subst q3; subst q4
                go_wp2
                go_ret
                exact ⟨by rw [HF.out]; rfl, HBEL.out⟩
              · have HQ2 : Hid (∀ q, q < j + 1 → l.getD q nd0 ≠ l.getD k nd0) := by
                  intro q hq
                  by_cases e : q = j
                  · subst e
                    rw [HS.out, HT.out]
                    exact heq
                  · exact HQ.out q (by omega)
                have HE := Lib.hid heq
                clear heq
                go_wp2
                all_goals first
                  | exact ⟨⟨j + 1, by omega, by go_num, HQ2.out, HBEL.out⟩, by simp [intOf]; omega⟩
                  | (exfalso; apply HE.out; simp [*]; done)
            · obtain rfl : j = k := by omega
              have HN2 : Hid (NdAll l (j + 1)) := by
                refine ndAll_step HN.out (by rw [HT.out]; exact HOK.out) ?_
                intro hm
                obtain ⟨q, hq, e⟩ := List.mem_take_iff_getElem.1 hm
                apply HQ.out q (by omega)
                rw [List.getD_eq_getElem?_getD, List.getElem?_eq_getElem (by omega)]
                exact e
              have HBEL := Lib.hid hbel
              clear hbel
              go_wp2
              go_roundw
              case rel => exact ⟨j + 1, by omega, by go_num, HN2.out, HBEL.out⟩
              case measure => simp [intOf]; omega
      · obtain rfl : k = n := by omega
        have HF : Hid (arenaOkR l = true) := arena_yes HL.out.1 hn3 HN.out
        have dk : decide ((k : Int) < k) = false := by simp
        go_wp2
        go_ret
        exact ⟨by rw [HF.out]; rfl, hbel⟩
end Go.Proofs.YtfmhmnpmdjpmeaaDoor
