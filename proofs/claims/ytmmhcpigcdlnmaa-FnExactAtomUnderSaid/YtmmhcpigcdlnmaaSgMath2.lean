/- SignOf of the program and of the model. -/
/- The reference model's evaluation of a right level on a pile. -/
/- The model's look at a sign. -/
/- LevelSign of the program and of the model. -/
/- Whether a level is 0 hangs on the sign of the env alone. -/
import Derived.Test.YtmmhcpigcdlnmaaSgHas
import Derived.Test.YtmmhcpigcdlnmaaEvalLaw
import Derived.Test.YtmmhcpigcdlnmaaSpec
import Derived.Test.YtmmhcpigcdlnmaaLOk
import Derived.Test.YtmmhcpigcdlnmaaMarks

namespace Go.Proofs.Ytmmhcpigcdlnmaa
open Go.RowKit

namespace Sg
/-- what SignOf answers -/
def sgR (env : List Int) : Int := if envOk env = true then bits env else -1
theorem bits_cons (v : Int) (l : List Int) : bits (v :: l) = (if v > 0 then 1 else 0) + 2 * bits l := rfl
theorem bits_take (l : List Int) (k : Nat) (hk : k < l.length) : bits (l.take (k + 1)) = bits (l.take k) + (if l.getD k 0 > 0 then 2 ^ k else 0) := by
  induction l generalizing k with
  | nil => simp at hk
  | cons v l ih =>
    cases k with
    | zero => simp [bits]
    | succ k =>
      rw [List.length_cons] at hk
      rw [List.take_succ_cons, List.take_succ_cons, bits_cons, bits_cons, ih k (by omega), List.getD_cons_succ, Int.pow_succ]
      split <;> split <;> omega
theorem bits_drop (l : List Int) (k : Nat) (hk : k < l.length) : bits (l.drop k) = 2 * bits (l.drop (k + 1)) + (if l.getD k 0 > 0 then 1 else 0) := by
  rw [List.drop_eq_getElem_cons hk, bits_cons, List.getD_eq_getElem?_getD, List.getElem?_eq_getElem hk]
  simp only [Option.getD_some]
  omega
end Sg

theorem or_bit (k : Nat) (hk : k < 5) (x : Int) (h : 0 ≤ x) (hx : x < 2 ^ k) : Go.bits BinOp.or IntKind.i64 x (2 ^ k) = x + 2 ^ k := by
  have : ∀ k : Fin 5, ∀ m : Fin 32, ((m : Nat) : Int) < 2 ^ (k : Nat) → Go.bits BinOp.or IntKind.i64 ((m : Nat) : Int) (2 ^ (k : Nat)) = ((m : Nat) : Int) + 2 ^ (k : Nat) := by decide +kernel
  have h5 : (2 : Int) ^ k ≤ 2 ^ 5 := by
    have : ∀ k : Fin 5, (2 : Int) ^ (k : Nat) ≤ 2 ^ 5 := by decide
    exact this ⟨k, hk⟩
  have := this ⟨k, hk⟩ ⟨x.toNat, by omega⟩
  simp only [show ((x.toNat : Nat) : Int) = x by omega] at this
  exact this hx

set_option maxHeartbeats 800000 in
theorem implSignOf_any (w : World) (B : Nat) (A : Option Addr) (n c : Nat) (env : List Int) (hR : IntR w B A n env) (hn : (n : Int) ≤ 140737488355328) :
    Calls Try.prog 34 #[.slice A n c] w fun e w' => e = .returned (.int .i64 (Sg.sgR env)) ∧ w' = w := by
  cases hok : envOk env with
  | false =>
    have HF : Hid (Sg.sgR env = -1) := by unfold Hid Sg.sgR; rw [if_neg (by rw [hok]; decide)]
    go_enter Try.func34, Try.ntmps34
    go_wp2_with fail
    refine (envOk_any w B A n c env hR hn).mono ?_
    rintro e w' ⟨rfl, rfl⟩
    rw [hok]
    go_wp2
    go_ret
    exact ⟨by rw [HF.out]; rfl, rfl⟩
  | true =>
    have HF : Hid (Sg.sgR env = Sg.bits env) := by unfold Hid Sg.sgR; rw [if_pos hok]
    have hm := envOk_mem hok
    obtain rfl : n = 5 := by rw [← hR.1]; exact hm.1
    have HL := Lib.hid hm.1
    go_enter Try.func34, Try.ntmps34
    go_wp2_with fail
    refine (envOk_any w B A 5 c env hR hn).mono ?_
    rintro e w' ⟨rfl, rfl⟩
    rw [hok]
    obtain ⟨b, off, rfl, hb, hc⟩ := hR.2 (by omega)
    clear hm hok hR
    go_wp2
    go_loop [3, 11] (fun s i => ∃ k : Nat, k ≤ 5 ∧ i = .int .i64 k ∧ s = .int .i64 (Sg.bits (env.take k))) (fun _ i => 5 - (intOf i).toNat)
    case atStart => exact ⟨0, by omega, rfl, rfl⟩
    case round =>
      obtain ⟨k, hk, rfl, rfl⟩ := hrel
      by_cases hlt : k < 5
      · have hcell := hc k hlt
        have HB := Lib.hid (Sg.bits_take env k (by rw [HL.out]; exact hlt))
        have b1 := Sg.bits_nonneg (env.take k)
        have HB2 := Lib.hid (Sg.bits_lt (env.take k))
        have HT : Hid ((env.take k).length = k) := by unfold Hid; rw [List.length_take, HL.out]; omega
        generalize Sg.bits (env.take k) = x at *
        generalize env.getD k 0 = v at hcell HB
        have hp : (2 : Int) ^ k ≤ 16 ∧ 0 < (2 : Int) ^ k := by
          have : ∀ k : Fin 5, (2 : Int) ^ (k : Nat) ≤ 16 ∧ 0 < (2 : Int) ^ (k : Nat) := by decide
          exact this ⟨k, hlt⟩
        have ho := or_bit k hlt x b1 (by have := HB2.out; rw [HT.out] at this; exact this)
        obtain ⟨hp1, hp2⟩ := hp
        clear hc
        by_cases hv : 0 < v
        · go_wp2
          go_round
          case rel => exact ⟨k + 1, by omega, by go_num, by rw [HB.out, if_pos hv]⟩
          case measure => simp [intOf]; omega
        · go_wp2
          go_round
          case rel => exact ⟨k + 1, by omega, by go_num, by rw [HB.out, if_neg hv, Int.add_zero]⟩
          case measure => simp [intOf]; omega
      · obtain rfl : k = 5 := by omega
        have HT : Hid (env.take 5 = env) := by unfold Hid; rw [List.take_of_length_le (by rw [HL.out]; omega)]
        clear hc
        go_wp2
        go_ret
        exact ⟨by rw [HF.out, HT.out]; rfl, rfl⟩

theorem implSignOf_bel (w : World) (B : Nat) (A : Option Addr) (n c : Nat) (env : List Int) (hR : IntR w B A n env) (hn : (n : Int) ≤ 140737488355328) :
    Calls Try.prog 34 #[.slice A n c] w fun e w' => e = .returned (.int .i64 (Sg.sgR env)) ∧ Below w.heap.size w w' :=
  (implSignOf_any w B A n c env hR hn).mono fun _ _ ⟨h, h'⟩ => ⟨h, h' ▸ Below.refl _ _⟩
end Go.Proofs.Ytmmhcpigcdlnmaa

namespace Go.Proofs.Ytmmhcpigcdlnmaa
open Go.RowKit

/-- what holds at the head of each round: the pile v is the call's own row, the stack of the plain function -/
def AtPile (w : World) (env : List Int) (l : List (Int × Int)) (k : Nat) (v : Value) (wr : World) : Prop :=
  ∃ st A c, Lv.run env (l.take k) [] = some st ∧ v = .slice A st.length c ∧ wr.ownsRow w.heap.size 3 1 (.slice A st.length c) st.length (st.reverse.map (Value.int .i64)) ∧
    st.length ≤ k ∧ (∀ x ∈ st, 0 ≤ x ∧ x ≤ 1000 + (k : Int)) ∧ Below w.heap.size w wr

/-- an owned row that is not empty lies at the head of a block -/
theorem own_head {w : World} {base : Nat} {e : TypeId} {A : Option Addr} {n c : Nat} {xs : List Value} (h : w.ownsRow base e 1 (.slice A n c) n xs) (hn : 0 < n) :
    ∃ g, A = some ⟨g, 0, none⟩ ∧ n ≤ c ∧ base ≤ g ∧ (∃ cur, Blk w g e cur ∧ cur.size = c * 1 ∧ cur.toList.take (n * 1) = xs) ∧ ∀ j x, xs[j]? = some x → w.cell? ⟨g, j, none⟩ = some x := by
  rcases h.2 with ⟨_, h0⟩ | ⟨g, cap, cur, hv, hb, hgg, h1, h2, h3, h4⟩
  · omega
  · injection hv with e1 e2 e3
    subst e1; subst e3
    refine ⟨g, rfl, h1, hb, ⟨cur, hgg, h3, h4⟩, fun j x hx => ?_⟩
    have := h.cells (g := g) rfl j x hx
    have hadd : (⟨g, 0, none⟩ : Addr).add j = ⟨g, j, none⟩ := by unfold Addr.add; split <;> simp_all
    rw [hadd] at this
    exact this

/-- the last cell of an owned row, stored anew -/
theorem own_last {w : World} {base g cap n : Nat} {e : TypeId} {xs : List Value} {x y : Value} (h : w.ownsRow base e 1 (.slice (some ⟨g, 0, none⟩) (n + 1) cap) (n + 1) (xs ++ [x])) :
    (w.setCell ⟨g, n, none⟩ y).ownsRow base e 1 (.slice (some ⟨g, 0, none⟩) (n + 1) cap) (n + 1) (xs ++ [y]) := by
  have hl := h.1
  simp at hl
  rcases h.2 with ⟨h0, _⟩ | ⟨g', cap', cur, hv, hb, hgg, h1, h2, h3, h4⟩
  · cases h0
  · injection hv with e1 e2 e3
    injection e1 with e1
    injection e1 with e1
    subst e1; subst e3
    have hblk : Blk w g e cur := hgg
    refine ⟨by simp; omega, .inr ⟨g, cap, _, rfl, hb, hblk.put n y, h1, h2, by simp [h3], ?_⟩⟩
    have hsz : n < cur.toList.length := by simp; omega
    rw [Array.toList_setIfInBounds, Nat.mul_one, List.take_set, List.take_succ_eq_append_getElem hsz]
    have h5 : cur.toList.take n = xs := by
      have := congrArg (List.take n) h4
      rw [List.take_take, show min n ((n + 1) * 1) = n by omega, ← hl, List.take_left'] at this
      · rw [← hl]; exact this
      · rfl
    rw [h5]
    generalize cur.toList[n] = z
    rw [List.set_append_right _ _ (by omega), hl]
    simp

theorem cell_one_drew (w : World) (t : TypeId) (x : Value) : ∀ j u, [x][j]? = some u → ((w.alloc (.cells #[x] t)).drew).cell? ((⟨w.heap.size, 0, none⟩ : Addr).add j) = some u := cell_one_new w x t

theorem evalR_not_ok {env : List Int} {l : List (Int × Int)} (h : Lv.levelOk l = false) : evalR env l = none := by
  unfold evalR Lv.eval
  simp [h]

end Go.Proofs.Ytmmhcpigcdlnmaa

namespace Go.Proofs.Ytmmhcpigcdlnmaa
open Go.RowKit

theorem l03Sign_any (w : World) (s : Int) :
    Calls Try.prog 77 #[.int .i64 s] w fun e w' => e = .returned (.bool (Sg.isSign s)) ∧ w' = w := by
  by_cases h1 : 0 ≤ s
  · by_cases h2 : s ≤ 31
    · go_enter Try.func77, Try.ntmps77
      go_wp2
      go_ret
      exact ⟨by simp [Sg.isSign, h1, h2], rfl⟩
    · go_enter Try.func77, Try.ntmps77
      go_wp2
      go_ret
      exact ⟨by simp [Sg.isSign, h1, h2], rfl⟩
  · go_enter Try.func77, Try.ntmps77
    go_wp2
    go_ret
    exact ⟨by simp [Sg.isSign]; omega, rfl⟩

end Go.Proofs.Ytmmhcpigcdlnmaa

namespace Go.Proofs.Ytmmhcpigcdlnmaa
open Go.RowKit

namespace Sg
theorem bit_bd (s p : Int) : 0 ≤ bit s p ∧ bit s p ≤ 1 := by unfold bit; split <;> omega
theorem least_len (s : Int) : (least s).length = 5 := rfl
theorem least_ok (s : Int) : envOk (least s) = true := by
  have h0 := bit_bd s 0; have h1 := bit_bd s 1; have h2 := bit_bd s 2; have h3 := bit_bd s 3; have h4 := bit_bd s 4
  simp [envOk, least]; omega
theorem least_get (s : Int) (k : Nat) (hk : k < 5) : (least s).getD k 0 = bit s k := by
  rcases (show k = 0 ∨ k = 1 ∨ k = 2 ∨ k = 3 ∨ k = 4 by omega) with rfl | rfl | rfl | rfl | rfl <;> rfl
/-- the cells of the least env, made as far as k -/
def cells (s : Int) (k : Nat) : List Value := (List.range 5).map fun (j : Nat) => .int .i64 (if j < k then bit s j else 0)
theorem cells_len (s : Int) (k : Nat) : (cells s k).length = 5 := by simp [cells]
theorem cells_get (s : Int) (k j : Nat) (hj : j < 5) : (cells s k)[j]? = some (.int .i64 (if j < k then bit s j else 0)) := by
  simp [cells, hj]
theorem cells_put (s : Int) (k : Nat) (hk : k < 5) : (cells s k).set k (.int .i64 (bit s k)) = cells s (k + 1) := by
  rcases (show k = 0 ∨ k = 1 ∨ k = 2 ∨ k = 3 ∨ k = 4 by omega) with rfl | rfl | rfl | rfl | rfl <;> simp [cells, List.range, List.range.loop]
theorem bit_eq (s : Int) (hs : 0 ≤ s ∧ s ≤ 31) (k : Nat) (hk : k < 5) : Go.bits BinOp.and IntKind.i64 (s / 2 ^ k) 1 = bit s k := by
  rw [and_one _ (Int.ediv_nonneg hs.1 (Int.pow_nonneg (by decide))) (Int.le_trans (Int.ediv_le_self _ hs.1) hs.2)]
  unfold bit has
  simp only [hs.1, hs.2, Int.toNat_natCast, true_and, decide_eq_true_eq, show (0 : Int) ≤ (k : Int) by omega, show (k : Int) < 5 by omega]
  split <;> omega
end Sg

theorem least_row (w : World) (s : Int) : IntR (w.alloc (.cells (Sg.cells s 5).toArray 3)) (w.heap.size + 1) (some ⟨w.heap.size, 0, none⟩) 5 (Sg.least s) := by
  refine ⟨rfl, fun _ => ⟨w.heap.size, 0, rfl, by omega, fun k hk => ?_⟩⟩
  rw [(Blk.made w _ _).cell, Nat.zero_add, List.getElem?_toArray, Sg.cells_get s 5 k hk, if_pos hk, Sg.least_get s k hk]

/-- what LevelSign answers -/
def lsgR (l : List (Int × Int)) (s : Int) : Int := if Sg.isSign s = true then (match evalR (Sg.least s) l with | some v => min v 1 | none => -1) else -1
theorem lsgR_no {l : List (Int × Int)} {s : Int} (h : Sg.isSign s = false) : lsgR l s = -1 := by unfold lsgR; rw [if_neg (by rw [h]; decide)]
theorem lsgR_none {l : List (Int × Int)} {s : Int} (h : evalR (Sg.least s) l = none) : lsgR l s = -1 := by unfold lsgR; rw [h]; split <;> rfl
theorem lsgR_some {l : List (Int × Int)} {s v : Int} (hs : Sg.isSign s = true) (h : evalR (Sg.least s) l = some v) : lsgR l s = min v 1 := by unfold lsgR; rw [h, if_pos hs]
theorem sign_bd {s : Int} (h : Sg.isSign s = true) : 0 ≤ s ∧ s ≤ 31 := by simpa [Sg.isSign] using h

end Go.Proofs.Ytmmhcpigcdlnmaa

namespace Go.Proofs.Ytmmhcpigcdlnmaa
open Go.RowKit

/-- two stacks of one height, nothing below zero, with zeros at the same places -/
def ZeS : List Int → List Int → Prop
  | [], [] => True
  | a :: s, b :: t => (0 ≤ a ∧ 0 ≤ b ∧ (a = 0 ↔ b = 0)) ∧ ZeS s t
  | _, _ => False

theorem step_zero {e1 e2 : List Int} {t : Int × Int} {s s' u : List Int} (he : ∀ i, 0 ≤ e1.getD i 0 ∧ 0 ≤ e2.getD i 0 ∧ (e1.getD i 0 = 0 ↔ e2.getD i 0 = 0)) (hs : ZeS s u) (h : Lv.step e1 t s = some s') : ∃ u', Lv.step e2 t u = some u' ∧ ZeS s' u' := by
  unfold Lv.step at h ⊢
  by_cases hok : Lv.tkOk t = true
  · rw [if_pos hok] at h ⊢
    by_cases h0 : t.1 = 0
    · rw [if_pos h0] at h ⊢
      injection h with h
      subst h
      exact ⟨_, rfl, by omega, hs⟩
    · rw [if_neg h0] at h ⊢
      by_cases h4 : t.1 = 4
      · rw [if_pos h4] at h ⊢
        injection h with h
        subst h
        exact ⟨_, rfl, he _, hs⟩
      · rw [if_neg h4] at h ⊢
        by_cases h1 : t.1 = 1
        · rw [if_pos h1] at h ⊢
          match s, u, hs, h with
          | a :: s, b :: u, hs, h =>
            simp only at h ⊢
            injection h with h
            subst h
            exact ⟨_, rfl, by have := hs.1; omega, hs.2⟩
        · rw [if_neg h1] at h ⊢
          match s, u, hs, h with
          | b :: a :: s, d :: c :: u, hs, h =>
            simp only at h ⊢
            injection h with h
            subst h
            obtain ⟨q1, q2, q3⟩ := hs
            refine ⟨_, rfl, ?_, q3⟩
            by_cases h3 : t.1 = 3
            · by_cases hb : b = 0
              · rw [if_pos ⟨h3, hb⟩, if_pos ⟨h3, q1.2.2.1 hb⟩]
                omega
              · rw [if_neg (fun hh => hb hh.2), if_neg (fun hh => hb (q1.2.2.2 hh.2))]
                omega
            · rw [if_neg (fun hh => h3 hh.1), if_neg (fun hh => h3 hh.1)]
              omega
          | [b], [d], hs, h => simp at h
          | [], [], hs, h => simp at h
  · rw [if_neg hok] at h; cases h
theorem run_zero {e1 e2 : List Int} (he : ∀ i, 0 ≤ e1.getD i 0 ∧ 0 ≤ e2.getD i 0 ∧ (e1.getD i 0 = 0 ↔ e2.getD i 0 = 0)) : ∀ (l : List (Int × Int)) (s u s' : List Int), ZeS s u → Lv.run e1 l s = some s' → ∃ u', Lv.run e2 l u = some u' ∧ ZeS s' u' := by
  intro l
  induction l with
  | nil =>
    intro s u s' hs h
    simp only [Lv.run] at h ⊢
    injection h with h
    subst h
    exact ⟨u, rfl, hs⟩
  | cons t r ih =>
    intro s u s' hs h
    simp only [Lv.run] at h ⊢
    cases hq : Lv.step e1 t s with
    | none => rw [hq] at h; cases h
    | some s1 =>
      rw [hq, Option.bind_some] at h
      obtain ⟨u1, hu, hl⟩ := step_zero he hs hq
      rw [hu, Option.bind_some]
      exact ih s1 u1 s' hl h

namespace Sg
theorem bits_has {env : List Int} (h5 : env.length = 5) (k : Nat) (hk : k < 5) : has (bits env) k = decide (0 < env.getD k 0) := by
  match env, h5 with
  | [a, b, c, d, e], _ =>
    have key : ∀ x0 x1 x2 x3 x4 : Bool, ∀ k : Fin 5, has (((if x0 then 1 else 0) + 2 * ((if x1 then 1 else 0) + 2 * ((if x2 then 1 else 0) + 2 * ((if x3 then 1 else 0) + 2 * ((if x4 then 1 else 0) + 2 * 0))))) : Int) (k : Nat) = [x0, x1, x2, x3, x4].getD k false := by decide +kernel
    have := key (decide (a > 0)) (decide (b > 0)) (decide (c > 0)) (decide (d > 0)) (decide (e > 0)) ⟨k, hk⟩
    simp only [decide_eq_true_eq] at this
    simp only [bits]
    rw [this]
    rcases (show k = 0 ∨ k = 1 ∨ k = 2 ∨ k = 3 ∨ k = 4 by omega) with rfl | rfl | rfl | rfl | rfl <;> rfl
theorem bits_sign {env : List Int} (h5 : env.length = 5) : isSign (bits env) = true := by
  have h1 := bits_nonneg env
  have h2 := bits_lt env
  rw [h5] at h2
  simp [isSign]; omega
theorem least_zero {env : List Int} (h : envOk env = true) (i : Nat) : 0 ≤ (least (bits env)).getD i 0 ∧ 0 ≤ env.getD i 0 ∧ ((least (bits env)).getD i 0 = 0 ↔ env.getD i 0 = 0) := by
  have hm := envOk_mem h
  by_cases hi : i < 5
  · have hv : 0 ≤ env.getD i 0 := by
      rw [List.getD_eq_getElem?_getD, List.getElem?_eq_getElem (by omega)]
      exact (hm.2 _ (List.getElem_mem _)).1
    rw [least_get _ i hi]
    unfold bit
    rw [bits_has hm.1 i hi]
    by_cases hp : 0 < env.getD i 0
    · rw [decide_eq_true hp, if_pos rfl]; omega
    · rw [decide_eq_false hp, if_neg (by decide)]; omega
  · have e1 : (least (bits env)).getD i 0 = 0 := by
      rw [List.getD_eq_getElem?_getD, List.getElem?_eq_none (by rw [least_len]; omega)]; rfl
    have e2 : env.getD i 0 = 0 := by
      rw [List.getD_eq_getElem?_getD, List.getElem?_eq_none (by rw [hm.1]; omega)]; rfl
    rw [e1, e2]; omega
end Sg

theorem lsg_eval {env : List Int} {l : List (Int × Int)} (h : envOk env = true) (hok : Lv.levelOk l = true) : ∃ v, evalR env l = some v ∧ lsgR l (Sg.bits env) = min 1 v := by
  have hm := envOk_mem h
  obtain ⟨u, hu⟩ := Lv.run_of_ok (env := Sg.least (Sg.bits env)) hok
  obtain ⟨s', hs, hz⟩ := run_zero (Sg.least_zero h) l [] [] [u] trivial hu
  match s', hs, hz with
  | [v], hs, hz =>
    refine ⟨v, by simp [evalR, h, Lv.eval, hok, hs], ?_⟩
    rw [lsgR_some (Sg.bits_sign hm.1) (v := u) (by simp [evalR, Sg.least_ok, Lv.eval, hok, hu])]
    have := hz.1
    omega
theorem lsg_not {env : List Int} {l : List (Int × Int)} (hok : Lv.levelOk l = false) : evalR env l = none ∧ lsgR l (Sg.bits env) = -1 :=
  ⟨evalR_not_ok hok, lsgR_none (evalR_not_ok hok)⟩
end Go.Proofs.Ytmmhcpigcdlnmaa
