/- What chapter 4's laws draw: two levels; a level with an idle parameter. -/
/- Chapter 6's draws: a list of constraints and two levels; chapter 4's draw of two levels for Counter. -/
/- The model's look at a sign. -/
/- LevelSign of the program and of the model. -/
/- Residuals as lists of pairs: what is right for a sign, and what is at most what. -/
import Derived.Test.YtmbcjddahncocaaDoorDraw1
import Derived.Test.YtmbcjddahncocaaDoorCons
import Derived.Test.YtmbcjddahncocaaDoorSgHas
import Derived.Test.YtmbcjddahncocaaDoorSlc
import Derived.Test.YtmbcjddahncocaaDoorSpec

namespace Go.Proofs.YtmbcjddahncocaaDoor
open Go.RowKit

theorem joinR_len25 (x : Int) (a b : List (Int × Int)) : ((joinR x a b).getD []).length ≤ 25 := by
  cases h : joinR x a b with
  | none => simp
  | some l => have := (joinR_some h).2.1; simp; omega
theorem succR_len25 (l : List (Int × Int)) (n : Int) : ((succR l n).getD []).length ≤ 25 := by
  unfold succR
  split
  · rename_i h
    simp [sxs]; omega
  · simp
/-- two rows of tokens of the call's own -/
def Two (base : Nat) (e : Ending) (w' : World) : Prop :=
  ∃ A1 n1 c1 l1 A2 n2 c2 l2, e = .returned (.tuple #[.slice A1 n1 c1, .slice A2 n2 c2]) ∧ n1 ≤ 25 ∧ n2 ≤ 25 ∧ OwnT w' base A1 n1 c1 l1 ∧ OwnT w' base A2 n2 c2 l2

set_option maxRecDepth 100000 in
set_option maxHeartbeats 4000000 in
theorem twoLevels_any (w : World) (bc : Nat) (A : Option Addr) (n c K : Nat) (hc : Cur w bc A n c K) (hK : K ≤ 600000) (hn : n ≤ 1048576) :
    Calls Tryd.prog 59 #[.pointer (some ⟨bc, 0, none⟩)] w fun e w' => Two w.heap.size e w' ∧ Kp bc w w' := by
  have hlt := hc.lt
  have hcost : cost 3 = 88 := rfl
  go_enter Tryd.func59, Tryd.ntmps59
  go_wp2_with fail
  refine (badLevel_any w bc A n c K hc (by omega) hn).mono ?_
  rintro e w1 ⟨g1, cap1, l1, rfl, h11, h12, ho1, hc1, hk1⟩
  have hs1 := hk1.size
  have hlv := level_any bc A n c hn 3 w1 (K + 200) (by omega) hc1 (by omega)
  obtain ⟨n1, hn1⟩ : ∃ n1, l1.length = n1 := ⟨_, rfl⟩
  rw [hn1] at h11 h12 ho1 ⊢
  have HO1 := Lib.hid ho1
  clear hn1 ho1
  go_wp2_with fail
  refine hlv.mono ?_
  rintro e w2 ⟨g2, cap2, l2, rfl, h21, h22, ho2, hc2, hk2⟩
  obtain ⟨n2, hn2⟩ : ∃ n2, l2.length = n2 := ⟨_, rfl⟩
  rw [hn2] at h21 h22 ho2 ⊢
  have hs2 := hk2.size
  have HO12 := Lib.hid (Kp.own HO1.out hk2 hlt)
  have HO2 := Lib.hid (own_base ho2 hs1)
  have hk02 := hk1.trans hk2
  clear hn2 ho2 hlv HO1 hk1 hk2
  go_wp2_with fail
  refine (pick_any w2 bc A n c _ 5 hc2 (by omega) (by omega) hn).mono ?_
  rintro e w3 ⟨r, rfl, hr, hc3, hk3⟩
  have hs3 := hk3.size
  have hk03 := hk02.trans hk3
  have HO13 := Lib.hid (Kp.own HO12.out hk3 hlt)
  have HO23 := Lib.hid (Kp.own HO2.out hk3 hlt)
  clear hk02 hk3 HO12 HO2
  have fin : ∀ w', Hid (Kp bc w3 w') → Hid (OwnT w' w.heap.size (some ⟨g1, 0, none⟩) n1 cap1 l1) → Hid (OwnT w' w.heap.size (some ⟨g2, 0, none⟩) n2 cap2 l2) → Hid (Two w.heap.size (.returned (.tuple #[.slice (some ⟨g1, 0, none⟩) n1 cap1, .slice (some ⟨g2, 0, none⟩) n2 cap2])) w' ∧ Kp bc w w') :=
    fun w' h1 h2 h3 => ⟨⟨_, _, _, _, _, _, _, _, rfl, by omega, by omega, h2.out, h3.out⟩, hk03.trans h1.out⟩
  by_cases e0 : r = 0
  · subst e0
    go_wp2_with fail
    refine (specJoin_any w3 w3.heap.size _ _ n1 cap1 l1 _ n2 cap2 l2 (Nat.le_refl _) (OwnT.reads HO13.out) (by omega) (OwnT.reads HO23.out) (by omega)).mono ?_
    rintro e w4 ⟨A4, c4, rfl, ho4, hb4⟩
    have HK4 : Hid (Kp bc w3 w4) := Kp.of_below hb4
    have HO14 := Lib.hid (own_below' HO13.out hb4)
    have HO24 := Lib.hid (own_below' HO23.out hb4)
    have HF := fin w4 HK4 HO14 HO24
    have hq := joinR_len25 2 l1 l2
    obtain ⟨Q, hQ⟩ : ∃ Q, joinR 2 l1 l2 = Q := ⟨_, rfl⟩
    rw [hQ] at ho4 hq ⊢
    have HO4 := Lib.hid (own_base (base' := w.heap.size) ho4 (by omega))
    have HKE := Lib.hid (hk03.trans HK4.out)
    clear ho4 hb4 fin hQ
    cases Q with
    | none =>
      simp only [Option.getD_none, Option.isSome_none, List.length_nil]
      go_wp2
      go_ret2
      exact HF.out
    | some q =>
      simp only [Option.getD_some, Option.isSome_some] at HO4 hq ⊢
      obtain ⟨nq, hnq⟩ : ∃ nq, q.length = nq := ⟨_, rfl⟩
      rw [hnq] at HO4 hq ⊢
      clear hnq
      go_wp2
      go_ret2
      exact ⟨⟨_, _, _, _, _, _, _, _, rfl, by omega, by omega, HO14.out, HO4.out⟩, HKE.out⟩
  · by_cases e1 : r = 1
    · subst e1
      go_wp2_with fail
      refine (pick_any w3 bc A n c _ 3 hc3 (by omega) (by omega) hn).mono ?_
      rintro e w4 ⟨r2, rfl, hr2, hc4, hk4⟩
      have HO14 := Lib.hid (Kp.own HO13.out hk4 hlt)
      have HO24 := Lib.hid (Kp.own HO23.out hk4 hlt)
      have hs4 := hk4.size
      clear HO13 HO23
      go_wp2_with fail
      refine (specSucc_any w4 w4.heap.size _ n1 cap1 l1 r2 (Nat.le_refl _) (OwnT.reads HO14.out) (by omega)).mono ?_
      rintro e w5 ⟨A5, c5, rfl, ho5, hb5⟩
      have HK5 : Hid (Kp bc w3 w5) := hk4.trans (Kp.of_below hb5)
      have HO15 := Lib.hid (own_below' HO14.out hb5)
      have HO25 := Lib.hid (own_below' HO24.out hb5)
      have HF := fin w5 HK5 HO15 HO25
      have hq := succR_len25 l1 r2
      obtain ⟨Q, hQ⟩ : ∃ Q, succR l1 r2 = Q := ⟨_, rfl⟩
      rw [hQ] at ho5 hq ⊢
      have HO5 := Lib.hid (own_base (base' := w.heap.size) ho5 (by omega))
      have HKE := Lib.hid (hk03.trans HK5.out)
      clear ho5 hb5 fin hQ
      cases Q with
      | none =>
        simp only [Option.getD_none, Option.isSome_none, List.length_nil]
        go_wp2
        go_ret2
        exact HF.out
      | some q =>
        simp only [Option.getD_some, Option.isSome_some] at HO5 hq ⊢
        obtain ⟨nq, hnq⟩ : ∃ nq, q.length = nq := ⟨_, rfl⟩
        rw [hnq] at HO5 hq ⊢
        clear hnq
        go_wp2
        go_ret2
        exact ⟨⟨_, _, _, _, _, _, _, _, rfl, by omega, by omega, HO15.out, HO5.out⟩, HKE.out⟩
    · by_cases e2 : r = 2
      · subst e2
        go_wp2_with fail
        refine (specJoin_any w3 w3.heap.size _ _ n1 cap1 l1 _ n2 cap2 l2 (Nat.le_refl _) (OwnT.reads HO13.out) (by omega) (OwnT.reads HO23.out) (by omega)).mono ?_
        rintro e w4 ⟨A4, c4, rfl, ho4, hb4⟩
        have HK4 : Hid (Kp bc w3 w4) := Kp.of_below hb4
        have HO14 := Lib.hid (own_below' HO13.out hb4)
        have HO24 := Lib.hid (own_below' HO23.out hb4)
        have hq := joinR_len25 3 l1 l2
        obtain ⟨Q, hQ⟩ : ∃ Q, joinR 3 l1 l2 = Q := ⟨_, rfl⟩
        rw [hQ] at ho4 hq ⊢
        have hs4 := hb4.size
        clear hb4 hQ
        go_wp2_with fail
        refine (specJoin_any w4 w4.heap.size _ _ n2 cap2 l2 _ n1 cap1 l1 (Nat.le_refl _) (OwnT.reads HO24.out) (by omega) (OwnT.reads HO14.out) (by omega)).mono ?_
        rintro e w5 ⟨A5, c5, rfl, ho5, hb5⟩
        have HK5 : Hid (Kp bc w3 w5) := HK4.out.trans (Kp.of_below hb5)
        have HF := fin w5 HK5 (Lib.hid (own_below' HO14.out hb5)) (Lib.hid (own_below' HO24.out hb5))
        have HO4 := Lib.hid (own_below' (own_base (base' := w.heap.size) ho4 (by omega)) hb5)
        have hp := joinR_len25 2 l2 l1
        obtain ⟨P, hP⟩ : ∃ P, joinR 2 l2 l1 = P := ⟨_, rfl⟩
        rw [hP] at ho5 hp ⊢
        have HO5 := Lib.hid (own_base (base' := w.heap.size) ho5 (by omega))
        have HKE := Lib.hid (hk03.trans HK5.out)
        clear ho4 ho5 hb5 fin hP
        obtain ⟨nq, hnq⟩ : ∃ nq, (Q.getD []).length = nq := ⟨_, rfl⟩
        rw [hnq] at HO4 hq ⊢
        obtain ⟨np, hnp⟩ : ∃ np, (P.getD []).length = np := ⟨_, rfl⟩
        rw [hnp] at HO5 hp ⊢
        generalize Q.isSome = bq
        generalize P.isSome = bp
        clear hnq hnp
        cases bq with
        | false =>
          go_wp2
          go_ret2
          exact HF.out
        | true =>
          cases bp with
          | false =>
            go_wp2
            go_ret2
            exact HF.out
          | true =>
            go_wp2
            go_ret2
            exact ⟨⟨_, _, _, _, _, _, _, _, rfl, by omega, by omega, HO4.out, HO5.out⟩, HKE.out⟩
      · have HF := fin w3 (Kp.refl _ _) HO13 HO23
        have d0 : ((r : Int) == 0) = false := by simp; omega
        have d1 : ((r : Int) == 1) = false := by simp; omega
        have d2 : ((r : Int) == 2) = false := by simp; omega
        clear fin e0 e1 e2
        go_wp2
        go_ret2
        exact HF.out
end Go.Proofs.YtmbcjddahncocaaDoor

namespace Go.Proofs.YtmbcjddahncocaaDoor
open Go.RowKit
open Cs (Cn)

/-- a row of constraints and two rows of tokens of the call's own -/
def LTwo (base : Nat) (e : Ending) (w' : World) : Prop :=
  ∃ (g cap m : Nat) (l : List Cn) (A1 : Option Addr) (n1 c1 : Nat) (l1 : List (Int × Int)) (A2 : Option Addr) (n2 c2 : Nat) (l2 : List (Int × Int)), e = .returned (.tuple #[.slice (some ⟨g, 0, none⟩) m cap, .slice A1 n1 c1, .slice A2 n2 c2]) ∧ m ≤ 40 ∧ n1 ≤ 25 ∧ n2 ≤ 25 ∧
    OwnC w' base (some ⟨g, 0, none⟩) m cap l ∧ OwnT w' base A1 n1 c1 l1 ∧ OwnT w' base A2 n2 c2 l2

set_option maxRecDepth 100000 in
set_option maxHeartbeats 1600000 in
theorem drawWitness_any (w : World) (B : Nat) (A : Option Addr) (n c : Nat) (hB : B ≤ w.heap.size) (hb : BytR w B A n) (hn : n ≤ 1048576) :
    Calls Tryd.prog 34 #[.slice A n c] w fun e w' => LTwo w.heap.size e w' ∧ Below w.heap.size w w' := by
  go_enter Tryd.func34, Tryd.ntmps34
  go_wp2_with fail
  refine (open_any w B A n c hB hb hn).mono ?_
  rintro e w1 ⟨rfl, hb1, hc1⟩
  have hs1 := hb1.size
  have hlt := hc1.lt
  go_wp2_with fail
  refine (cons_any w1 w.heap.size A n c 0 hc1 (by omega) hn).mono ?_
  rintro e w2 ⟨g, cap, m, rfl, hm, ⟨l, ho2⟩, hc2, hk2⟩
  have hs2 := hk2.size
  go_wp2_with fail
  refine (twoLevels_any w2 w.heap.size A n c _ hc2 (by omega) hn).mono ?_
  rintro e w3 ⟨⟨A1, n1, c1, l1, A2, n2, c2, l2, rfl, h1, h2, ho3, ho4⟩, hk3⟩
  have HB3 := Lib.hid (Kp.below hb1 (hk2.trans hk3) (Nat.le_refl _) hs1)
  have HO2 := Lib.hid (own_base (base' := w.heap.size) (Kp.own ho2 hk3 (by omega)) (by omega))
  have HO3 := Lib.hid (own_base (base' := w.heap.size) ho3 (by omega))
  have HO4 := Lib.hid (own_base (base' := w.heap.size) ho4 (by omega))
  clear ho2 ho3 ho4 hk2 hk3 hb1 hc1 hc2
  go_wp2
  refine bodyPost_ret (v := .tuple #[.slice (some ⟨g, 0, none⟩) m cap, .slice A1 n1 c1, .slice A2 n2 c2]) ?_ rfl ⟨⟨g, cap, m, l, A1, n1, c1, l1, A2, n2, c2, l2, rfl, hm, h1, h2, HO2.out, HO3.out, HO4.out⟩, HB3.out⟩
  simp [results, Tryd.results34, go_sem]

set_option maxHeartbeats 800000 in
theorem drawCtr_any (w : World) (B : Nat) (A : Option Addr) (n c : Nat) (hB : B ≤ w.heap.size) (hb : BytR w B A n) (hn : n ≤ 1048576) :
    Calls Tryd.prog 12 #[.slice A n c] w fun e w' => Two w.heap.size e w' ∧ Below w.heap.size w w' := by
  go_enter Tryd.func12, Tryd.ntmps12
  go_wp2_with fail
  refine (open_any w B A n c hB hb hn).mono ?_
  rintro e w1 ⟨rfl, hb1, hc1⟩
  have hs1 := hb1.size
  go_wp2_with fail
  refine (twoLevels_any w1 w.heap.size A n c 0 hc1 (by omega) hn).mono ?_
  rintro e w2 ⟨⟨A1, n1, c1, l1, A2, n2, c2, l2, rfl, h1, h2, ho1, ho2⟩, hk2⟩
  have HB2 := Lib.hid (Kp.below hb1 hk2 (Nat.le_refl _) hs1)
  have HO1 := Lib.hid (own_base ho1 hs1)
  have HO2 := Lib.hid (own_base ho2 hs1)
  clear ho1 ho2 hk2 hb1 hc1
  go_wp2
  go_ret2
  exact ⟨⟨_, _, _, _, _, _, _, _, rfl, h1, h2, HO1.out, HO2.out⟩, HB2.out⟩
end Go.Proofs.YtmbcjddahncocaaDoor

namespace Go.Proofs.YtmbcjddahncocaaDoor
open Go.RowKit

theorem l03Sign_any (w : World) (s : Int) :
    Calls Tryd.prog 118 #[.int .i64 s] w fun e w' => e = .returned (.bool (Sg.isSign s)) ∧ w' = w := by
  by_cases h1 : 0 ≤ s
  · by_cases h2 : s ≤ 31
    · go_enter Tryd.func118, Tryd.ntmps118
      go_wp2
      go_ret
      exact ⟨by simp [Sg.isSign, h1, h2], rfl⟩
    · go_enter Tryd.func118, Tryd.ntmps118
      go_wp2
      go_ret
      exact ⟨by simp [Sg.isSign, h1, h2], rfl⟩
  · go_enter Tryd.func118, Tryd.ntmps118
    go_wp2
    go_ret
    exact ⟨by simp [Sg.isSign]; omega, rfl⟩

end Go.Proofs.YtmbcjddahncocaaDoor

namespace Go.Proofs.YtmbcjddahncocaaDoor
open Go.RowKit

namespace Sg
theorem bit_bd (s p : Int) : 0 ≤ bit s p ∧ bit s p ≤ 1 := by unfold bit; split <;> omega
theorem least_len (s : Int) : (least s).length = 5 := rfl
theorem least_ok (s : Int) : envOk (least s) = true := by
  have h0 := bit_bd s 0; have h1 := bit_bd s 1; have h2 := bit_bd s 2; have h3 := bit_bd s 3; have h4 := bit_bd s 4
  simp [envOk, least]; omega
theorem least_get (s : Int) (k : Nat) (hk : k < 5) : (least s).getD k 0 = bit s k := by
  rcases (show k = 0 ∨ k = 1 ∨ k = 2 ∨ k = 3 ∨ k = 4 by omega) with rfl | rfl | rfl | rfl | rfl <;> rfl
/-- the cells of the least env, made as far as k -/
def cells (s : Int) (k : Nat) : List Value := (List.range 5).map fun (j : Nat) => .int .i64 (if j < k then bit s j else 0)
theorem cells_get (s : Int) (k j : Nat) (hj : j < 5) : (cells s k)[j]? = some (.int .i64 (if j < k then bit s j else 0)) := by
  simp [cells, hj]
theorem cells_put (s : Int) (k : Nat) (hk : k < 5) : (cells s k).set k (.int .i64 (bit s k)) = cells s (k + 1) := by
  rcases (show k = 0 ∨ k = 1 ∨ k = 2 ∨ k = 3 ∨ k = 4 by omega) with rfl | rfl | rfl | rfl | rfl <;> simp [cells, List.range, List.range.loop]
theorem bit_eq (s : Int) (hs : 0 ≤ s ∧ s ≤ 31) (k : Nat) (hk : k < 5) : Go.bits BinOp.and IntKind.i64 (s / 2 ^ k) 1 = bit s k := by
  rw [and_one _ (Int.ediv_nonneg hs.1 (Int.pow_nonneg (by decide))) (Int.le_trans (Int.ediv_le_self _ hs.1) hs.2)]
  unfold bit has
  simp only [hs.1, hs.2, Int.toNat_natCast, true_and, decide_eq_true_eq, show (0 : Int) ≤ (k : Int) by omega, show (k : Int) < 5 by omega]
  split <;> omega
end Sg

theorem least_row (w : World) (s : Int) : IntR (w.alloc (.cells (Sg.cells s 5).toArray 3)) (w.heap.size + 1) (some ⟨w.heap.size, 0, none⟩) 5 (Sg.least s) := by
  refine ⟨rfl, fun _ => ⟨w.heap.size, 0, rfl, by omega, fun k hk => ?_⟩⟩
  rw [(Blk.made w _ _).cell, Nat.zero_add, List.getElem?_toArray, Sg.cells_get s 5 k hk, if_pos hk, Sg.least_get s k hk]

set_option maxHeartbeats 800000 in
theorem smallestEnv_any (w : World) (s : Int) (hs : 0 ≤ s ∧ s ≤ 31) :
    Calls Tryd.prog 117 #[.int .i64 s] w fun e w' => e = .returned (.slice (some ⟨w.heap.size, 0, none⟩) 5 5) ∧ w' = w.alloc (.cells (Sg.cells s 5).toArray 3) := by
  have hmk : ∀ w, (Instr.makeSlice 28 (.int .i64 5) (.int .i64 5)).run Tryd.prog w = .ok (.slice (some ⟨w.heap.size, 0, none⟩) 5 5) (w.alloc (.cells #[.int .i64 0, .int .i64 0, .int .i64 0, .int .i64 0, .int .i64 0] 3)) := fun _ => by kernel_rfl
  go_enter Tryd.func117, Tryd.ntmps117
  go_wp2
  go_loopw [8] (fun i wr => ∃ k : Nat, k ≤ 5 ∧ i = .int .i64 k ∧ wr = w.alloc (.cells (Sg.cells s k).toArray 3)) (fun i _ => 5 - (intOf i).toNat)
  case atStart => exact ⟨0, by omega, rfl, rfl⟩
  case round =>
    obtain ⟨k, hk, rfl, rfl⟩ := hrel
    by_cases hlt : k < 5
    · have hb := Sg.bit_eq s hs k hlt
      have HP := Lib.hid (Sg.cells_put s k hlt)
      obtain ⟨v, hv⟩ : ∃ v, (Sg.cells s k)[k]? = some v := ⟨_, Sg.cells_get s k k hlt⟩
      have e0 : (w.alloc (.cells (Sg.cells s k).toArray 3)).cell? ⟨w.heap.size, k, none⟩ = some v := by
        rw [(Blk.made w _ _).cell, List.getElem?_toArray, hv]
      have f0 := (Blk.made w 3 (Sg.cells s k).toArray).thawed k
      have hkt : ((k : Int)).toNat = k := by omega
      clear hv
      obtain ⟨h1, h2⟩ := hs
      generalize Sg.cells s k = cs at *
      go_wp2
      go_roundw
      case rel => exact ⟨k + 1, by omega, by go_num, by rw [HP.out]⟩
      case measure => simp [intOf]; omega
    · obtain rfl : k = 5 := by omega
      go_wp2
      go_ret
      exact ⟨rfl, rfl⟩

set_option maxRecDepth 100000 in
set_option maxHeartbeats 1600000 in
theorem l03Least_any (w : World) (s : Int) :
    Calls Tryd.prog 66 #[.int .i64 s] w fun e w' => ∃ g cap, e = .returned (.slice (some ⟨g, 0, none⟩) 5 cap) ∧ OwnI w' w.heap.size (some ⟨g, 0, none⟩) 5 cap (Sg.least s) ∧ Below w.heap.size w w' := by
  obtain ⟨i0, hi, hz0, hz1, hz2⟩ := info_parts info_int
  have ho0 : OwnI (w.alloc (.cells #[] 3)) w.heap.size (some ⟨w.heap.size, 0, none⟩) 0 0 [] := World.ownsRow_made w #[] 0 (Nat.le_refl _) (by simp [maxLen]) (by simp)
  have HO0 := Lib.hid ho0
  have HB0 := Lib.hid ((Below.refl w.heap.size w).alloc (Nat.le_refl _) (.cells #[] 3))
  clear ho0
  go_enter Tryd.func66, Tryd.ntmps66
  go_wp2
  go_loopw [3, 4] (fun v i wr => ∃ (k g cap : Nat), k ≤ 5 ∧ i = .int .i64 k ∧ v = .slice (some ⟨g, 0, none⟩) k cap ∧ OwnI wr w.heap.size (some ⟨g, 0, none⟩) k cap ((Sg.least s).take k) ∧ Below w.heap.size w wr) (fun _ i _ => 5 - (intOf i).toNat)
  case atStart => exact ⟨0, _, 0, by omega, rfl, rfl, HO0.out, HB0.out⟩
  case round =>
    obtain ⟨k, g, cap, hk, rfl, rfl, hown, hbel⟩ := hrel
    have hszr := hbel.size
    by_cases hk5 : k < 5
    · have hk5' : (k : Int) < 5 := by omega
      have HTK : Hid ((Sg.least s).take (k + 1) = (Sg.least s).take k ++ [Sg.bit s k]) := by
        have := Sg.least_get s k hk5
        rw [List.getD_eq_getElem?_getD] at this
        have hlen := Sg.least_len s
        unfold Hid
        rw [List.take_succ_eq_append_getElem (by omega)]
        rw [List.getElem?_eq_getElem (by omega)] at this
        simp only [Option.getD_some] at this
        rw [this]
      generalize (Sg.least s).take k = env at *
      cases hh : Sg.has s k with
      | false =>
        have HBT : Hid (Sg.bit s k = 0) := by unfold Hid Sg.bit; rw [hh]; rfl
        go_wp2_with fail
        refine (specSignHas_any wr s k).mono ?_
        rintro e w1 ⟨rfl, rfl⟩
        rw [hh]
        go_wp2_with (at_builtin; refine wpList_append_own _ rfl (.tmp 14) (.tmp 16) 28 rfl w.heap.size 3 i0 (.int .i64 0) 1 8 Tryd.underlying28 hi hz0 hz1 hz2 rfl (by decide) (.slice (some ⟨g, 0, none⟩) k cap) k (env.map (Value.int .i64)) rfl (hown.alloc _) ⟨w1.heap.size, 0, none⟩ 1 1 [.int .i64 0] rfl rfl (cell_one_new _ _ _) (fun u hu => by simp at hu; subst hu; rfl) (by unfold maxLen; omega) (by omega) (by simp; omega) ?_; intro v' w3 hown' hgrow hnil)
        obtain ⟨g2, cap2, rfl⟩ : ∃ g' cap', v' = .slice (some ⟨g', 0, none⟩) (k + 1) cap' := by
          rcases hown'.2 with ⟨h0, _⟩ | ⟨g', cap', _, h0, _⟩
          · have := (hnil.1 h0).1
            cases this
          · exact ⟨g', cap', h0⟩
        have HB1 : Hid (Below w.heap.size w w3) := (hbel.alloc hszr _).grown hgrow (by simp; omega) (fun k h => (hown.lt k h).1)
        have HW : Hid (OwnI w3 w.heap.size (some ⟨g2, 0, none⟩) (k + 1) cap2 (env ++ [0])) := by
          show OwnI _ _ _ _ _ _
          simpa [OwnI] using hown'
        clear hown hown' hgrow hbel hnil
        go_wp2
        go_roundw
        case rel => exact ⟨k + 1, g2, cap2, by omega, by go_num, rfl, by rw [HTK.out, HBT.out]; exact HW.out, HB1.out⟩
        case measure => simp [intOf]; omega
      | true =>
        have HBT : Hid (Sg.bit s k = 1) := by unfold Hid Sg.bit; rw [hh]; rfl
        go_wp2_with fail
        refine (specSignHas_any wr s k).mono ?_
        rintro e w1 ⟨rfl, rfl⟩
        rw [hh]
        go_wp2_with (at_builtin; refine wpList_append_own _ rfl (.tmp 14) (.tmp 16) 28 rfl w.heap.size 3 i0 (.int .i64 0) 1 8 Tryd.underlying28 hi hz0 hz1 hz2 rfl (by decide) (.slice (some ⟨g, 0, none⟩) k cap) k (env.map (Value.int .i64)) rfl (hown.alloc _) ⟨w1.heap.size, 0, none⟩ 1 1 [.int .i64 1] rfl rfl (cell_one_new _ _ _) (fun u hu => by simp at hu; subst hu; rfl) (by unfold maxLen; omega) (by omega) (by simp; omega) ?_; intro v' w3 hown' hgrow hnil)
        obtain ⟨g2, cap2, rfl⟩ : ∃ g' cap', v' = .slice (some ⟨g', 0, none⟩) (k + 1) cap' := by
          rcases hown'.2 with ⟨h0, _⟩ | ⟨g', cap', _, h0, _⟩
          · have := (hnil.1 h0).1
            cases this
          · exact ⟨g', cap', h0⟩
        have HB1 : Hid (Below w.heap.size w w3) := (hbel.alloc hszr _).grown hgrow (by simp; omega) (fun k h => (hown.lt k h).1)
        have HW : Hid (OwnI w3 w.heap.size (some ⟨g2, 0, none⟩) (k + 1) cap2 (env ++ [1])) := by
          show OwnI _ _ _ _ _ _
          simpa [OwnI] using hown'
        clear hown hown' hgrow hbel hnil
        go_wp2
        go_roundw
        case rel => exact ⟨k + 1, g2, cap2, by omega, by go_num, rfl, by rw [HTK.out, HBT.out]; exact HW.out, HB1.out⟩
        case measure => simp [intOf]; omega
    · obtain rfl : k = 5 := by omega
      have HT : Hid ((Sg.least s).take 5 = Sg.least s) := rfl
      go_wp2
      go_ret
      exact ⟨g, cap, rfl, by rw [HT.out] at hown; exact hown, hbel⟩

/-- what LevelSign answers -/
def lsgR (l : List (Int × Int)) (s : Int) : Int := if Sg.isSign s = true then (match evalR (Sg.least s) l with | some v => min v 1 | none => -1) else -1
theorem lsgR_no {l : List (Int × Int)} {s : Int} (h : Sg.isSign s = false) : lsgR l s = -1 := by unfold lsgR; rw [if_neg (by rw [h]; decide)]
theorem lsgR_none {l : List (Int × Int)} {s : Int} (h : evalR (Sg.least s) l = none) : lsgR l s = -1 := by unfold lsgR; rw [h]; split <;> rfl
theorem lsgR_some {l : List (Int × Int)} {s v : Int} (hs : Sg.isSign s = true) (h : evalR (Sg.least s) l = some v) : lsgR l s = min v 1 := by unfold lsgR; rw [h, if_pos hs]
theorem sign_bd {s : Int} (h : Sg.isSign s = true) : 0 ≤ s ∧ s ≤ 31 := by simpa [Sg.isSign] using h

set_option maxRecDepth 100000 in
set_option maxHeartbeats 1600000 in
theorem implLevelSign_any (w : World) (B : Nat) (A : Option Addr) (n c : Nat) (l : List (Int × Int)) (s : Int) (T : TypeId) (pv : Value) (h0 : 0 < B) (hB : B ≤ w.heap.size)
    (hl : TokR w B A n l) (hn : (n : Int) ≤ 140737488355328) (hE : ErrAt w T pv) :
    Calls Tryd.prog 173 #[.slice A n c, .int .i64 s] w fun e w' => e = .returned (.int .i64 (lsgR l s)) ∧ Below w.heap.size w w' := by
  cases hs : Sg.isSign s with
  | false =>
    have HF := Lib.hid (lsgR_no (l := l) hs)
    clear hl
    go_enter Tryd.func173, Tryd.ntmps173
    go_wp2_with fail
    refine (signOk_any w s).mono ?_
    rintro e w' ⟨rfl, rfl⟩
    rw [hs]
    go_wp2
    go_ret
    exact ⟨by rw [HF.out]; rfl, Below.refl _ _⟩
  | true =>
    have hbd := sign_bd hs
    have hb1 := (Below.refl w.heap.size w).alloc (Nat.le_refl _) (.cells (Sg.cells s 5).toArray 3)
    have hev := levelEval_any (w.alloc (.cells (Sg.cells s 5).toArray 3)) (w.heap.size + 1) A (some ⟨w.heap.size, 0, none⟩) n c 5 5 (Sg.least s) l T pv (by omega) (by simp) ((hl.below (hb1.mono hB)).more (by omega)) hn (least_row w s) (by omega) (hE.below (hb1.mono hB) h0)
    cases hr : evalR (Sg.least s) l with
    | none =>
      rw [hr] at hev
      have HEV := Lib.hid hev
      have HB1 := Lib.hid hb1
      have HF := Lib.hid (lsgR_none (s := s) hr)
      clear hev hb1 hr hl
      go_enter Tryd.func173, Tryd.ntmps173
      go_wp2_with fail
      refine (signOk_any w s).mono ?_
      rintro e w' ⟨rfl, rfl⟩
      rw [hs]
      go_wp2_with fail
      refine (smallestEnv_any _ s hbd).mono ?_
      rintro e w2 ⟨rfl, rfl⟩
      go_wp2_with fail
      refine HEV.out.mono ?_
      rintro e w3 ⟨rfl, hb3⟩
      unfold evalV
      have HB3 := Lib.hid (HB1.out.trans (hb3.mono (by simp)))
      clear hb3
      go_wp2
      go_ret
      exact ⟨by rw [HF.out]; rfl, HB3.out⟩
    | some v =>
      rw [hr] at hev
      have HEV := Lib.hid hev
      have HB1 := Lib.hid hb1
      have HF := Lib.hid (lsgR_some hs hr)
      clear hev hb1 hr hl
      by_cases hv : v ≤ 1
      · have HM : Hid (min v 1 = v) := by unfold Hid; omega
        go_enter Tryd.func173, Tryd.ntmps173
        go_wp2_with fail
        refine (signOk_any w s).mono ?_
        rintro e w' ⟨rfl, rfl⟩
        rw [hs]
        go_wp2_with fail
        refine (smallestEnv_any _ s hbd).mono ?_
        rintro e w2 ⟨rfl, rfl⟩
        go_wp2_with fail
        refine HEV.out.mono ?_
        rintro e w3 ⟨rfl, hb3⟩
        unfold evalV
        have HB3 := Lib.hid (HB1.out.trans (hb3.mono (by simp)))
        clear hb3
        go_wp2
        go_ret
        exact ⟨by rw [HF.out, HM.out]; rfl, HB3.out⟩
      · have HM : Hid (min v 1 = 1) := by unfold Hid; omega
        have hv' : 1 < v := by omega
        go_enter Tryd.func173, Tryd.ntmps173
        go_wp2_with fail
        refine (signOk_any w s).mono ?_
        rintro e w' ⟨rfl, rfl⟩
        rw [hs]
        go_wp2_with fail
        refine (smallestEnv_any _ s hbd).mono ?_
        rintro e w2 ⟨rfl, rfl⟩
        go_wp2_with fail
        refine HEV.out.mono ?_
        rintro e w3 ⟨rfl, hb3⟩
        unfold evalV
        have HB3 := Lib.hid (HB1.out.trans (hb3.mono (by simp)))
        clear hb3
        go_wp2
        go_ret
        exact ⟨by rw [HF.out, HM.out]; rfl, HB3.out⟩

end Go.Proofs.YtmbcjddahncocaaDoor

namespace Go.Proofs.YtmbcjddahncocaaDoor

namespace Nm
/-- a residual for a sign -/
def ROk (s : Int) (l : List At) : Prop := Sg.isSign s = true ∧ 1 ≤ l.length ∧ AllOk l ∧ Incr l ∧ (∀ k, k < l.length → (l.getD k (0, 0)).1 = -1 ∨ Sg.has s (l.getD k (0, 0)).1 = true) ∧ ((l.getD 0 (0, 0)).1 = -1 → Exceeds ((l.getD 0 (0, 0)).2 - 1) (l.drop 1))
open Classical in
noncomputable def residOk (s : Int) (l : List At) : Bool := decide (ROk s l)
theorem residOk_iff (s : Int) (l : List At) : residOk s l = true ↔ ROk s l := by simp [residOk]
theorem residOk_no {s : Int} {l : List At} (h : ¬ ROk s l) : residOk s l = false := by simp [residOk, h]
end Nm
end Go.Proofs.YtmbcjddahncocaaDoor
