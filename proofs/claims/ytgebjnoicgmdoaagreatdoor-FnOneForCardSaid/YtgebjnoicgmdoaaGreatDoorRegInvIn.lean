/- What chapter 4's laws draw: two levels; a level with an idle parameter. -/
/- Chapter 4's draws: two levels, from bytes; the rest of the bytes. -/
/- Chapter 6's draws: a list of constraints and two levels; chapter 4's draw of two levels for Counter. -/
/- Inside a fence (the body of a range over a function): an operation as everywhere; a region that draws its order, by an invariant. -/
import Derived.Test.YtgebjnoicgmdoaaGreatDoorCur4
import Derived.Test.YtgebjnoicgmdoaaGreatDoorNMath2
import Derived.Test.YtgebjnoicgmdoaaGreatDoorCons
import Derived.OrdersIn
import Derived.RangeFuncCalls
import Derived.OwnWalkIn
import Derived.Laws.Tables
import Derived.Test.YtgebjnoicgmdoaaGreatDoorRegInv2

namespace Go.Proofs.YtgebjnoicgmdoaaGreatDoor
open Go.RowKit

theorem joinR_len25 (x : Int) (a b : List (Int × Int)) : ((joinR x a b).getD []).length ≤ 25 := by
  cases h : joinR x a b with
  | none => simp
  | some l => have := (joinR_some h).2.1; simp; omega
theorem succR_len25 (l : List (Int × Int)) (n : Int) : ((succR l n).getD []).length ≤ 25 := by
  unfold succR
  split
  · rename_i h
    simp [sxs]; omega
  · simp
/-- two rows of tokens of the call's own -/
def Two (base : Nat) (e : Ending) (w' : World) : Prop :=
  ∃ A1 n1 c1 l1 A2 n2 c2 l2, e = .returned (.tuple #[.slice A1 n1 c1, .slice A2 n2 c2]) ∧ n1 ≤ 25 ∧ n2 ≤ 25 ∧ OwnT w' base A1 n1 c1 l1 ∧ OwnT w' base A2 n2 c2 l2

set_option maxRecDepth 100000 in
set_option maxHeartbeats 4000000 in
theorem twoLevels_any (w : World) (bc : Nat) (A : Option Addr) (n c K : Nat) (hc : Cur w bc A n c K) (hK : K ≤ 600000) (hn : n ≤ 1048576) :
    Calls Tryz.prog 50 #[.pointer (some ⟨bc, 0, none⟩)] w fun e w' => Two w.heap.size e w' ∧ Kp bc w w' := by
  have hlt := hc.lt
  have hcost : cost 3 = 88 := rfl
  go_enter Tryz.func50, Tryz.ntmps50
  go_wp2_with fail
  refine (badLevel_any w bc A n c K hc (by omega) hn).mono ?_
  rintro e w1 ⟨g1, cap1, l1, rfl, h11, h12, ho1, hc1, hk1⟩
  have hs1 := hk1.size
  have hlv := level_any bc A n c hn 3 w1 (K + 200) (by omega) hc1 (by omega)
  obtain ⟨n1, hn1⟩ : ∃ n1, l1.length = n1 := ⟨_, rfl⟩
  rw [hn1] at h11 h12 ho1 ⊢
  have HO1 := Lib.hid ho1
  clear hn1 ho1
  go_wp2_with fail
  refine hlv.mono ?_
  rintro e w2 ⟨g2, cap2, l2, rfl, h21, h22, ho2, hc2, hk2⟩
  obtain ⟨n2, hn2⟩ : ∃ n2, l2.length = n2 := ⟨_, rfl⟩
  rw [hn2] at h21 h22 ho2 ⊢
  have hs2 := hk2.size
  have HO12 := Lib.hid (Kp.own HO1.out hk2 hlt)
  have HO2 := Lib.hid (own_base ho2 hs1)
  have hk02 := hk1.trans hk2
  clear hn2 ho2 hlv HO1 hk1 hk2
  go_wp2_with fail
  refine (pick_any w2 bc A n c _ 5 hc2 (by omega) (by omega) hn).mono ?_
  rintro e w3 ⟨r, rfl, hr, hc3, hk3⟩
  have hs3 := hk3.size
  have hk03 := hk02.trans hk3
  have HO13 := Lib.hid (Kp.own HO12.out hk3 hlt)
  have HO23 := Lib.hid (Kp.own HO2.out hk3 hlt)
  clear hk02 hk3 HO12 HO2
  have fin : ∀ w', Hid (Kp bc w3 w') → Hid (OwnT w' w.heap.size (some ⟨g1, 0, none⟩) n1 cap1 l1) → Hid (OwnT w' w.heap.size (some ⟨g2, 0, none⟩) n2 cap2 l2) → Hid (Two w.heap.size (.returned (.tuple #[.slice (some ⟨g1, 0, none⟩) n1 cap1, .slice (some ⟨g2, 0, none⟩) n2 cap2])) w' ∧ Kp bc w w') :=
    fun w' h1 h2 h3 => ⟨⟨_, _, _, _, _, _, _, _, rfl, by omega, by omega, h2.out, h3.out⟩, hk03.trans h1.out⟩
  by_cases e0 : r = 0
  · subst e0
    go_wp2_with fail
    refine (specJoin_any w3 w3.heap.size _ _ n1 cap1 l1 _ n2 cap2 l2 (Nat.le_refl _) (OwnT.reads HO13.out) (by omega) (OwnT.reads HO23.out) (by omega)).mono ?_
    rintro e w4 ⟨A4, c4, rfl, ho4, hb4⟩
    have HK4 : Hid (Kp bc w3 w4) := Kp.of_below hb4
    have HO14 := Lib.hid (own_below' HO13.out hb4)
    have HO24 := Lib.hid (own_below' HO23.out hb4)
    have HF := fin w4 HK4 HO14 HO24
    have hq := joinR_len25 2 l1 l2
    obtain ⟨Q, hQ⟩ : ∃ Q, joinR 2 l1 l2 = Q := ⟨_, rfl⟩
    rw [hQ] at ho4 hq ⊢
    have HO4 := Lib.hid (own_base (base' := w.heap.size) ho4 (by omega))
    have HKE := Lib.hid (hk03.trans HK4.out)
    clear ho4 hb4 fin hQ
    cases Q with
    | none =>
      simp only [Option.getD_none, Option.isSome_none, List.length_nil]
      go_wp2
      go_ret2
      exact HF.out
    | some q =>
      simp only [Option.getD_some, Option.isSome_some] at HO4 hq ⊢
      obtain ⟨nq, hnq⟩ : ∃ nq, q.length = nq := ⟨_, rfl⟩
      rw [hnq] at HO4 hq ⊢
      clear hnq
      go_wp2
      go_ret2
      exact ⟨⟨_, _, _, _, _, _, _, _, rfl, by omega, by omega, HO14.out, HO4.out⟩, HKE.out⟩
  · by_cases e1 : r = 1
    · subst e1
      go_wp2_with fail
      refine (pick_any w3 bc A n c _ 3 hc3 (by omega) (by omega) hn).mono ?_
      rintro e w4 ⟨r2, rfl, hr2, hc4, hk4⟩
      have HO14 := Lib.hid (Kp.own HO13.out hk4 hlt)
      have HO24 := Lib.hid (Kp.own HO23.out hk4 hlt)
      have hs4 := hk4.size
      clear HO13 HO23
      go_wp2_with fail
      refine (specSucc_any w4 w4.heap.size _ n1 cap1 l1 r2 (Nat.le_refl _) (OwnT.reads HO14.out) (by omega)).mono ?_
      rintro e w5 ⟨A5, c5, rfl, ho5, hb5⟩
      have HK5 : Hid (Kp bc w3 w5) := hk4.trans (Kp.of_below hb5)
      have HO15 := Lib.hid (own_below' HO14.out hb5)
      have HO25 := Lib.hid (own_below' HO24.out hb5)
      have HF := fin w5 HK5 HO15 HO25
      have hq := succR_len25 l1 r2
      obtain ⟨Q, hQ⟩ : ∃ Q, succR l1 r2 = Q := ⟨_, rfl⟩
      rw [hQ] at ho5 hq ⊢
      have HO5 := Lib.hid (own_base (base' := w.heap.size) ho5 (by omega))
      have HKE := Lib.hid (hk03.trans HK5.out)
      clear ho5 hb5 fin hQ
      cases Q with
      | none =>
        simp only [Option.getD_none, Option.isSome_none, List.length_nil]
        go_wp2
        go_ret2
        exact HF.out
      | some q =>
        simp only [Option.getD_some, Option.isSome_some] at HO5 hq ⊢
        obtain ⟨nq, hnq⟩ : ∃ nq, q.length = nq := ⟨_, rfl⟩
        rw [hnq] at HO5 hq ⊢
        clear hnq
        go_wp2
        go_ret2
        exact ⟨⟨_, _, _, _, _, _, _, _, rfl, by omega, by omega, HO15.out, HO5.out⟩, HKE.out⟩
    · by_cases e2 : r = 2
      · subst e2
        go_wp2_with fail
        refine (specJoin_any w3 w3.heap.size _ _ n1 cap1 l1 _ n2 cap2 l2 (Nat.le_refl _) (OwnT.reads HO13.out) (by omega) (OwnT.reads HO23.out) (by omega)).mono ?_
        rintro e w4 ⟨A4, c4, rfl, ho4, hb4⟩
        have HK4 : Hid (Kp bc w3 w4) := Kp.of_below hb4
        have HO14 := Lib.hid (own_below' HO13.out hb4)
        have HO24 := Lib.hid (own_below' HO23.out hb4)
        have hq := joinR_len25 3 l1 l2
        obtain ⟨Q, hQ⟩ : ∃ Q, joinR 3 l1 l2 = Q := ⟨_, rfl⟩
        rw [hQ] at ho4 hq ⊢
        have hs4 := hb4.size
        clear hb4 hQ
        go_wp2_with fail
        refine (specJoin_any w4 w4.heap.size _ _ n2 cap2 l2 _ n1 cap1 l1 (Nat.le_refl _) (OwnT.reads HO24.out) (by omega) (OwnT.reads HO14.out) (by omega)).mono ?_
        rintro e w5 ⟨A5, c5, rfl, ho5, hb5⟩
        have HK5 : Hid (Kp bc w3 w5) := HK4.out.trans (Kp.of_below hb5)
        have HF := fin w5 HK5 (Lib.hid (own_below' HO14.out hb5)) (Lib.hid (own_below' HO24.out hb5))
        have HO4 := Lib.hid (own_below' (own_base (base' := w.heap.size) ho4 (by omega)) hb5)
        have hp := joinR_len25 2 l2 l1
        obtain ⟨P, hP⟩ : ∃ P, joinR 2 l2 l1 = P := ⟨_, rfl⟩
        rw [hP] at ho5 hp ⊢
        have HO5 := Lib.hid (own_base (base' := w.heap.size) ho5 (by omega))
        have HKE := Lib.hid (hk03.trans HK5.out)
        clear ho4 ho5 hb5 fin hP
        obtain ⟨nq, hnq⟩ : ∃ nq, (Q.getD []).length = nq := ⟨_, rfl⟩
        rw [hnq] at HO4 hq ⊢
        obtain ⟨np, hnp⟩ : ∃ np, (P.getD []).length = np := ⟨_, rfl⟩
        rw [hnp] at HO5 hp ⊢
        generalize Q.isSome = bq
        generalize P.isSome = bp
        clear hnq hnp
        cases bq with
        | false =>
          go_wp2
          go_ret2
          exact HF.out
        | true =>
          cases bp with
          | false =>
            go_wp2
            go_ret2
            exact HF.out
          | true =>
            go_wp2
            go_ret2
            exact ⟨⟨_, _, _, _, _, _, _, _, rfl, by omega, by omega, HO4.out, HO5.out⟩, HKE.out⟩
      · have HF := fin w3 (Kp.refl _ _) HO13 HO23
        have d0 : ((r : Int) == 0) = false := by simp; omega
        have d1 : ((r : Int) == 1) = false := by simp; omega
        have d2 : ((r : Int) == 2) = false := by simp; omega
        clear fin e0 e1 e2
        go_wp2
        go_ret2
        exact HF.out
end Go.Proofs.YtgebjnoicgmdoaaGreatDoor

namespace Go.Proofs.YtgebjnoicgmdoaaGreatDoor
open Go.RowKit

set_option maxRecDepth 100000 in
set_option maxHeartbeats 1600000 in
theorem rest5_any (w : World) (B : Nat) (A : Option Addr) (n c : Nat) (hb : BytR w B A n) (hn : n ≤ 1048576) (hc : n ≤ c) :
    Calls Tryz.prog 23 #[.slice A n c] w fun e w' => ∃ A' n' c', e = .returned (.slice A' n' c') ∧ BytR w B A' n' ∧ n' ≤ 1048576 ∧ w = w' := by
  by_cases h0 : n = 0
  · subst h0
    by_cases hcz : c = 0
    · subst hcz
      go_enter Tryz.func23, Tryz.ntmps23
      go_wp2
      go_ret
      exact ⟨_, _, _, rfl, (fun h => absurd h (by omega)), by omega, rfl⟩
    · have hcz' : ¬ ((c : Int) = 0) := by omega
      go_enter Tryz.func23, Tryz.ntmps23
      go_wp2
      go_ret
      exact ⟨_, _, _, rfl, (fun h => absurd h (by omega)), by omega, rfl⟩
  · obtain ⟨b, off, rfl, hbB, hcs⟩ := hb (by omega)
    have hcast : (n : Int) / 2 = ((n / 2 : Nat) : Int) := by omega
    obtain ⟨q, hq⟩ : ∃ q, n / 2 = q := ⟨_, rfl⟩
    rw [hq] at hcast
    have hqn : q < n := by omega
    have n1 : (q : Int) ≤ (n : Int) := by omega
    have n2 : (n : Int) ≤ (c : Int) := by omega
    have n3 : ¬ (c = q) := by omega
    have HB : Hid (BytR w B (some ⟨b, off + q, none⟩) (n - q)) := fun _ => ⟨b, off + q, rfl, hbB, fun k hk => by
      obtain ⟨x, hx, y⟩ := hcs (q + k) (by omega)
      exact ⟨x, hx, by rw [Nat.add_assoc]; exact y⟩⟩
    clear hcs hq
    go_enter Tryz.func23, Tryz.ntmps23
    go_wp2
    go_ret
    exact ⟨some ⟨b, off + q, none⟩, n - q, c - q, by first | rfl | (congr 2 <;> omega), HB.out, by omega, rfl⟩

end Go.Proofs.YtgebjnoicgmdoaaGreatDoor

namespace Go.Proofs.YtgebjnoicgmdoaaGreatDoor
open Go.RowKit
open Cs (Cn)

/-- a row of constraints and two rows of tokens of the call's own -/
def LTwo (base : Nat) (e : Ending) (w' : World) : Prop :=
  ∃ (g cap m : Nat) (l : List Cn) (A1 : Option Addr) (n1 c1 : Nat) (l1 : List (Int × Int)) (A2 : Option Addr) (n2 c2 : Nat) (l2 : List (Int × Int)), e = .returned (.tuple #[.slice (some ⟨g, 0, none⟩) m cap, .slice A1 n1 c1, .slice A2 n2 c2]) ∧ m ≤ 40 ∧ n1 ≤ 25 ∧ n2 ≤ 25 ∧
    OwnC w' base (some ⟨g, 0, none⟩) m cap l ∧ OwnT w' base A1 n1 c1 l1 ∧ OwnT w' base A2 n2 c2 l2

set_option maxRecDepth 100000 in
set_option maxHeartbeats 1600000 in
theorem drawLeUnder_any (w : World) (B : Nat) (A : Option Addr) (n c : Nat) (hB : B ≤ w.heap.size) (hb : BytR w B A n) (hn : n ≤ 1048576) :
    Calls Tryz.prog 10 #[.slice A n c] w fun e w' => LTwo w.heap.size e w' ∧ Below w.heap.size w w' := by
  go_enter Tryz.func10, Tryz.ntmps10
  go_wp2_with fail
  refine (open_any w B A n c hB hb hn).mono ?_
  rintro e w1 ⟨rfl, hb1, hc1⟩
  have hs1 := hb1.size
  have hlt := hc1.lt
  go_wp2_with fail
  refine (cons_any w1 w.heap.size A n c 0 hc1 (by omega) hn).mono ?_
  rintro e w2 ⟨g, cap, m, rfl, hm, ⟨l, ho2⟩, hc2, hk2⟩
  have hs2 := hk2.size
  go_wp2_with fail
  refine (twoLevels_any w2 w.heap.size A n c _ hc2 (by omega) hn).mono ?_
  rintro e w3 ⟨⟨A1, n1, c1, l1, A2, n2, c2, l2, rfl, h1, h2, ho3, ho4⟩, hk3⟩
  have HB3 := Lib.hid (Kp.below hb1 (hk2.trans hk3) (Nat.le_refl _) hs1)
  have HO2 := Lib.hid (own_base (base' := w.heap.size) (Kp.own ho2 hk3 (by omega)) (by omega))
  have HO3 := Lib.hid (own_base (base' := w.heap.size) ho3 (by omega))
  have HO4 := Lib.hid (own_base (base' := w.heap.size) ho4 (by omega))
  clear ho2 ho3 ho4 hk2 hk3 hb1 hc1 hc2
  go_wp2
  refine bodyPost_ret (v := .tuple #[.slice (some ⟨g, 0, none⟩) m cap, .slice A1 n1 c1, .slice A2 n2 c2]) ?_ rfl ⟨⟨g, cap, m, l, A1, n1, c1, l1, A2, n2, c2, l2, rfl, hm, h1, h2, HO2.out, HO3.out, HO4.out⟩, HB3.out⟩
  simp [results, Tryz.results10, go_sem]

set_option maxRecDepth 100000 in
set_option maxHeartbeats 1600000 in
theorem drawEqUnder_any (w : World) (B : Nat) (A : Option Addr) (n c : Nat) (hB : B ≤ w.heap.size) (hb : BytR w B A n) (hn : n ≤ 1048576) :
    Calls Tryz.prog 26 #[.slice A n c] w fun e w' => LTwo w.heap.size e w' ∧ Below w.heap.size w w' := by
  go_enter Tryz.func26, Tryz.ntmps26
  go_wp2_with fail
  refine (open_any w B A n c hB hb hn).mono ?_
  rintro e w1 ⟨rfl, hb1, hc1⟩
  have hs1 := hb1.size
  have hlt := hc1.lt
  go_wp2_with fail
  refine (cons_any w1 w.heap.size A n c 0 hc1 (by omega) hn).mono ?_
  rintro e w2 ⟨g, cap, m, rfl, hm, ⟨l, ho2⟩, hc2, hk2⟩
  have hs2 := hk2.size
  go_wp2_with fail
  refine (twoLevels_any w2 w.heap.size A n c _ hc2 (by omega) hn).mono ?_
  rintro e w3 ⟨⟨A1, n1, c1, l1, A2, n2, c2, l2, rfl, h1, h2, ho3, ho4⟩, hk3⟩
  have HB3 := Lib.hid (Kp.below hb1 (hk2.trans hk3) (Nat.le_refl _) hs1)
  have HO2 := Lib.hid (own_base (base' := w.heap.size) (Kp.own ho2 hk3 (by omega)) (by omega))
  have HO3 := Lib.hid (own_base (base' := w.heap.size) ho3 (by omega))
  have HO4 := Lib.hid (own_base (base' := w.heap.size) ho4 (by omega))
  clear ho2 ho3 ho4 hk2 hk3 hb1 hc1 hc2
  go_wp2
  refine bodyPost_ret (v := .tuple #[.slice (some ⟨g, 0, none⟩) m cap, .slice A1 n1 c1, .slice A2 n2 c2]) ?_ rfl ⟨⟨g, cap, m, l, A1, n1, c1, l1, A2, n2, c2, l2, rfl, hm, h1, h2, HO2.out, HO3.out, HO4.out⟩, HB3.out⟩
  simp [results, Tryz.results26, go_sem]

set_option maxRecDepth 100000 in
set_option maxHeartbeats 1600000 in
theorem drawWitness_any (w : World) (B : Nat) (A : Option Addr) (n c : Nat) (hB : B ≤ w.heap.size) (hb : BytR w B A n) (hn : n ≤ 1048576) :
    Calls Tryz.prog 31 #[.slice A n c] w fun e w' => LTwo w.heap.size e w' ∧ Below w.heap.size w w' := by
  go_enter Tryz.func31, Tryz.ntmps31
  go_wp2_with fail
  refine (open_any w B A n c hB hb hn).mono ?_
  rintro e w1 ⟨rfl, hb1, hc1⟩
  have hs1 := hb1.size
  have hlt := hc1.lt
  go_wp2_with fail
  refine (cons_any w1 w.heap.size A n c 0 hc1 (by omega) hn).mono ?_
  rintro e w2 ⟨g, cap, m, rfl, hm, ⟨l, ho2⟩, hc2, hk2⟩
  have hs2 := hk2.size
  go_wp2_with fail
  refine (twoLevels_any w2 w.heap.size A n c _ hc2 (by omega) hn).mono ?_
  rintro e w3 ⟨⟨A1, n1, c1, l1, A2, n2, c2, l2, rfl, h1, h2, ho3, ho4⟩, hk3⟩
  have HB3 := Lib.hid (Kp.below hb1 (hk2.trans hk3) (Nat.le_refl _) hs1)
  have HO2 := Lib.hid (own_base (base' := w.heap.size) (Kp.own ho2 hk3 (by omega)) (by omega))
  have HO3 := Lib.hid (own_base (base' := w.heap.size) ho3 (by omega))
  have HO4 := Lib.hid (own_base (base' := w.heap.size) ho4 (by omega))
  clear ho2 ho3 ho4 hk2 hk3 hb1 hc1 hc2
  go_wp2
  refine bodyPost_ret (v := .tuple #[.slice (some ⟨g, 0, none⟩) m cap, .slice A1 n1 c1, .slice A2 n2 c2]) ?_ rfl ⟨⟨g, cap, m, l, A1, n1, c1, l1, A2, n2, c2, l2, rfl, hm, h1, h2, HO2.out, HO3.out, HO4.out⟩, HB3.out⟩
  simp [results, Tryz.results31, go_sem]

end Go.Proofs.YtgebjnoicgmdoaaGreatDoor

namespace Go.Proofs.YtgebjnoicgmdoaaGreatDoor
open Go

theorem act_tmI (a : Array Value) (N : Nat) (h : a.size = N) : ({ tmps := a, defers := [] } : Act) = tm N (fun t => a.getD t undef) := by
  subst h
  unfold tm
  congr 1
  apply Array.ext (by simp)
  intro i h1 h2
  simp [Array.getD, h1]

theorem tm_getI {N t : Nat} (h : t < N) (f : Nat → Value) : (tm N f).tmps[t]?.getD undef = f t := by simp [tm, h]
section
variable {F : Fence} {n : Nat} {P : Program} {ops : Array Oper} {Q : Exit → Act → World → Prop}
/-- whatever order is picked, an invariant that each operation keeps holds at the end -/
theorem wpAnyIn_inv {md : Region.Mode} (I : Nat → Array Bool → Act → World → Prop)
    (hstep : ∀ k listed a w, k < ops.size → I k listed a w → ∀ i ∈ Region.ready md ops listed, wpOpIn F n P ops Q i (I (k + 1) (listed.setIfInBounds i true)) a w)
    (hend : ∀ k listed a w, k ≤ ops.size → I k listed a w → Region.ready md ops listed = [] → Q .normal a w) :
    ∀ (fuel k : Nat) (listed : Array Bool) (a : Act) (w : World), fuel + k = ops.size → listed.toList.count false ≤ fuel → I k listed a w → wpAnyIn F n P md ops Q fuel listed a w := by
  intro fuel
  induction fuel with
  | zero =>
    intro k listed a w hk hc hI
    have hr : Region.ready md ops listed = [] := by
      cases h : Region.ready md ops listed with
      | nil => rfl
      | cons x xs =>
        have := ready_pos (md := md) (ops := ops) (listed := listed) (i := x) (by rw [h]; simp)
        omega
    exact ⟨hr, hend k listed a w (by omega) hI hr⟩
  | succ fuel ih =>
    intro k listed a w hk hc hI
    refine ⟨hend k listed a w (by omega) hI, fun i hi => ?_⟩
    refine wpOpIn_mono (fun a' w' h => ih (k + 1) _ a' w' (by omega) ?_ h) (hstep k listed a w (by omega) hI i hi)
    have := count_listed (mem_ready.1 hi).1
    omega
theorem region_slots_in {id : Nat} (N : Nat) (f0 : Nat → Value) (G : Nat → (Nat → Bool) → (Nat → Value) → World → Prop) (C : Nat → Value → World → Prop) (R : World → World → Prop) {w : World}
    (hm : P.follows .mixedOrders = true) (hok : slotsOk ops = true) (h0 : G 0 (fun _ => false) f0 w.drew)
    (hkeep : ∀ i v w w', R w w' → C i v w → C i v w')
    (hstep : ∀ i o, ops[i]? = some o → ∀ k d f w, k < ops.size → d i = false → (∀ i j, d i = true → waitsFor ops i j = true → d j = true) → (∀ j, waitsFor ops i j = true → d j = true) → G k d f w → (∀ t, (∀ j, dstOf ops j = some t → d j = false) → f t = f0 t) → (∀ j, waitsFor ops i j = true → C j (slotV ops f j) w) →
      wpOpIn F n P ops Q i (fun a' w' => ∃ v, a' = (tm N f).put o.dst v ∧ R w w' ∧ G (k + 1) (mark d i) (upd f o.dst v) w' ∧ C i (match o.dst with | some _ => v | none => undef) w') (tm N f) w)
    (hend : ∀ k d f w, k ≤ ops.size → (∀ j, j < ops.size → d j = true) → G k d f w → (∀ t, (∀ j, dstOf ops j = some t → d j = false) → f t = f0 t) → (∀ j, j < ops.size → C j (slotV ops f j) w) → Q .normal (tm N f) w) :
    (Code.region id ops true).wpIn F n P Q (tm N f0) w := by
  refine wpIn_region_any hm ?_
  refine wpAnyIn_inv (fun k listed a w => listed.size = ops.size ∧ ∃ f, a = tm N f ∧ G k (fun j => listed.getD j false) f w ∧ (∀ i j, listed.getD i false = true → waitsFor ops i j = true → listed.getD j false = true) ∧ (∀ t, (∀ j, dstOf ops j = some t → listed.getD j false = false) → f t = f0 t) ∧ ∀ j, listed.getD j false = true → C j (slotV ops f j) w) ?_ ?_ ops.size 0 _ _ _ (by omega) ?_ ?_
  · rintro k listed a w hk ⟨hs, f, rfl, hG, hcl, hf, hC⟩ i hi
    obtain ⟨hun, o, ho, hdep⟩ := mem_ready.1 hi
    have hi' : i < ops.size := (Array.getElem?_eq_some_iff.1 ho).1
    have hun' : listed.getD i false = false := by simpa [Array.getD, hs, hi'] using hun
    have hw : ∀ j, waitsFor ops i j = true → listed.getD j false = true := fun j hj => by
      unfold waitsFor at hj
      rw [ho] at hj
      obtain ⟨e, he, hb⟩ := Array.any_eq_true'.1 hj
      simp only [Bool.and_eq_true, beq_iff_eq] at hb
      rw [← hb.2]
      exact hdep e he hb.1
    refine wpOpIn_mono ?_ (hstep i o ho k _ f w hk hun' hcl hw hG hf fun j hj => hC j (hw j hj))
    · rintro a' w' ⟨v, rfl, hR, hG', hCi⟩
      have hmk : mark (fun j => listed.getD j false) i = fun j => (listed.setIfInBounds i true).getD j false := by
        funext j
        unfold mark
        by_cases e : j = i
        · subst e; rw [if_pos rfl]; simp [Array.getD, hs, hi']
        · rw [if_neg e, getD_set_ne false (Ne.symm e)]
      rw [hmk] at hG'
      refine ⟨by simpa using hs, upd f o.dst v, tm_put N f o.dst v, hG', fun i' j' h1 h2 => ?_, fun t ht => ?_, fun j hj => ?_⟩
      · refine getD_set_true ?_
        by_cases e : i' = i
        · subst e
          unfold waitsFor at h2
          rw [ho] at h2
          obtain ⟨e, he, hb⟩ := Array.any_eq_true'.1 h2
          simp only [Bool.and_eq_true, beq_iff_eq] at hb
          rw [← hb.2]
          exact hdep e he hb.1
        · rw [getD_set_ne false (Ne.symm e)] at h1
          exact hcl i' j' h1 h2
      · have hti : o.dst ≠ some t := fun e => by
          have h1 := ht i (by simp [dstOf, ho, e])
          rw [show (listed.setIfInBounds i true).getD i false = true by simp [Array.getD, hs, hi']] at h1
          cases h1
        refine (upd_other f v hti).trans (hf t fun j hj => ?_)
        have h1 := ht j hj
        by_cases e : j = i
        · subst e; exact hun'
        · rwa [getD_set_ne false (Ne.symm e)] at h1
      · by_cases e : j = i
        · subst e
          have : slotV ops (upd f o.dst v) j = (match o.dst with | some _ => v | none => undef) := by
            unfold slotV dstOf
            rw [ho]
            simp only [Option.bind_some]
            cases hd : o.dst with
            | none => rfl
            | some t => exact upd_same f t v
          rw [this]
          exact hCi
        · rw [getD_set_ne false (Ne.symm e)] at hj
          have hj' : j < ops.size := by
            rcases Nat.lt_or_ge j listed.size with h | h
            · omega
            · simp [Array.getD, Nat.not_lt.2 h] at hj
          have : slotV ops (upd f o.dst v) j = slotV ops f j := by
            unfold slotV
            cases hd : dstOf ops j with
            | none => rfl
            | some t =>
              refine upd_other f v fun e' => ?_
              exact slotsOk_apart hok hj' hi' e hd (by simp [dstOf, ho, e'])
          rw [this]
          exact hkeep j _ w w' hR (hC j hj)
  · rintro k listed a w hk ⟨hs, f, rfl, hG, _, hf, hC⟩ hr
    have hall := ready_none hok hs hr
    exact hend k _ f w hk hall hG hf fun j hj => hC j (hall j hj)
  · simp
  · have hrep : ∀ j, (Array.replicate ops.size false).getD j false = false := fun j => by
      rcases Nat.lt_or_ge j ops.size with h | h
      · simp [Array.getD, h]
      · simp [Array.getD, Nat.not_lt.2 h]
    refine ⟨by simp, f0, rfl, ?_, (fun i j hi _ => by rw [hrep i] at hi; cases hi), fun _ _ => rfl, fun j hj => ?_⟩
    · rw [show (fun j => (Array.replicate ops.size false).getD j false) = fun _ => false from funext hrep]
      exact h0
    · rw [hrep j] at hj
      cases hj


end
section
variable {l n : Nat} {P : Program} {ops : Array Oper} {Q : Exit → Act → World → Prop}
/-- in a round behind the wide fence an operation that is no defer statement is carried out as everywhere -/
theorem oper_wi {o : Oper} {a : Act} {w : World} {K : Act → World → Prop} (hd : ∀ c, o.op ≠ .defer c) (h : o.wp P a w K Q) : o.wpIn (Fence.wide.inRound l) n P a w K Q := by
  refine ⟨fun _ _ => trivial, ?_⟩
  rw [Oper.semAt_plain _ _ _ hd]
  unfold Oper.wp at h
  generalize (execOp a.eval o).run P w = r at *
  cases r with
  | ok x w' =>
    cases x <;> simp only [Oper.upon] at h <;> simp only [Oper.uponIn]
    case value => exact h
    case skip => exact h
    case defer => exact h
    case enter f args => exact ⟨fun h0 => (by cases h0), CallsIn.inRound l (callsIn_wide.2 h)⟩
    case row row args =>
      refine ⟨fun h0 => (by cases h0), fun c cs _ => ?_⟩
      obtain ⟨v, w2, r, s⟩ := h c cs
      exact ⟨v, w2, r, stepsIn_wide.2 s⟩
  | halt x w' => cases x <;> simp only [Oper.upon] at h <;> simp only [Oper.uponIn] <;> exact h
theorem op_wi {i : Nat} {o : Oper} {a : Act} {w : World} {K : Act → World → Prop} (hi : ops[i]? = some o) (hg : o.guard = none) (hd : ∀ c, o.op ≠ .defer c)
    (h : ∀ K' : Act → World → Prop, (∀ a w, K a w → K' a w) → o.wp P a w K' Q) : wpOpIn (Fence.wide.inRound l) n P ops Q i K a w := by
  unfold wpOpIn
  rw [hi]
  simp only [Region.wanted, hg, if_true]
  exact oper_wi hd (h K fun _ _ h => h)
/-- a whole row stored in a round -/
theorem wpListIn_store_row {rest : List Oper} {o : Oper} {a : Act} {w : World} (hgd : o.guard = none) (ty : TypeId) (x y : Operand) (ho : o.op = .store ty x y)
    (g : Nat) (cells : Array Value) (hx : a.eval x = .pointer (some ⟨g, 0, none⟩)) (hy : a.eval y = .agg cells)
    (t : TypeId) (old : Array Value) (hg : w.heap[g]? = some (.cells old t (0, 0))) (hi : (P.info? ty).map (·.size) = some cells.size)
    (hold : old.size = cells.size) (h1 : cells.all (·.oneCell') = true)
    (h : wpListIn (Fence.wide.inRound l) n P ops Q rest (a.put o.dst undef) (w.setRow g cells)) : wpListIn (Fence.wide.inRound l) n P ops Q (o :: rest) a w :=
  wpListIn_plain hgd fun _ hK => oper_wi (by rw [ho]; intro c e; cases e) (wp_store_row ty x y ho g cells hx hy t old hg hi hold h1 (hK _ _ h))
end
end Go.Proofs.YtgebjnoicgmdoaaGreatDoor
