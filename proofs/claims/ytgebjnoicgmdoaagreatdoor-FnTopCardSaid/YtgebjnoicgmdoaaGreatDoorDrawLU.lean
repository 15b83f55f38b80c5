/- What chapter 4's laws draw: two levels; a level with an idle parameter. -/
/- Chapter 4's draws: two levels, from bytes; the rest of the bytes. -/
/- Chapter 6's draws: a list of constraints and two levels; chapter 4's draw of two levels for Counter. -/
import Derived.Test.YtgebjnoicgmdoaaGreatDoorCur4
import Derived.Test.YtgebjnoicgmdoaaGreatDoorNMath
import Derived.Test.YtgebjnoicgmdoaaGreatDoorCons

namespace Go.Proofs.YtgebjnoicgmdoaaGreatDoor
open Go.RowKit

theorem joinR_len25 (x : Int) (a b : List (Int × Int)) : ((joinR x a b).getD []).length ≤ 25 := by
  cases h : joinR x a b with
  | none => simp
  | some l => have := (joinR_some h).2.1; simp; omega
theorem succR_len25 (l : List (Int × Int)) (n : Int) : ((succR l n).getD []).length ≤ 25 := by
  unfold succR
  split
  · rename_i h
    simp [sxs]; omega
  · simp
/-- two rows of tokens of the call's own -/
def Two (base : Nat) (e : Ending) (w' : World) : Prop :=
  ∃ A1 n1 c1 l1 A2 n2 c2 l2, e = .returned (.tuple #[.slice A1 n1 c1, .slice A2 n2 c2]) ∧ n1 ≤ 25 ∧ n2 ≤ 25 ∧ OwnT w' base A1 n1 c1 l1 ∧ OwnT w' base A2 n2 c2 l2

set_option maxRecDepth 100000 in
set_option maxHeartbeats 4000000 in
theorem twoLevels_any (w : World) (bc : Nat) (A : Option Addr) (n c K : Nat) (hc : Cur w bc A n c K) (hK : K ≤ 600000) (hn : n ≤ 1048576) :
    Calls Tryz.prog 50 #[.pointer (some ⟨bc, 0, none⟩)] w fun e w' => Two w.heap.size e w' ∧ Kp bc w w' := by
  have hlt := hc.lt
  have hcost : cost 3 = 88 := rfl
  go_enter Tryz.func50, Tryz.ntmps50
  go_wp2_with fail
  refine (badLevel_any w bc A n c K hc (by omega) hn).mono ?_
  rintro e w1 ⟨g1, cap1, l1, rfl, h11, h12, ho1, hc1, hk1⟩
  have hs1 := hk1.size
  have hlv := level_any bc A n c hn 3 w1 (K + 200) (by omega) hc1 (by omega)
  obtain ⟨n1, hn1⟩ : ∃ n1, l1.length = n1 := ⟨_, rfl⟩
  rw [hn1] at h11 h12 ho1 ⊢
  have HO1 := Lib.hid ho1
  clear hn1 ho1
  go_wp2_with fail
  refine hlv.mono ?_
  rintro e w2 ⟨g2, cap2, l2, rfl, h21, h22, ho2, hc2, hk2⟩
  obtain ⟨n2, hn2⟩ : ∃ n2, l2.length = n2 := ⟨_, rfl⟩
  rw [hn2] at h21 h22 ho2 ⊢
  have hs2 := hk2.size
  have HO12 := Lib.hid (Kp.own HO1.out hk2 hlt)
  have HO2 := Lib.hid (own_base ho2 hs1)
  have hk02 := hk1.trans hk2
  clear hn2 ho2 hlv HO1 hk1 hk2
  go_wp2_with fail
  refine (pick_any w2 bc A n c _ 5 hc2 (by omega) (by omega) hn).mono ?_
  rintro e w3 ⟨r, rfl, hr, hc3, hk3⟩
  have hs3 := hk3.size
  have hk03 := hk02.trans hk3
  have HO13 := Lib.hid (Kp.own HO12.out hk3 hlt)
  have HO23 := Lib.hid (Kp.own HO2.out hk3 hlt)
  clear hk02 hk3 HO12 HO2
  have fin : ∀ w', Hid (Kp bc w3 w') → Hid (OwnT w' w.heap.size (some ⟨g1, 0, none⟩) n1 cap1 l1) → Hid (OwnT w' w.heap.size (some ⟨g2, 0, none⟩) n2 cap2 l2) → Hid (Two w.heap.size (.returned (.tuple #[.slice (some ⟨g1, 0, none⟩) n1 cap1, .slice (some ⟨g2, 0, none⟩) n2 cap2])) w' ∧ Kp bc w w') :=
    fun w' h1 h2 h3 => ⟨⟨_, _, _, _, _, _, _, _, rfl, by omega, by omega, h2.out, h3.out⟩, hk03.trans h1.out⟩
  by_cases e0 : r = 0
  · subst e0
    go_wp2_with fail
    refine (specJoin_any w3 w3.heap.size _ _ n1 cap1 l1 _ n2 cap2 l2 (Nat.le_refl _) (OwnT.reads HO13.out) (by omega) (OwnT.reads HO23.out) (by omega)).mono ?_
    rintro e w4 ⟨A4, c4, rfl, ho4, hb4⟩
    have HK4 : Hid (Kp bc w3 w4) := Kp.of_below hb4
    have HO14 := Lib.hid (own_below' HO13.out hb4)
    have HO24 := Lib.hid (own_below' HO23.out hb4)
    have HF := fin w4 HK4 HO14 HO24
    have hq := joinR_len25 2 l1 l2
    obtain ⟨Q, hQ⟩ : ∃ Q, joinR 2 l1 l2 = Q := ⟨_, rfl⟩
    rw [hQ] at ho4 hq ⊢
    have HO4 := Lib.hid (own_base (base' := w.heap.size) ho4 (by omega))
    have HKE := Lib.hid (hk03.trans HK4.out)
    clear ho4 hb4 fin hQ
    cases Q with
    | none =>
      simp only [Option.getD_none, Option.isSome_none, List.length_nil]
      go_wp2
      go_ret2
      exact HF.out
    | some q =>
      simp only [Option.getD_some, Option.isSome_some] at HO4 hq ⊢
      obtain ⟨nq, hnq⟩ : ∃ nq, q.length = nq := ⟨_, rfl⟩
      rw [hnq] at HO4 hq ⊢
      clear hnq
      go_wp2
      go_ret2
      exact ⟨⟨_, _, _, _, _, _, _, _, rfl, by omega, by omega, HO14.out, HO4.out⟩, HKE.out⟩
  · by_cases e1 : r = 1
    · subst e1
      go_wp2_with fail
      refine (pick_any w3 bc A n c _ 3 hc3 (by omega) (by omega) hn).mono ?_
      rintro e w4 ⟨r2, rfl, hr2, hc4, hk4⟩
      have HO14 := Lib.hid (Kp.own HO13.out hk4 hlt)
      have HO24 := Lib.hid (Kp.own HO23.out hk4 hlt)
      have hs4 := hk4.size
      clear HO13 HO23
      go_wp2_with fail
      refine (specSucc_any w4 w4.heap.size _ n1 cap1 l1 r2 (Nat.le_refl _) (OwnT.reads HO14.out) (by omega)).mono ?_
      rintro e w5 ⟨A5, c5, rfl, ho5, hb5⟩
      have HK5 : Hid (Kp bc w3 w5) := hk4.trans (Kp.of_below hb5)
      have HO15 := Lib.hid (own_below' HO14.out hb5)
      have HO25 := Lib.hid (own_below' HO24.out hb5)
      have HF := fin w5 HK5 HO15 HO25
      have hq := succR_len25 l1 r2
      obtain ⟨Q, hQ⟩ : ∃ Q, succR l1 r2 = Q := ⟨_, rfl⟩
      rw [hQ] at ho5 hq ⊢
      have HO5 := Lib.hid (own_base (base' := w.heap.size) ho5 (by omega))
      have HKE := Lib.hid (hk03.trans HK5.out)
      clear ho5 hb5 fin hQ
      cases Q with
      | none =>
        simp only [Option.getD_none, Option.isSome_none, List.length_nil]
        go_wp2
        go_ret2
        exact HF.out
      | some q =>
        simp only [Option.getD_some, Option.isSome_some] at HO5 hq ⊢
        obtain ⟨nq, hnq⟩ : ∃ nq, q.length = nq := ⟨_, rfl⟩
        rw [hnq] at HO5 hq ⊢
        clear hnq
        go_wp2
        go_ret2
        exact ⟨⟨_, _, _, _, _, _, _, _, rfl, by omega, by omega, HO15.out, HO5.out⟩, HKE.out⟩
    · by_cases e2 : r = 2
      · subst e2
        go_wp2_with fail
        refine (specJoin_any w3 w3.heap.size _ _ n1 cap1 l1 _ n2 cap2 l2 (Nat.le_refl _) (OwnT.reads HO13.out) (by omega) (OwnT.reads HO23.out) (by omega)).mono ?_
        rintro e w4 ⟨A4, c4, rfl, ho4, hb4⟩
        have HK4 : Hid (Kp bc w3 w4) := Kp.of_below hb4
        have HO14 := Lib.hid (own_below' HO13.out hb4)
        have HO24 := Lib.hid (own_below' HO23.out hb4)
        have hq := joinR_len25 3 l1 l2
        obtain ⟨Q, hQ⟩ : ∃ Q, joinR 3 l1 l2 = Q := ⟨_, rfl⟩
        rw [hQ] at ho4 hq ⊢
        have hs4 := hb4.size
        clear hb4 hQ
        go_wp2_with fail
        refine (specJoin_any w4 w4.heap.size _ _ n2 cap2 l2 _ n1 cap1 l1 (Nat.le_refl _) (OwnT.reads HO24.out) (by omega) (OwnT.reads HO14.out) (by omega)).mono ?_
        rintro e w5 ⟨A5, c5, rfl, ho5, hb5⟩
        have HK5 : Hid (Kp bc w3 w5) := HK4.out.trans (Kp.of_below hb5)
        have HF := fin w5 HK5 (Lib.hid (own_below' HO14.out hb5)) (Lib.hid (own_below' HO24.out hb5))
        have HO4 := Lib.hid (own_below' (own_base (base' := w.heap.size) ho4 (by omega)) hb5)
        have hp := joinR_len25 2 l2 l1
        obtain ⟨P, hP⟩ : ∃ P, joinR 2 l2 l1 = P := ⟨_, rfl⟩
        rw [hP] at ho5 hp ⊢
        have HO5 := Lib.hid (own_base (base' := w.heap.size) ho5 (by omega))
        have HKE := Lib.hid (hk03.trans HK5.out)
        clear ho4 ho5 hb5 fin hP
        obtain ⟨nq, hnq⟩ : ∃ nq, (Q.getD []).length = nq := ⟨_, rfl⟩
        rw [hnq] at HO4 hq ⊢
        obtain ⟨np, hnp⟩ : ∃ np, (P.getD []).length = np := ⟨_, rfl⟩
        rw [hnp] at HO5 hp ⊢
        generalize Q.isSome = bq
        generalize P.isSome = bp
        clear hnq hnp
        cases bq with
        | false =>
          go_wp2
          go_ret2
          exact HF.out
        | true =>
          cases bp with
          | false =>
            go_wp2
            go_ret2
            exact HF.out
          | true =>
            go_wp2
            go_ret2
            exact ⟨⟨_, _, _, _, _, _, _, _, rfl, by omega, by omega, HO4.out, HO5.out⟩, HKE.out⟩
      · have HF := fin w3 (Kp.refl _ _) HO13 HO23
        have d0 : ((r : Int) == 0) = false := by simp; omega
        have d1 : ((r : Int) == 1) = false := by simp; omega
        have d2 : ((r : Int) == 2) = false := by simp; omega
        clear fin e0 e1 e2
        go_wp2
        go_ret2
        exact HF.out
end Go.Proofs.YtgebjnoicgmdoaaGreatDoor

namespace Go.Proofs.YtgebjnoicgmdoaaGreatDoor
open Go.RowKit

set_option maxRecDepth 100000 in
set_option maxHeartbeats 1600000 in
theorem rest5_any (w : World) (B : Nat) (A : Option Addr) (n c : Nat) (hb : BytR w B A n) (hn : n ≤ 1048576) (hc : n ≤ c) :
    Calls Tryz.prog 23 #[.slice A n c] w fun e w' => ∃ A' n' c', e = .returned (.slice A' n' c') ∧ BytR w B A' n' ∧ n' ≤ 1048576 ∧ w = w' := by
  by_cases h0 : n = 0
  · subst h0
    by_cases hcz : c = 0
    · subst hcz
      go_enter Tryz.func23, Tryz.ntmps23
      go_wp2
      go_ret
      exact ⟨_, _, _, rfl, (fun h => absurd h (by omega)), by omega, rfl⟩
    · have hcz' : ¬ ((c : Int) = 0) := by omega
      go_enter Tryz.func23, Tryz.ntmps23
      go_wp2
      go_ret
      exact ⟨_, _, _, rfl, (fun h => absurd h (by omega)), by omega, rfl⟩
  · obtain ⟨b, off, rfl, hbB, hcs⟩ := hb (by omega)
    have hcast : (n : Int) / 2 = ((n / 2 : Nat) : Int) := by omega
    obtain ⟨q, hq⟩ : ∃ q, n / 2 = q := ⟨_, rfl⟩
    rw [hq] at hcast
    have hqn : q < n := by omega
    have n1 : (q : Int) ≤ (n : Int) := by omega
    have n2 : (n : Int) ≤ (c : Int) := by omega
    have n3 : ¬ (c = q) := by omega
    have HB : Hid (BytR w B (some ⟨b, off + q, none⟩) (n - q)) := fun _ => ⟨b, off + q, rfl, hbB, fun k hk => by
      obtain ⟨x, hx, y⟩ := hcs (q + k) (by omega)
      exact ⟨x, hx, by rw [Nat.add_assoc]; exact y⟩⟩
    clear hcs hq
    go_enter Tryz.func23, Tryz.ntmps23
    go_wp2
    go_ret
    exact ⟨some ⟨b, off + q, none⟩, n - q, c - q, by first | rfl | (congr 2 <;> omega), HB.out, by omega, rfl⟩

end Go.Proofs.YtgebjnoicgmdoaaGreatDoor

namespace Go.Proofs.YtgebjnoicgmdoaaGreatDoor
open Go.RowKit
open Cs (Cn)

/-- a row of constraints and two rows of tokens of the call's own -/
def LTwo (base : Nat) (e : Ending) (w' : World) : Prop :=
  ∃ (g cap m : Nat) (l : List Cn) (A1 : Option Addr) (n1 c1 : Nat) (l1 : List (Int × Int)) (A2 : Option Addr) (n2 c2 : Nat) (l2 : List (Int × Int)), e = .returned (.tuple #[.slice (some ⟨g, 0, none⟩) m cap, .slice A1 n1 c1, .slice A2 n2 c2]) ∧ m ≤ 40 ∧ n1 ≤ 25 ∧ n2 ≤ 25 ∧
    OwnC w' base (some ⟨g, 0, none⟩) m cap l ∧ OwnT w' base A1 n1 c1 l1 ∧ OwnT w' base A2 n2 c2 l2

set_option maxRecDepth 100000 in
set_option maxHeartbeats 1600000 in
theorem drawLeUnder_any (w : World) (B : Nat) (A : Option Addr) (n c : Nat) (hB : B ≤ w.heap.size) (hb : BytR w B A n) (hn : n ≤ 1048576) :
    Calls Tryz.prog 10 #[.slice A n c] w fun e w' => LTwo w.heap.size e w' ∧ Below w.heap.size w w' := by
  go_enter Tryz.func10, Tryz.ntmps10
  go_wp2_with fail
  refine (open_any w B A n c hB hb hn).mono ?_
  rintro e w1 ⟨rfl, hb1, hc1⟩
  have hs1 := hb1.size
  have hlt := hc1.lt
  go_wp2_with fail
  refine (cons_any w1 w.heap.size A n c 0 hc1 (by omega) hn).mono ?_
  rintro e w2 ⟨g, cap, m, rfl, hm, ⟨l, ho2⟩, hc2, hk2⟩
  have hs2 := hk2.size
  go_wp2_with fail
  refine (twoLevels_any w2 w.heap.size A n c _ hc2 (by omega) hn).mono ?_
  rintro e w3 ⟨⟨A1, n1, c1, l1, A2, n2, c2, l2, rfl, h1, h2, ho3, ho4⟩, hk3⟩
  have HB3 := Lib.hid (Kp.below hb1 (hk2.trans hk3) (Nat.le_refl _) hs1)
  have HO2 := Lib.hid (own_base (base' := w.heap.size) (Kp.own ho2 hk3 (by omega)) (by omega))
  have HO3 := Lib.hid (own_base (base' := w.heap.size) ho3 (by omega))
  have HO4 := Lib.hid (own_base (base' := w.heap.size) ho4 (by omega))
  clear ho2 ho3 ho4 hk2 hk3 hb1 hc1 hc2
  go_wp2
  refine bodyPost_ret (v := .tuple #[.slice (some ⟨g, 0, none⟩) m cap, .slice A1 n1 c1, .slice A2 n2 c2]) ?_ rfl ⟨⟨g, cap, m, l, A1, n1, c1, l1, A2, n2, c2, l2, rfl, hm, h1, h2, HO2.out, HO3.out, HO4.out⟩, HB3.out⟩
  simp [results, Tryz.results10, go_sem]

set_option maxRecDepth 100000 in
set_option maxHeartbeats 1600000 in
theorem drawWitness_any (w : World) (B : Nat) (A : Option Addr) (n c : Nat) (hB : B ≤ w.heap.size) (hb : BytR w B A n) (hn : n ≤ 1048576) :
    Calls Tryz.prog 31 #[.slice A n c] w fun e w' => LTwo w.heap.size e w' ∧ Below w.heap.size w w' := by
  go_enter Tryz.func31, Tryz.ntmps31
  go_wp2_with fail
  refine (open_any w B A n c hB hb hn).mono ?_
  rintro e w1 ⟨rfl, hb1, hc1⟩
  have hs1 := hb1.size
  have hlt := hc1.lt
  go_wp2_with fail
  refine (cons_any w1 w.heap.size A n c 0 hc1 (by omega) hn).mono ?_
  rintro e w2 ⟨g, cap, m, rfl, hm, ⟨l, ho2⟩, hc2, hk2⟩
  have hs2 := hk2.size
  go_wp2_with fail
  refine (twoLevels_any w2 w.heap.size A n c _ hc2 (by omega) hn).mono ?_
  rintro e w3 ⟨⟨A1, n1, c1, l1, A2, n2, c2, l2, rfl, h1, h2, ho3, ho4⟩, hk3⟩
  have HB3 := Lib.hid (Kp.below hb1 (hk2.trans hk3) (Nat.le_refl _) hs1)
  have HO2 := Lib.hid (own_base (base' := w.heap.size) (Kp.own ho2 hk3 (by omega)) (by omega))
  have HO3 := Lib.hid (own_base (base' := w.heap.size) ho3 (by omega))
  have HO4 := Lib.hid (own_base (base' := w.heap.size) ho4 (by omega))
  clear ho2 ho3 ho4 hk2 hk3 hb1 hc1 hc2
  go_wp2
  refine bodyPost_ret (v := .tuple #[.slice (some ⟨g, 0, none⟩) m cap, .slice A1 n1 c1, .slice A2 n2 c2]) ?_ rfl ⟨⟨g, cap, m, l, A1, n1, c1, l1, A2, n2, c2, l2, rfl, hm, h1, h2, HO2.out, HO3.out, HO4.out⟩, HB3.out⟩
  simp [results, Tryz.results31, go_sem]

end Go.Proofs.YtgebjnoicgmdoaaGreatDoor
