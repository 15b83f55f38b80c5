/- The law FnExactConsHold: the walk. -/
import Derived.Test.YtboogdkkcepifaaHold2
import Derived.Test.YtboogdkkcepifaaLawC
namespace Go.Proofs.Ytboogdkkcepifaa
open Go.RowKit
open Cs (Cn)

set_option maxRecDepth 100000 in
set_option maxHeartbeats 4000000 in
theorem consHoldLaw_any (w : World) (B : Nat) (A : Option Addr) (n c : Nat) (l : List Cn) (A1 : Option Addr) (n1 c1 : Nat) (env : List Int) (hB : B ≤ w.heap.size) (hl : ConR w B A n l) (hn : (n : Int) ≤ 9223372036854775807) (hl1 : IntR w B A1 n1 env) (hn1 : (n1 : Int) ≤ 9223372036854775807) :
    Calls Try.prog 9 #[.slice A n c, .slice A1 n1 c1] w fun e w' => e = .returned (.bool true) ∧ Below w.heap.size w w' := by
  by_cases hbig1 : (1048576 : Int) < n1
  · go_enter Try.func9, Try.ntmps9
    go_wp2
    go_ret
    exact ⟨rfl, Below.refl _ _⟩
  · skip
    by_cases hbig : (1048576 : Int) < n
    · go_enter Try.func9, Try.ntmps9
      go_wp2_with fail
      refine (szConS_any A n c 1048576 w (by omega) (by omega) hn).mono ?_
      rintro e w' ⟨rfl, rfl⟩
      rw [if_pos hbig]
      go_wp2
      go_ret
      exact ⟨rfl, Below.refl _ _⟩
    · have hn' : n ≤ 1048576 := by omega
      have hm1 : n1 ≤ 1048576 := by omega
      go_enter Try.func9, Try.ntmps9
      go_wp2_with fail
      refine (szConS_any A n c 1048576 w (by omega) (by omega) hn).mono ?_
      rintro e w' ⟨rfl, rfl⟩
      rw [if_neg (by omega)]
      have hs : ¬ (1048576 - (n : Int) < 0) := by omega
      have hB0 : Below w.heap.size w w := Below.refl _ _
      go_wp2_with fail
      refine (toConS_any w B A n c l (Nat.le_trans hB hB0.size) (hl.below (hB0.mono hB)) hn').mono ?_
      rintro e w1 ⟨rfl, hb1, p1⟩
      have zp : w.heap.size + 1 ≤ w1.heap.size := p1.lt
      have hB1 : Below w.heap.size w w1 := hB0.trans (hb1.mono hB0.size)
      have s1 := hb1.size
      clear hb1
      go_wp2_with fail
      refine (toIntS_any w1 B A1 n1 c1 env (Nat.le_trans hB hB1.size) (hl1.below (hB1.mono hB)) hm1).mono ?_
      rintro e w2 ⟨rfl, hb2, pi2⟩
      have zpi : w1.heap.size + 1 ≤ w2.heap.size := by obtain ⟨_, cs, hblk, _⟩ := pi2; exact hblk.lt
      have hB2 : Below w.heap.size w w2 := hB1.trans (hb2.mono hB1.size)
      have s2 := hb2.size
      have p2 := p1.below hb2 (by omega)
      clear p1
      clear hb2
      go_wp2_with fail
      refine (specConsHold_any w2 w2.heap.size (some ⟨w.heap.size, 0, none⟩) n n l (some ⟨w1.heap.size, 0, none⟩) n1 n1 env (Nat.le_refl _) (p2.reads.more (by omega)) (by omega) (pi2.reads.more (by omega)) (by omega)).mono ?_
      rintro e w3 ⟨rfl, hb3⟩
      have hB3 : Below w.heap.size w w3 := hB2.trans (hb3.mono hB2.size)
      have s3 := hb3.size
      have p3 := p2.below hb3 (by omega)
      clear p2
      have pi3 := pi2.below hb3 (by omega)
      clear pi2
      clear hb3
      clear p3
      clear pi3
      go_wp2_with fail
      refine (toConS_any w3 B A n c l (Nat.le_trans hB hB3.size) (hl.below (hB3.mono hB)) hn').mono ?_
      rintro e w4 ⟨rfl, hb4, x4⟩
      have zx : w3.heap.size + 1 ≤ w4.heap.size := x4.lt
      have hB4 : Below w.heap.size w w4 := hB3.trans (hb4.mono hB3.size)
      have s4 := hb4.size
      clear hb4
      go_wp2_with fail
      refine (toIntS_any w4 B A1 n1 c1 env (Nat.le_trans hB hB4.size) (hl1.below (hB4.mono hB)) hm1).mono ?_
      rintro e w5 ⟨rfl, hb5, xi5⟩
      have zxi : w4.heap.size + 1 ≤ w5.heap.size := by obtain ⟨_, cs, hblk, _⟩ := xi5; exact hblk.lt
      have hB5 : Below w.heap.size w w5 := hB4.trans (hb5.mono hB4.size)
      have s5 := hb5.size
      have x5 := x4.below hb5 (by omega)
      clear x4
      clear hb5
      go_wp2_with fail
      refine (implConsHold_any w5 w5.heap.size (some ⟨w3.heap.size, 0, none⟩) n n l (some ⟨w4.heap.size, 0, none⟩) n1 n1 env (Nat.le_refl _) (x5.reads.more (by omega)) (by omega) (xi5.reads.more (by omega)) (by omega)).mono ?_
      rintro e w6 ⟨rfl, hb6⟩
      have hB6 : Below w.heap.size w w6 := hB5.trans (hb6.mono hB5.size)
      have s6 := hb6.size
      have x6 := x5.below hb6 (by omega)
      clear x5
      have xi6 := xi5.below hb6 (by omega)
      clear xi5
      clear hb6
      have hbb : ((consHoldR l env) != (consHoldR l env)) = false := by simp
      go_wp2_with fail
      refine (toConS_any w6 B A n c l (Nat.le_trans hB hB6.size) (hl.below (hB6.mono hB)) hn').mono ?_
      rintro e w7 ⟨rfl, hb7, yx7⟩
      have zyx : w6.heap.size + 1 ≤ w7.heap.size := yx7.lt
      have hB7 : Below w.heap.size w w7 := hB6.trans (hb7.mono hB6.size)
      have s7 := hb7.size
      have x7 := x6.below hb7 (by omega)
      clear x6
      have xi7 := xi6.below hb7 (by omega)
      clear xi6
      clear hb7
      go_wp2_with fail
      refine (eqConS_any w7 w7.heap.size (some ⟨w3.heap.size, 0, none⟩) (some ⟨w6.heap.size, 0, none⟩) n n n n l l (Nat.le_refl _) (x7.reads.more (by omega)) (yx7.reads.more (by omega)) (by omega) (by omega)).mono ?_
      rintro e w8 ⟨rfl, hb8⟩
      have hB8 : Below w.heap.size w w8 := hB7.trans (hb8.mono hB7.size)
      have s8 := hb8.size
      have x8 := x7.below hb8 (by omega)
      clear x7
      have xi8 := xi7.below hb8 (by omega)
      clear xi7
      have yx8 := yx7.below hb8 (by omega)
      clear yx7
      clear hb8
      rw [decide_eq_true rfl]
      clear yx8
      go_wp2_with fail
      refine (toIntS_any w8 B A1 n1 c1 env (Nat.le_trans hB hB8.size) (hl1.below (hB8.mono hB)) hm1).mono ?_
      rintro e w9 ⟨rfl, hb9, yxi9⟩
      have zyxi : w8.heap.size + 1 ≤ w9.heap.size := by obtain ⟨_, cs, hblk, _⟩ := yxi9; exact hblk.lt
      have hB9 : Below w.heap.size w w9 := hB8.trans (hb9.mono hB8.size)
      have s9 := hb9.size
      have x9 := x8.below hb9 (by omega)
      clear x8
      have xi9 := xi8.below hb9 (by omega)
      clear xi8
      clear hb9
      go_wp2_with fail
      refine (eqIntS_any w9 w9.heap.size (some ⟨w4.heap.size, 0, none⟩) (some ⟨w8.heap.size, 0, none⟩) n1 n1 n1 n1 env env (Nat.le_refl _) (xi9.reads.more (by omega)) (yxi9.reads.more (by omega)) (by omega) (by omega)).mono ?_
      rintro e w10 ⟨rfl, hb10⟩
      have hB10 : Below w.heap.size w w10 := hB9.trans (hb10.mono hB9.size)
      have s10 := hb10.size
      have x10 := x9.below hb10 (by omega)
      clear x9
      have xi10 := xi9.below hb10 (by omega)
      clear xi9
      have yxi10 := yxi9.below hb10 (by omega)
      clear yxi9
      clear hb10
      rw [decide_eq_true rfl]
      clear yxi10
      go_wp2
      go_ret
      exact ⟨rfl, hB10⟩
end Go.Proofs.Ytboogdkkcepifaa
