/- The law FnExactConsFar: the walk. -/
import Derived.Test.YtboogdkkcepifaaPtSat
import Derived.Test.YtboogdkkcepifaaLawC
namespace Go.Proofs.Ytboogdkkcepifaa
open Go.RowKit
open Cs (Cn)

set_option maxRecDepth 100000 in
set_option maxHeartbeats 4000000 in
theorem consFarLaw_any (w : World) (B : Nat) (A : Option Addr) (n c : Nat) (l : List Cn) (i j : Int) (hB : B ≤ w.heap.size) (hl : ConR w B A n l) (hn : (n : Int) ≤ 9223372036854775807) :
    Calls Try.prog 12 #[.slice A n c, .int .i64 i, .int .i64 j] w fun e w' => e = .returned (.bool true) ∧ Below w.heap.size w w' := by
  by_cases hbig : (1048576 : Int) < n
  · go_enter Try.func12, Try.ntmps12
    go_wp2_with fail
    refine (szConS_any A n c 1048576 w (by omega) (by omega) hn).mono ?_
    rintro e w' ⟨rfl, rfl⟩
    rw [if_pos hbig]
    go_wp2
    go_ret
    exact ⟨rfl, Below.refl _ _⟩
  · have hn' : n ≤ 1048576 := by omega
    go_enter Try.func12, Try.ntmps12
    go_wp2_with fail
    refine (szConS_any A n c 1048576 w (by omega) (by omega) hn).mono ?_
    rintro e w' ⟨rfl, rfl⟩
    rw [if_neg (by omega)]
    have hs : ¬ (1048576 - (n : Int) < 0) := by omega
    have hB0 : Below w.heap.size w w := Below.refl _ _
    go_wp2_with fail
    refine (toConS_any w B A n c l (Nat.le_trans hB hB0.size) (hl.below (hB0.mono hB)) hn').mono ?_
    rintro e w1 ⟨rfl, hb1, p1⟩
    have zp : w.heap.size + 1 ≤ w1.heap.size := p1.lt
    have hB1 : Below w.heap.size w w1 := hB0.trans (hb1.mono hB0.size)
    have s1 := hb1.size
    clear hb1
    go_wp2_with fail
    refine (specConsFar_any w1 w1.heap.size (some ⟨w.heap.size, 0, none⟩) n n l i j (Nat.le_refl _) (p1.reads.more (by omega)) (by omega)).mono ?_
    rintro e w2 ⟨rfl, hb2⟩
    have hB2 : Below w.heap.size w w2 := hB1.trans (hb2.mono hB1.size)
    have s2 := hb2.size
    have p2 := p1.below hb2 (by omega)
    clear p1
    clear hb2
    clear p2
    go_wp2_with fail
    refine (toConS_any w2 B A n c l (Nat.le_trans hB hB2.size) (hl.below (hB2.mono hB)) hn').mono ?_
    rintro e w3 ⟨rfl, hb3, x3⟩
    have zx : w2.heap.size + 1 ≤ w3.heap.size := x3.lt
    have hB3 : Below w.heap.size w w3 := hB2.trans (hb3.mono hB2.size)
    have s3 := hb3.size
    clear hb3
    go_wp2_with fail
    refine (implConsFar_any w3 w3.heap.size (some ⟨w2.heap.size, 0, none⟩) n n l i j (Nat.le_refl _) (x3.reads.more (by omega)) (by omega)).mono ?_
    rintro e w4 ⟨rfl, hb4⟩
    have hB4 : Below w.heap.size w w4 := hB3.trans (hb4.mono hB3.size)
    have s4 := hb4.size
    have x4 := x3.below hb4 (by omega)
    clear x3
    clear hb4
    have hbb : ((farR l i j) != (farR l i j)) = false := by simp
    go_wp2_with fail
    refine (toConS_any w4 B A n c l (Nat.le_trans hB hB4.size) (hl.below (hB4.mono hB)) hn').mono ?_
    rintro e w5 ⟨rfl, hb5, yx5⟩
    have zyx : w4.heap.size + 1 ≤ w5.heap.size := yx5.lt
    have hB5 : Below w.heap.size w w5 := hB4.trans (hb5.mono hB4.size)
    have s5 := hb5.size
    have x5 := x4.below hb5 (by omega)
    clear x4
    clear hb5
    go_wp2_with fail
    refine (eqConS_any w5 w5.heap.size (some ⟨w2.heap.size, 0, none⟩) (some ⟨w4.heap.size, 0, none⟩) n n n n l l (Nat.le_refl _) (x5.reads.more (by omega)) (yx5.reads.more (by omega)) (by omega) (by omega)).mono ?_
    rintro e w6 ⟨rfl, hb6⟩
    have hB6 : Below w.heap.size w w6 := hB5.trans (hb6.mono hB5.size)
    have s6 := hb6.size
    have x6 := x5.below hb6 (by omega)
    clear x5
    have yx6 := yx5.below hb6 (by omega)
    clear yx5
    clear hb6
    rw [decide_eq_true rfl]
    clear yx6
    go_wp2
    go_ret
    exact ⟨rfl, hB6⟩
end Go.Proofs.Ytboogdkkcepifaa
