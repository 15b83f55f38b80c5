/- The law of NormOk: whatever the atoms, the program and the reference model give one answer, and the argument is as it was. -/
import Derived.Test.YtgbdojenenfgfaaNOk2
import Derived.Test.YtgbdojenenfgfaaNOk3
namespace Go.Proofs.Ytgbdojenenfgfaa
open Go.RowKit

set_option maxHeartbeats 1000000 in
theorem normOkLaw_any (w : World) (B : Nat) (A : Option Addr) (n c : Nat) (l : List (Int × Int)) (hB : B ≤ w.heap.size)
    (hl : TokR w B A n l) (hn : (n : Int) ≤ 9223372036854775807) :
    Calls Try.prog 5 #[.slice A n c] w fun e w' => e = .returned (.bool true) ∧ Below w.heap.size w w' := by
  by_cases hbig : (1048576 : Int) < n
  · go_enter Try.func5, Try.ntmps5
    go_wp2_with fail
    refine (szAtomS_any A n c 1048576 w (by omega) (by omega) hn).mono ?_
    rintro e w' ⟨rfl, rfl⟩
    rw [if_pos hbig]
    go_wp2
    go_ret
    exact ⟨rfl, Below.refl _ _⟩
  · have hn' : n ≤ 1048576 := by omega
    go_enter Try.func5, Try.ntmps5
    go_wp2_with fail
    refine (szAtomS_any A n c 1048576 w (by omega) (by omega) hn).mono ?_
    rintro e w' ⟨rfl, rfl⟩
    rw [if_neg (by omega)]
    have hs : ¬ (1048576 - (n : Int) < 0) := by omega
    go_wp2_with fail
    refine (toAtomS_any w B A n c l hB hl hn').mono ?_
    rintro e w1 ⟨rfl, hb1, ho1⟩
    have hz1 := ho1.lt
    go_wp2_with fail
    refine (specNormOk_any w1 (w.heap.size + 1) _ n n l hz1 ho1.reads (by omega)).mono ?_
    rintro e w2 ⟨rfl, hb2⟩
    have hB2 : Below w.heap.size w w2 := hb1.trans (hb2.mono hb1.size)
    go_wp2_with fail
    refine (toAtomS_any w2 B A n c l (Nat.le_trans hB hB2.size) (hl.below (hB2.mono hB)) hn').mono ?_
    rintro e w3 ⟨rfl, hb3, ho3⟩
    have hz3 := ho3.lt
    have hB3 : Below w.heap.size w w3 := hB2.trans (hb3.mono hB2.size)
    go_wp2_with fail
    refine (implNormOk_any w3 (w2.heap.size + 1) _ n n l hz3 ho3.reads (by omega) (Nat.le_refl _)).mono ?_
    rintro e w4 ⟨rfl, hb4⟩
    have hB4 : Below w.heap.size w w4 := hB3.trans (hb4.mono hB3.size)
    have hz4 := hb4.size
    have ho4 := ho3.below hb4 (by omega)
    have hbb : ((Nm.normOk l) != (Nm.normOk l)) = false := by simp
    go_wp2_with fail
    refine (toAtomS_any w4 B A n c l (Nat.le_trans hB hB4.size) (hl.below (hB4.mono hB)) hn').mono ?_
    rintro e w5 ⟨rfl, hb5, ho5⟩
    have hz5 := ho5.lt
    have hB5 : Below w.heap.size w w5 := hB4.trans (hb5.mono hB4.size)
    have ho6 := ho4.below hb5 (by omega)
    go_wp2_with fail
    refine (eqAtomS_any w5 w5.heap.size _ _ n n n n l l (Nat.le_refl _) (ho6.reads.more (by omega)) (ho5.reads.more (by omega)) (by omega) (by omega)).mono ?_
    rintro e w6 ⟨rfl, hb6⟩
    rw [decide_eq_true rfl]
    go_wp2
    go_ret
    exact ⟨rfl, hB5.trans (hb6.mono hB5.size)⟩
end Go.Proofs.Ytgbdojenenfgfaa
