/- The law of LevelOk: whatever the tokens, the program and the reference model give one answer, and the argument is as it was. -/
import Derived.Test.YtkpelkbkemohlaaDoorLaws2
namespace Go.Proofs.YtkpelkbkemohlaaDoor
open Go.RowKit

set_option maxHeartbeats 1000000 in
theorem okLaw_any (w : World) (B : Nat) (A : Option Addr) (n c : Nat) (l : List (Int × Int)) (T : TypeId) (pv : Value) (h0 : 0 < B) (hB : B ≤ w.heap.size)
    (hl : TokR w B A n l) (hn : (n : Int) ≤ 9223372036854775807) (hE : ErrAt w T pv) :
    Calls Tryd.prog 7 #[.slice A n c] w fun e w' => e = .returned (.bool true) ∧ Below w.heap.size w w' := by
  by_cases hbig : (1048576 : Int) < n
  · go_enter Tryd.func7, Tryd.ntmps7
    go_wp2_with fail
    refine (szTokS_any A n c 1048576 w (by omega) (by omega) hn).mono ?_
    rintro e w' ⟨rfl, rfl⟩
    rw [if_pos hbig]
    go_wp2
    go_ret
    exact ⟨rfl, Below.refl _ _⟩
  · have hn' : n ≤ 1048576 := by omega
    go_enter Tryd.func7, Tryd.ntmps7
    go_wp2_with fail
    refine (szTokS_any A n c 1048576 w (by omega) (by omega) hn).mono ?_
    rintro e w' ⟨rfl, rfl⟩
    rw [if_neg (by omega)]
    have hs : ¬ (1048576 - (n : Int) < 0) := by omega
    go_wp2_with fail
    refine (toTokS_any w B A n c l hB hl hn').mono ?_
    rintro e w1 ⟨rfl, hb1, ho1⟩
    have hs1 := ho1.reads
    have hz1 : w.heap.size + 1 ≤ w1.heap.size := by obtain ⟨_, cs, hblk, _⟩ := ho1; exact hblk.lt
    go_wp2_with fail
    refine (specOk_any w1 (w.heap.size + 1) _ n n l hz1 hs1 (by omega)).mono ?_
    rintro e w2 ⟨rfl, hb2⟩
    have hB2 : Below w.heap.size w w2 := hb1.trans (hb2.mono hb1.size)
    go_wp2_with fail
    refine (toTokS_any w2 B A n c l (Nat.le_trans hB hB2.size) (hl.below (hB2.mono hB)) hn').mono ?_
    rintro e w3 ⟨rfl, hb3, ho3⟩
    have hs3 := ho3.reads
    have hz3 : w2.heap.size + 1 ≤ w3.heap.size := by obtain ⟨_, cs, hblk, _⟩ := ho3; exact hblk.lt
    have hB3 : Below w.heap.size w w3 := hB2.trans (hb3.mono hB2.size)
    go_wp2_with fail
    refine (levelOk_any w3 (w2.heap.size + 1) _ n n l T pv (by omega) hz3 hs3 (by omega) (hE.below (hB3.mono hB) h0)).mono ?_
    rintro e w4 ⟨rfl, hb4⟩
    have hB4 : Below w.heap.size w w4 := hB3.trans (hb4.mono hB3.size)
    have hs4 : TokR w4 (w2.heap.size + 1) (some ⟨w2.heap.size, 0, none⟩) n l := hs3.below (hb4.mono hz3)
    have hz4 := hb4.size
    have hbb : ((Lv.levelOk l) != (Lv.levelOk l)) = false := by simp
    go_wp2_with fail
    refine (toTokS_any w4 B A n c l (Nat.le_trans hB hB4.size) (hl.below (hB4.mono hB)) hn').mono ?_
    rintro e w5 ⟨rfl, hb5, ho5⟩
    have hs5 := ho5.reads
    have hz5 : w4.heap.size + 1 ≤ w5.heap.size := by obtain ⟨_, cs, hblk, _⟩ := ho5; exact hblk.lt
    have hB5 : Below w.heap.size w w5 := hB4.trans (hb5.mono hB4.size)
    have hs6 : TokR w5 (w4.heap.size + 1) (some ⟨w2.heap.size, 0, none⟩) n l := (hs4.below (hb5.mono (by omega))).more (by omega)
    go_wp2_with fail
    refine (eqTokS_any w5 (w4.heap.size + 1) _ _ n n n n l l hz5 hs6 hs5 (by omega) (by omega)).mono ?_
    rintro e w6 ⟨rfl, hb6⟩
    have hB6 : Below w.heap.size w w6 := hB5.trans (hb6.mono hB5.size)
    rw [decide_eq_true rfl]
    go_wp2
    go_ret
    exact ⟨rfl, hB6⟩
end Go.Proofs.YtkpelkbkemohlaaDoor
