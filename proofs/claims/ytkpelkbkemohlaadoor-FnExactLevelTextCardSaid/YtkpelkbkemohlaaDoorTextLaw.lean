/- The law FnExactLevelText: the walk. -/
import Derived.Test.YtkpelkbkemohlaaDoorSpecText
namespace Go.Proofs.YtkpelkbkemohlaaDoor
open Go.RowKit

theorem TokOwn.lt {w : World} {g n : Nat} {l : List (Int × Int)} (h : TokOwn w g n l) : g + 1 ≤ w.heap.size := by obtain ⟨_, cs, hblk, _⟩ := h; exact hblk.lt

set_option maxRecDepth 100000 in
set_option maxHeartbeats 4000000 in
theorem textLaw_any (w : World) (B : Nat) (A : Option Addr) (n c : Nat) (l : List (Int × Int)) (T : TypeId) (pv : Value) (h0 : 0 < B) (hB : B ≤ w.heap.size)
    (hl : TokR w B A n l) (hn : (n : Int) ≤ 9223372036854775807) (hE : ErrAt w T pv) :
    Calls Tryd.prog 14 #[.slice A n c] w fun e w' => e = .returned (.bool true) ∧ Below w.heap.size w w' := by
  by_cases hbig : 1048576 < (n : Int)
  · go_enter Tryd.func14, Tryd.ntmps14
    go_wp2_with fail
    refine (szTokS_any A n c (1048576) w (by omega) (by omega) hn).mono ?_
    rintro e w' ⟨rfl, rfl⟩
    rw [if_pos (by omega)]
    go_wp2
    go_ret
    exact ⟨rfl, Below.refl _ _⟩
  · have hm : n ≤ 1048576 := by omega
    go_enter Tryd.func14, Tryd.ntmps14
    go_wp2_with fail
    refine (szTokS_any A n c (1048576) w (by omega) (by omega) hn).mono ?_
    rintro e w' ⟨rfl, rfl⟩
    rw [if_neg (by omega)]
    have hs : ¬ ((1048576 : Int) - (n : Int) < 0) := by omega
    go_wp2_with fail
    refine (toTokS_any w B A n c l hB hl hm).mono ?_
    rintro e w1 ⟨rfl, hb1, o1⟩
    have z1 := o1.lt
    go_wp2_with fail
    refine (specText_any w1 w1.heap.size _ n n l (Nat.le_refl _) (o1.reads.more (by omega)) hm).mono ?_
    rintro e w2 ⟨rfl, hb2⟩
    have hB2 : Below w.heap.size w w2 := hb1.trans (hb2.mono hb1.size)
    have s2 := hB2.size
    clear o1 hb1 hb2
    go_wp2_with fail
    refine (toTokS_any w2 B A n c l (Nat.le_trans hB hB2.size) (hl.below (hB2.mono hB)) hm).mono ?_
    rintro e w3 ⟨rfl, hb3, o3⟩
    have z3 := o3.lt
    have hB3 : Below w.heap.size w w3 := hB2.trans (hb3.mono hB2.size)
    clear hb3
    go_wp2_with fail
    refine (implText_any w3 w3.heap.size _ n n l T pv (by omega) (Nat.le_refl _) (o3.reads.more (by omega)) hm (hE.below (hB3.mono hB) h0)).mono ?_
    rintro e w4 ⟨rfl, hb4⟩
    have hB4 : Below w.heap.size w w4 := hB3.trans (hb4.mono hB3.size)
    have o4 := o3.below hb4 (by omega)
    have s4 := hb4.size
    clear hb4 o3 hB3
    go_wp2_with fail
    refine (toTokS_any w4 B A n c l (Nat.le_trans hB hB4.size) (hl.below (hB4.mono hB)) hm).mono ?_
    rintro e w5 ⟨rfl, hb5, z5⟩
    have l5 := z5.lt
    have hB5 : Below w.heap.size w w5 := hB4.trans (hb5.mono hB4.size)
    have o5 := o4.below hb5 (by omega)
    have s5 := hb5.size
    clear hb5 o4
    go_wp2_with fail
    refine (eqTokS_any w5 w5.heap.size _ _ n n n n l l (Nat.le_refl _) (o5.reads.more (by omega)) (z5.reads.more (by omega)) (by omega) (by omega)).mono ?_
    rintro e w6 ⟨rfl, hb6⟩
    rw [decide_eq_true rfl]
    have hB6 : Below w.heap.size w w6 := hB5.trans (hb6.mono hB5.size)
    clear o5 z5 hb6
    go_wp2
    go_ret
    exact ⟨rfl, hB6⟩
end Go.Proofs.YtkpelkbkemohlaaDoor
