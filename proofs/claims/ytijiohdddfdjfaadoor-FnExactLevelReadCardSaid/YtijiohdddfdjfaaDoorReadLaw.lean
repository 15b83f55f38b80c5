/- The law FnExactLevelRead: the walk. -/
import Derived.Test.YtijiohdddfdjfaaDoorReadS
namespace Go.Proofs.YtijiohdddfdjfaaDoor
open Go.RowKit

set_option maxRecDepth 100000 in
set_option maxHeartbeats 4000000 in
theorem readLaw_any (w : World) (B : Nat) (s0 : ByteArray) (m0 : Int) (T : TypeId) (pv : Value) (h0 : 0 < B) (hB : B ≤ w.heap.size)
    (hm : w.cell? Tryd.maxLenAt = some (.int .i64 m0)) (hmlt : Tryd.maxLenAt.block < w.heap.size) (hpos : 0 < w.heap.size) (hE : ErrAt w T pv) :
    Calls Tryd.prog 8 #[.string s0] w fun e w' => e = .returned (.bool true) ∧ Below w.heap.size w w' := by
  by_cases hbig0 : (1048576 : Int) < (s0.size : Int)
  · go_enter Tryd.func8, Tryd.ntmps8
    go_wp2
    go_ret
    exact ⟨rfl, Below.refl _ _⟩
  · skip
    have hR := Rd.readR_len s0
    go_enter Tryd.func8, Tryd.ntmps8
    have hB0 : Below w.heap.size w w := (Below.refl _ _)
    go_wp2_with fail
    refine (specRead_any w s0 (by omega)).mono ?_
    rintro e w1 ⟨Aow, cow, rfl, ow1, hb1⟩
    have iow : InR (.slice Aow ((Rd.readR s0).getD []).length cow) w.heap.size w1.heap.size := own_in ow1
    have hB1 : Below w.heap.size w w1 := hB0.trans (hb1.mono hB0.size)
    have s1 := hb1.size
    go_wp2_with fail
    refine (implRead_any w1 s0 T pv m0 (Nat.lt_of_lt_of_le hpos hB1.size) (by omega) ((hB1.cell (p := Tryd.maxLenAt) hmlt).trans hm) (hE.below (hB1.mono hB) h0)).mono ?_
    rintro e w2 ⟨Aog, cog, rfl, og2, hb2⟩
    have iog : InR (.slice Aog ((Rd.readR s0).getD []).length cog) w1.heap.size w2.heap.size := own_in og2
    have hB2 : Below w.heap.size w w2 := hB1.trans (hb2.mono hB1.size)
    have s2 := hb2.size
    have ow2 := own_below' ow1 hb2
    clear ow1
    have hbb : (((Rd.readR s0)).isSome != ((Rd.readR s0)).isSome) = false := by simp
    go_wp2_with fail
    refine (eqTokS_any w2 w2.heap.size _ _ _ _ _ _ _ _ (Nat.le_refl _) (OwnT.reads og2) (OwnT.reads ow2) (by omega) (by omega)).mono ?_
    rintro e w3 ⟨rfl, hb3⟩
    rw [decide_eq_true rfl]
    have hB3 : Below w.heap.size w w3 := hB2.trans (hb3.mono hB2.size)
    have s3 := hb3.size
    have ow3 := own_below' ow2 hb3
    clear ow2
    have og3 := own_below' og2 hb3
    clear og2
    go_wp2_with fail
    refine (markTokS_any w3 _ _ _ _ _ og3 1 (by omega) (by omega)).mono ?_
    rintro e w4 ⟨rfl, hk4⟩
    have hB4 : Below w.heap.size w w4 := markBelow hB3 hk4 iog (by omega) hB3.size
    have ow4 := markKept ow3 hk4 iog iow (by omega)
    have og4 := hk4.2.2
    have s4 : w3.heap.size ≤ w4.heap.size := by rw [hk4.2.1]; exact Nat.le_refl _
    clear hk4 ow3 og3
    go_wp2_with fail
    refine (heldTokS_any w4 _ _ _ _ 1 og4 (by omega) (by omega)).mono ?_
    rintro e w' ⟨rfl, rfl⟩
    have hq1 : ¬ (((1 + ((Rd.readR s0).getD []).length * 2 : Nat) : Int) < 0) := by omega
    have hq2 : (((1 + ((Rd.readR s0).getD []).length * 2 : Nat) : Int) != ((1 + ((Rd.readR s0).getD []).length * 2 : Nat) : Int)) = false := by simp
    go_wp2_with fail
    refine (implRead_any w4 s0 T pv m0 (Nat.lt_of_lt_of_le hpos hB4.size) (by omega) ((hB4.cell (p := Tryd.maxLenAt) hmlt).trans hm) (hE.below (hB4.mono hB) h0)).mono ?_
    rintro e w5 ⟨Aoh, coh, rfl, oh5, hb5⟩
    have ioh : InR (.slice Aoh ((Rd.readR s0).getD []).length coh) w4.heap.size w5.heap.size := own_in oh5
    have hB5 : Below w.heap.size w w5 := hB4.trans (hb5.mono hB4.size)
    have s5 := hb5.size
    have ow5 := own_below' ow4 hb5
    clear ow4
    have og5 := own_below' og4 hb5
    clear og4
    go_wp2_with fail
    refine (eqTokS_any w5 w5.heap.size _ _ _ _ _ _ _ _ (Nat.le_refl _) (OwnT.reads oh5) (OwnT.reads ow5) (by omega) (by omega)).mono ?_
    rintro e w6 ⟨rfl, hb6⟩
    rw [decide_eq_true rfl]
    have hB6 : Below w.heap.size w w6 := hB5.trans (hb6.mono hB5.size)
    have s6 := hb6.size
    have ow6 := own_below' ow5 hb6
    clear ow5
    have og6 := own_below' og5 hb6
    clear og5
    have oh6 := own_below' oh5 hb6
    clear oh5
    go_wp2_with fail
    refine (heldTokS_any w6 _ _ _ _ 1 og6 (by omega) (by omega)).mono ?_
    rintro e w' ⟨rfl, rfl⟩
    go_wp2
    go_ret
    exact ⟨rfl, hB6⟩
end Go.Proofs.YtijiohdddfdjfaaDoor
