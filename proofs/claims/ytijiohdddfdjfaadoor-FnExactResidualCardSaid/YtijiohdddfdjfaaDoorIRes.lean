/- The program's leaf and join for a sign. -/
import Derived.Test.YtijiohdddfdjfaaDoorSgLev
import Derived.Test.YtijiohdddfdjfaaDoorJoin
import Derived.Test.YtijiohdddfdjfaaDoorRsMath2
import Derived.Test.YtijiohdddfdjfaaDoorNFree2
namespace Go.Proofs.YtijiohdddfdjfaaDoor
open Go.RowKit

/-- a leaf for a sign -/
def leafT (s : Int) (t : Int × Int) : Int × Int := if t.1 = 4 ∧ Sg.has s t.2 = false then (0, 0) else t
/-- a join for a sign -/
def joinT (s op : Int) (a b : List (Int × Int)) : List (Int × Int) := if op = 3 ∧ lsgR b s = 0 then [(0, 0)] else a ++ (b ++ [(2, 0)])

set_option maxHeartbeats 800000 in
theorem leafFor_any (w : World) (op y s : Int) :
    Calls Tryd.prog 100 #[.agg #[.int .i64 op, .int .i64 y], .int .i64 s] w fun e w' => e = .returned (.agg #[.int .i64 (leafT s (op, y)).1, .int .i64 (leafT s (op, y)).2]) ∧ Below w.heap.size w w' := by
  have HB : ∀ o : Obj, Below w.heap.size w ((w.alloc (.cells #[.int .i64 op, .int .i64 y] 66)).alloc o) := fun o => ((Below.refl _ _).alloc (Nat.le_refl _) _).alloc (by simp) _
  by_cases h4 : op = 4
  · subst h4
    cases hh : Sg.has s y with
    | true =>
      have HL : Hid (leafT s (4, y) = (4, y)) := by unfold Hid leafT; simp [hh]
      go_enter Tryd.func100, Tryd.ntmps100
      go_wp2_with fail
      refine (implSignHas_any _ s y).mono ?_
      rintro e w1 ⟨rfl, rfl⟩
      rw [hh]
      go_wp2
      exact bodyPost_ret (v := .agg #[.int .i64 4, .int .i64 y]) (by simp [results, Tryd.results100, go_sem]) rfl ⟨by rw [HL.out], HB _⟩
    | false =>
      have HL : Hid (leafT s (4, y) = (0, 0)) := by unfold Hid leafT; simp [hh]
      go_enter Tryd.func100, Tryd.ntmps100
      go_wp2_with fail
      refine (implSignHas_any _ s y).mono ?_
      rintro e w1 ⟨rfl, rfl⟩
      rw [hh]
      go_wp2
      exact bodyPost_ret (v := .agg #[.int .i64 0, .int .i64 0]) (by simp [results, Tryd.results100, go_sem]) rfl ⟨by rw [HL.out], HB _⟩
  · have HL : Hid (leafT s (op, y) = (op, y)) := by unfold Hid leafT; simp [h4]
    have d4 : (op == 4) = false := by simpa using h4
    clear h4
    go_enter Tryd.func100, Tryd.ntmps100
    go_wp2
    exact bodyPost_ret (v := .agg #[.int .i64 op, .int .i64 y]) (by simp [results, Tryd.results100, go_sem]) rfl ⟨by rw [HL.out], HB _⟩

theorem own_litJ {w : World} {g base : Nat} {a b : Int} (h : Blk w g 66 #[.int .i64 a, .int .i64 b]) (hb : base ≤ g) : OwnT w base (some ⟨g, 0, none⟩) 1 1 [(a, b)] :=
  ⟨rfl, .inr ⟨g, 1, #[.int .i64 a, .int .i64 b], rfl, hb, h, Nat.le_refl _, by simp [maxLen], rfl, rfl⟩⟩

set_option maxRecDepth 100000 in
set_option maxHeartbeats 1600000 in
theorem joinFor_any (w : World) (B : Nat) (op s : Int) (A0 : Option Addr) (n0 c0 : Nat) (l0 : List (Int × Int)) (A1 : Option Addr) (n1 c1 : Nat) (l1 : List (Int × Int)) (T : TypeId) (pv : Value) (h0 : 0 < B) (hB : B ≤ w.heap.size)
    (hl0 : TokR w B A0 n0 l0) (hn0 : n0 ≤ 100) (h10 : 1 ≤ n0) (hl1 : TokR w B A1 n1 l1) (hn1 : n1 ≤ 100) (h11 : 1 ≤ n1) (hE : ErrAt w T pv) :
    Calls Tryd.prog 101 #[.int .i64 op, .slice A0 n0 c0, .slice A1 n1 c1, .int .i64 s] w (ResT w (joinT s op l0 l1)) := by
  by_cases hz : op = 3 ∧ lsgR l1 s = 0
  · obtain ⟨rfl, hz⟩ := hz
    have HJ : Hid (joinT s 3 l0 l1 = [(0, 0)]) := by unfold Hid joinT; rw [if_pos ⟨rfl, hz⟩]
    have HZ := Lib.hid hz
    clear hz
    go_enter Tryd.func101, Tryd.ntmps101
    go_wp2_with fail
    refine (implLevelSign_any w B A1 n1 c1 l1 s T pv h0 hB hl1 (by omega) hE).mono ?_
    rintro e w1 ⟨rfl, hb1⟩
    rw [HZ.out]
    have HO : Hid (OwnT (w1.alloc (.cells #[.int .i64 0, .int .i64 0] 66)) w.heap.size (some ⟨w1.heap.size, 0, none⟩) 1 1 [(0, 0)]) := own_litJ (Blk.made w1 _ _) hb1.size
    have HB1 := Lib.hid (hb1.alloc hb1.size (.cells #[.int .i64 0, .int .i64 0] 66))
    clear hb1
    go_wp2
    go_ret
    rw [HJ.out]
    exact ⟨_, _, rfl, HO.out, HB1.out⟩
  · have HJ : Hid (joinT s op l0 l1 = l0 ++ (l1 ++ [(2, 0)])) := by unfold Hid joinT; rw [if_neg hz]
    have HFn : Hid ([l0, l1, [((2 : Int), (0 : Int))]].flatten.length = n0 + n1 + 1) := by show _ = _; simp [hl0.1, hl1.1]; omega
    have HFL : Hid ([l0, l1, [((2 : Int), (0 : Int))]].flatten = l0 ++ (l1 ++ [(2, 0)])) := by show _ = _; simp
    have HFN2 : Hid ((l0 ++ (l1 ++ [((2 : Int), (0 : Int))])).length = n0 + n1 + 1) := by show _ = _; simp [hl0.1, hl1.1]; omega
    by_cases h3 : op = 3
    · subst h3
      have hz' : (lsgR l1 s == 0) = false := by simp; exact fun h => hz ⟨rfl, h⟩
      obtain ⟨v, hv⟩ : ∃ v, lsgR l1 s = v := ⟨_, rfl⟩
      rw [hv] at hz'
      have HV := Lib.hid hv
      clear hz hv
      go_enter Tryd.func101, Tryd.ntmps101
      go_wp2_with fail
      refine (implLevelSign_any w B A1 n1 c1 l1 s T pv h0 hB hl1 (by omega) hE).mono ?_
      rintro e w2 ⟨rfl, hb12⟩
      rw [HV.out]
      have HS2 := Lib.hid hb12.size
      obtain ⟨q0, rfl, hq0⟩ := (hl0.below (hb12.mono hB)).tokA (by omega)
      obtain ⟨q1, rfl, hq1⟩ := (hl1.below (hb12.mono hB)).tokA (by omega)
      have HPt := Lib.hid (parts3 (c0 := c0) (c1 := c1) 2 (Nat.le_trans hB hb12.size) hq0 hq1 hl0.1 hl1.1)
      have HBA := Lib.hid ((hb12.alloc hb12.size (.cells #[.int .i64 2, .int .i64 0] 66)).alloc (by simp; exact Nat.le_succ_of_le hb12.size) (.cells #[.slice (some q0) n0 c0, .slice (some q1) n1 c1, .slice (some ⟨w2.heap.size, 0, none⟩) 1 1] 24))
      clear hq0 hq1 hb12
      go_wp2_with fail
      refine (concat_any _ (w2.heap.size + 2) (w2.heap.size + 1) 3 _ _ [l0, l1, [(2, 0)]] (by simp) HPt.out (by simp) (by rw [HFn.out]; omega) (by rw [HFn.out]; omega)).mono ?_
      rintro e w3 ⟨g3, c3, rfl, ho3, hb3⟩
      rw [HFn.out] at ho3 ⊢
      rw [HFL.out] at ho3
      have HO3 := Lib.hid (own_base (base' := w.heap.size) ho3 (by have := HS2.out; simp; omega))
      have HB3 := Lib.hid (HBA.out.trans (hb3.mono (by have := HS2.out; simp; omega)))
      clear ho3 hb3 HBA HPt
      go_wp2
      go_ret
      rw [HJ.out]
      exact ⟨_, _, by rw [HFN2.out]; rfl, by rw [HFN2.out]; exact HO3.out, HB3.out⟩
    · have d3 : (op == 3) = false := by simpa using h3
      have HS2 : Hid (w.heap.size ≤ w.heap.size) := Nat.le_refl _
      obtain ⟨q0, rfl, hq0⟩ := hl0.tokA (by omega)
      obtain ⟨q1, rfl, hq1⟩ := hl1.tokA (by omega)
      have HPt := Lib.hid (parts3 (c0 := c0) (c1 := c1) 2 hB hq0 hq1 hl0.1 hl1.1)
      have HBA := Lib.hid (((Below.refl w.heap.size w).alloc (Nat.le_refl _) (.cells #[.int .i64 2, .int .i64 0] 66)).alloc (by simp) (.cells #[.slice (some q0) n0 c0, .slice (some q1) n1 c1, .slice (some ⟨w.heap.size, 0, none⟩) 1 1] 24))
      clear hq0 hq1 hz h3
      go_enter Tryd.func101, Tryd.ntmps101
      go_wp2_with fail
      refine (concat_any _ (w.heap.size + 2) (w.heap.size + 1) 3 _ _ [l0, l1, [(2, 0)]] (by simp) HPt.out (by simp) (by rw [HFn.out]; omega) (by rw [HFn.out]; omega)).mono ?_
      rintro e w3 ⟨g3, c3, rfl, ho3, hb3⟩
      rw [HFn.out] at ho3 ⊢
      rw [HFL.out] at ho3
      have HO3 := Lib.hid (own_base (base' := w.heap.size) ho3 (by simp; omega))
      have HB3 := Lib.hid (HBA.out.trans (hb3.mono (by simp; omega)))
      clear ho3 hb3 HBA HPt HS2
      go_wp2
      go_ret
      rw [HJ.out]
      exact ⟨_, _, by rw [HFN2.out]; rfl, by rw [HFN2.out]; exact HO3.out, HB3.out⟩
end Go.Proofs.YtijiohdddfdjfaaDoor
