/- LevelLe, LevelLess and LevelEq of the program. -/
import Derived.Test.YtghoofgfimeedaaDoorDMis
import Derived.Test.YtghoofgfimeedaaDoorDLs

namespace Go.Proofs.YtghoofgfimeedaaDoor
open Go.RowKit

set_option maxRecDepth 100000 in
set_option maxHeartbeats 3200000 in
theorem atMost_any (w : World) (B : Nat) (A1 : Option Addr) (n1 c1 : Nat) (a : List (Int × Int)) (u : Int) (A2 : Option Addr) (n2 c2 : Nat) (b : List (Int × Int)) (T : TypeId) (pv : Value) (h0 : 0 < B) (hB : B ≤ w.heap.size)
    (ha : TokR w B A1 n1 a) (hn1 : (n1 : Int) ≤ 140737488355328) (hb : TokR w B A2 n2 b) (hn2 : (n2 : Int) ≤ 140737488355328) (hu0 : 0 ≤ u) (hu1 : u ≤ 1) (hE : ErrAt w T pv) :
    Calls Tryd.prog 70 #[.slice A1 n1 c1, .int .i64 u, .slice A2 n2 c2] w fun e w' => e = .returned (.bool (Dc.atR u a b)) ∧ Below w.heap.size w w' := by
  cases h1 : Lv.levelOk a with
  | false =>
    have HF : Hid (Dc.atR u a b = false) := by show _ = _; unfold Dc.atR; rw [h1]; rfl
    have HO := Lib.hid h1
    clear h1
    go_enter Tryd.func70, Tryd.ntmps70
    go_wp2_with fail
    refine (levelOk_any w B A1 n1 c1 a T pv h0 hB ha hn1 hE).mono ?_
    rintro e w1 ⟨rfl, hb1⟩
    rw [HO.out]
    clear ha hb
    go_wp2
    go_ret
    exact ⟨by rw [HF.out]; rfl, hb1⟩
  | true =>
    have HO1 := Lib.hid h1
    clear h1
    cases h2 : Lv.levelOk b with
    | false =>
      have HF : Hid (Dc.atR u a b = false) := by show _ = _; unfold Dc.atR; rw [h2, Bool.and_false]; rfl
      have HO := Lib.hid h2
      clear h2
      go_enter Tryd.func70, Tryd.ntmps70
      go_wp2_with fail
      refine (levelOk_any w B A1 n1 c1 a T pv h0 hB ha hn1 hE).mono ?_
      rintro e w1 ⟨rfl, hb1⟩
      rw [HO1.out]
      have hs1 := hb1.size
      go_wp2_with fail
      refine (levelOk_any w1 B A2 n2 c2 b T pv h0 (by omega) (hb.below (hb1.mono hB)) hn2 (hE.below (hb1.mono hB) h0)).mono ?_
      rintro e w2 ⟨rfl, hb2⟩
      rw [HO.out]
      have HB2 := Lib.hid (hb1.trans (hb2.mono hb1.size))
      clear ha hb hb1 hb2
      go_wp2
      go_ret
      exact ⟨by rw [HF.out]; rfl, HB2.out⟩
    | true =>
      have HF : Hid (Dc.atR u a b = !(Dc.misR u a b).isSome) := by show _ = _; unfold Dc.atR; rw [h2, HO1.out]; cases Dc.misR u a b <;> rfl
      have HO2 := Lib.hid h2
      clear h2
      go_enter Tryd.func70, Tryd.ntmps70
      go_wp2_with fail
      refine (levelOk_any w B A1 n1 c1 a T pv h0 hB ha hn1 hE).mono ?_
      rintro e w1 ⟨rfl, hb1⟩
      rw [HO1.out]
      have hs1 := hb1.size
      go_wp2_with fail
      refine (levelOk_any w1 B A2 n2 c2 b T pv h0 (by omega) (hb.below (hb1.mono hB)) hn2 (hE.below (hb1.mono hB) h0)).mono ?_
      rintro e w2 ⟨rfl, hb2⟩
      rw [HO2.out]
      have hb02 := hb1.trans (hb2.mono hb1.size)
      have hs2 := hb02.size
      clear hb1 hb2
      go_wp2_with fail
      refine (firstMisfit_any w2 B A1 n1 c1 a u A2 n2 c2 b T pv h0 (by omega) (ha.below (hb02.mono hB)) HO1.out (hb.below (hb02.mono hB)) HO2.out hu0 hu1 (hE.below (hb02.mono hB) h0)).mono ?_
      rintro e w3 ⟨rfl, hb3⟩
      have hb03 := hb02.trans (hb3.mono hs2)
      have HB3 := Lib.hid (hb03.alloc hb03.size (.cells #[.int .i64 (((Dc.misR u a b).map fun x => ((x.1 : Nat) : Int)).getD 0), .int .i64 (((Dc.misR u a b).map fun x => x.2).getD 0)] 91))
      unfold misV
      generalize ((Dc.misR u a b).map fun x => ((x.1 : Nat) : Int)).getD 0 = v1 at *
      generalize ((Dc.misR u a b).map fun x => x.2).getD 0 = v2 at *
      generalize (Dc.misR u a b).isSome = v3 at *
      clear ha hb hb02 hb3 hb03
      go_wp2
      go_ret
      exact ⟨by rw [HF.out]; rfl, HB3.out⟩

set_option maxHeartbeats 800000 in
theorem implLevelLe_any (w : World) (B : Nat) (A1 : Option Addr) (n1 c1 : Nat) (a : List (Int × Int)) (A2 : Option Addr) (n2 c2 : Nat) (b : List (Int × Int)) (T : TypeId) (pv : Value) (h0 : 0 < B) (hB : B ≤ w.heap.size)
    (ha : TokR w B A1 n1 a) (hn1 : (n1 : Int) ≤ 140737488355328) (hb : TokR w B A2 n2 b) (hn2 : (n2 : Int) ≤ 140737488355328) (hE : ErrAt w T pv) :
    Calls Tryd.prog 28 #[.slice A1 n1 c1, .slice A2 n2 c2] w fun e w' => e = .returned (.bool (Dc.leR a b)) ∧ Below w.heap.size w w' := by
  rw [← Dc.le_at]
  go_enter Tryd.func28, Tryd.ntmps28
  go_wp2_with fail
  refine (atMost_any w B A1 n1 c1 a 0 A2 n2 c2 b T pv h0 hB ha hn1 hb hn2 (by omega) (by omega) hE).mono ?_
  rintro e w1 ⟨rfl, hb1⟩
  go_wp2
  go_ret
  exact ⟨rfl, hb1⟩

set_option maxHeartbeats 800000 in
theorem implLevelLess_any (w : World) (B : Nat) (A1 : Option Addr) (n1 c1 : Nat) (a : List (Int × Int)) (A2 : Option Addr) (n2 c2 : Nat) (b : List (Int × Int)) (T : TypeId) (pv : Value) (h0 : 0 < B) (hB : B ≤ w.heap.size)
    (ha : TokR w B A1 n1 a) (hn1 : (n1 : Int) ≤ 140737488355328) (hb : TokR w B A2 n2 b) (hn2 : (n2 : Int) ≤ 140737488355328) (hE : ErrAt w T pv) :
    Calls Tryd.prog 29 #[.slice A1 n1 c1, .slice A2 n2 c2] w fun e w' => e = .returned (.bool (Dc.lessR a b)) ∧ Below w.heap.size w w' := by
  rw [← Dc.less_at]
  go_enter Tryd.func29, Tryd.ntmps29
  go_wp2_with fail
  refine (atMost_any w B A1 n1 c1 a 1 A2 n2 c2 b T pv h0 hB ha hn1 hb hn2 (by omega) (by omega) hE).mono ?_
  rintro e w1 ⟨rfl, hb1⟩
  go_wp2
  go_ret
  exact ⟨rfl, hb1⟩

set_option maxHeartbeats 800000 in
theorem implLevelEq_any (w : World) (B : Nat) (A1 : Option Addr) (n1 c1 : Nat) (a : List (Int × Int)) (A2 : Option Addr) (n2 c2 : Nat) (b : List (Int × Int)) (T : TypeId) (pv : Value) (h0 : 0 < B) (hB : B ≤ w.heap.size)
    (ha : TokR w B A1 n1 a) (hn1 : (n1 : Int) ≤ 140737488355328) (hb : TokR w B A2 n2 b) (hn2 : (n2 : Int) ≤ 140737488355328) (hE : ErrAt w T pv) :
    Calls Tryd.prog 23 #[.slice A1 n1 c1, .slice A2 n2 c2] w fun e w' => e = .returned (.bool (Dc.eqR a b)) ∧ Below w.heap.size w w' := by
  cases h1 : Dc.leR a b with
  | false =>
    have HF : Hid (Dc.eqR a b = false) := by show Dc.eqR a b = false; unfold Dc.eqR; rw [h1]; rfl
    have H1 := Lib.hid h1
    clear h1
    go_enter Tryd.func23, Tryd.ntmps23
    go_wp2_with fail
    refine (implLevelLe_any w B A1 n1 c1 a A2 n2 c2 b T pv h0 hB ha hn1 hb hn2 hE).mono ?_
    rintro e w1 ⟨rfl, hb1⟩
    rw [H1.out]
    go_wp2
    go_ret
    exact ⟨by rw [HF.out]; rfl, hb1⟩
  | true =>
    have HF : Hid (Dc.eqR a b = Dc.leR b a) := by show Dc.eqR a b = Dc.leR b a; unfold Dc.eqR; rw [h1]; rfl
    have H1 := Lib.hid h1
    clear h1
    go_enter Tryd.func23, Tryd.ntmps23
    go_wp2_with fail
    refine (implLevelLe_any w B A1 n1 c1 a A2 n2 c2 b T pv h0 hB ha hn1 hb hn2 hE).mono ?_
    rintro e w1 ⟨rfl, hb1⟩
    rw [H1.out]
    have hs1 := hb1.size
    go_wp2_with fail
    refine (implLevelLe_any w1 B A2 n2 c2 b A1 n1 c1 a T pv h0 (by omega) (hb.below (hb1.mono hB)) hn2 (ha.below (hb1.mono hB)) hn1 (hE.below (hb1.mono hB) h0)).mono ?_
    rintro e w2 ⟨rfl, hb2⟩
    have HB2 := Lib.hid (hb1.trans (hb2.mono hb1.size))
    clear hb1 hb2 ha hb
    go_wp2
    go_ret
    exact ⟨by rw [HF.out]; rfl, HB2.out⟩
end Go.Proofs.YtghoofgfimeedaaDoor
