/- AtomUnder of the reference model. -/
/- ConHolds and ConsHold, of the program and of the reference model. -/
/- Plain facts: what it is that a list of constraints holds in an env. -/
/- ConsCore of the reference model. -/
/- ConsSigns of the reference model. -/
/- Plain facts: what it is that a list of constraints holds in an env; the signs that it allows. -/
/- l06First, LeUnder and EqUnder of the reference model. -/
/- What LeUnder says of envs; a list split at a parameter; LevelLe. -/
/- Inside a fence (the body of a range over a function): an operation as everywhere; a region that draws its order, by an invariant. -/
import Derived.Test.YtmbcjddahncocaaDoorUnAtom3
import Derived.Test.YtmbcjddahncocaaDoorSgHas
import Derived.BigQuiet
import Derived.Test.YtmbcjddahncocaaDoorGoodCons
import Derived.Test.YtmbcjddahncocaaDoorSlc
import Derived.Test.YtmbcjddahncocaaDoorRsMath3
import Derived.Test.YtmbcjddahncocaaDoorUnAtom
import Derived.Test.YtmbcjddahncocaaDoorUnMath
import Derived.Test.YtmbcjddahncocaaDoorSRes2
import Derived.Test.YtmbcjddahncocaaDoorSpec
import Derived.OrdersIn
import Derived.RangeFuncCalls
import Derived.OwnWalkIn
import Derived.Laws.Tables
import Derived.Test.YtmbcjddahncocaaDoorRegInv2

namespace Go.Proofs.YtmbcjddahncocaaDoor
open Go.RowKit
open Cs (Cn Tb)

theorem signO_some (l : List Cn) (s : Int) : (signO l s).isSome = sgnB l s := by
  unfold signO
  cases h : sgnB l s
  · rfl
  · rfl

set_option maxRecDepth 100000 in
set_option maxHeartbeats 1600000 in
theorem specAtomUnder_any (w : World) (B b off n c : Nat) (l : List Cn) (s p x : Int) (A2 : Option Addr) (n2 c2 : Nat) (m : List (Int × Int)) (hB : B ≤ w.heap.size) (hl : ConR w B (some ⟨b, off, none⟩) n l) (hn : (n : Int) ≤ 140737488355328)
    (hm : TokR w B A2 n2 m) (hn2 : (n2 : Int) ≤ 140737488355328) :
    Calls Tryd.prog 39 #[.slice (some ⟨b, off, none⟩) n c, .int .i64 s, .agg #[.int .i64 p, .int .i64 x], .slice A2 n2 c2] w fun e w' => e = .returned (.bool (atmR l s (p, x) m)) ∧ Below w.heap.size w w' := by
  obtain ⟨W0, hW0⟩ : ∃ W, w.alloc (.cells #[.int .i64 p, .int .i64 x] 68) = W := ⟨_, rfl⟩
  have hs0 : W0.heap.size = w.heap.size + 1 := by rw [← hW0]; simp
  have HB0 : Hid (Below w.heap.size w W0) := by show Below _ _ _; rw [← hW0]; exact (Below.refl _ _).alloc (Nat.le_refl _) _
  have HK0 : Hid (Blk W0 w.heap.size 68 #[.int .i64 p, .int .i64 x]) := by show Blk _ _ _ _; rw [← hW0]; exact Blk.made _ _ _
  have HL := Lib.hid (hl.below (HB0.out.mono hB))
  have HM := Lib.hid (hm.below (HB0.out.mono hB))
  clear hl hm
  go_enter Tryd.func39, Tryd.ntmps39
  go_wp2_with fail
  refine (specSignEnv_any W0 B b off n c l s (by omega) HL.out hn).mono ?_
  rintro e w1 hres
  clear hW0
  obtain ⟨hb1, hv⟩ : Below W0.heap.size W0 w1 ∧ ∃ v, e = .returned (.tuple #[v, .bool (sgnB l s)]) := by
    obtain ⟨A, c0, he, _, hb⟩ := hres
    rw [signO_some] at he
    exact ⟨hb, _, he⟩
  obtain ⟨v0, rfl⟩ := hv
  clear hres
  have HB1 := Lib.hid (HB0.out.trans (hb1.mono HB0.out.size))
  have HK1 := Lib.hid (Blk.below HK0.out hb1 HK0.out.lt)
  have HM1 := Lib.hid (HM.out.below (hb1.mono (by omega)))
  have HL1 := Lib.hid (HL.out.below (hb1.mono (by omega)))
  have hs1 := hb1.size
  clear hb1
  cases h1 : sgnB l s with
  | false =>
    have HF := Lib.hid (atmR_sgn (x := (p, x)) (n := m) h1)
    clear h1
    go_wp2
    go_ret
    exact ⟨by rw [HF.out]; rfl, HB1.out⟩
  | true =>
    have H1 := Lib.hid h1
    clear h1
    have z0 : w1.cell? ⟨w.heap.size, 0, none⟩ = some (.int .i64 p) := HK1.out.cell 0
    have z1 : w1.cell? ⟨w.heap.size, 1, none⟩ = some (.int .i64 x) := HK1.out.cell 1
    obtain ⟨W3, hW3⟩ : ∃ W, w1.alloc (.cells #[.int .i64 p, .int .i64 x] 68) = W := ⟨_, rfl⟩
    have hb3 : Below w1.heap.size w1 W3 := by rw [← hW3]; exact (Below.refl _ _).alloc (Nat.le_refl _) _
    have hs3 : W3.heap.size = w1.heap.size + 1 := by rw [← hW3]; simp
    have HO3 : Hid (TokR W3 (w1.heap.size + 1) (some ⟨w1.heap.size, 0, none⟩) 1 [(p, x)]) := by show TokR _ _ _ _ _; rw [← hW3]; exact tokR_one w1 p x
    have HB3 := Lib.hid (HB1.out.trans (hb3.mono HB1.out.size))
    have HK3 := Lib.hid (Blk.below HK1.out hb3 HK1.out.lt)
    have HM3 := Lib.hid (HM1.out.below (hb3.mono (by omega)))
    have HL3 := Lib.hid (HL1.out.below (hb3.mono (by omega)))
    clear hb3
    go_wp2_with fail
    clear z0 z1 hW3
    refine (specResidOk_any W3 (w1.heap.size + 1) (some ⟨w1.heap.size, 0, none⟩) 1 1 [(p, x)] s (by omega) HO3.out (by omega)).mono ?_
    rintro e w4 ⟨rfl, hb4⟩
    have HB4 := Lib.hid (HB3.out.trans (hb4.mono HB3.out.size))
    have HK4 := Lib.hid (Blk.below HK3.out hb4 HK3.out.lt)
    have HM4 := Lib.hid (HM3.out.below (hb4.mono (by omega)))
    have HL4 := Lib.hid (HL3.out.below (hb4.mono (by omega)))
    have hs4 := hb4.size
    clear hb4
    cases h2 : Nm.residOk s [(p, x)] with
    | false =>
      have HF := Lib.hid (atmR_x (l := l) (n := m) h2)
      clear h2
      go_wp2
      go_ret
      exact ⟨by rw [HF.out]; rfl, HB4.out⟩
    | true =>
      have H2 := Lib.hid h2
      have HPB := Lib.hid (residOk_one h2)
      clear h2
      go_wp2_with fail
      refine (specResidOk_any w4 B A2 n2 c2 m s (by omega) HM4.out hn2).mono ?_
      rintro e w5 ⟨rfl, hb5⟩
      have HB5 := Lib.hid (HB4.out.trans (hb5.mono HB4.out.size))
      have HK5 := Lib.hid (Blk.below HK4.out hb5 HK4.out.lt)
      have HM5 := Lib.hid (HM4.out.below (hb5.mono (by omega)))
      have HL5 := Lib.hid (HL4.out.below (hb5.mono (by omega)))
      have hs5 := hb5.size
      clear hb5
      cases h3 : Nm.residOk s m with
      | false =>
        have HF := Lib.hid (atmR_n (l := l) (x := (p, x)) h3)
        clear h3
        go_wp2
        go_ret
        exact ⟨by rw [HF.out]; rfl, HB5.out⟩
      | true =>
        have HF := Lib.hid (atmR_yes H1.out H2.out h3)
        have HOM := Lib.hid (residOk_all h3)
        have HFL := Lib.hid (sgnB_flat H1.out)
        have HTB : Hid (∀ i j, -1 ≤ Cs.tab (Un.sgL l s) i j ∧ Cs.tab (Un.sgL l s) i j ≤ 1000) :=
          fun i j => ⟨(Cs.tab_bd HFL.out i j).1, Int.le_trans (Cs.tab_bd HFL.out i j).2 (by decide)⟩
        have HC0 : Hid (consOkR l = true) := sgnB_cons H1.out
        have HP := Lib.hid (consOk_parts HC0.out)
        have hn24 : n ≤ 24 := by have h := (consOkR_ok HC0.out).2; rw [HL.out.1] at h; exact h
        clear h3
        go_wp2_with fail
        refine (l05Signed_any w5 B b off n c l s (by omega) HL5.out (by omega)).mono ?_
        rintro e w6 ⟨g6, c6, rfl, ho6, hb6⟩
        have HB6 := Lib.hid (HB5.out.trans (hb6.mono HB5.out.size))
        have HK6 := Lib.hid (Blk.below HK5.out hb6 HK5.out.lt)
        have HM6 := Lib.hid (HM5.out.below (hb6.mono (by omega)))
        have HR6 := Lib.hid (OwnC.reads ho6)
        have hs6 := hb6.size
        clear ho6 hb6
        go_wp2_with fail
        refine (l05Paths_any w6 w6.heap.size (some ⟨g6, 0, none⟩) (n + 5) c6 (Un.sgL l s) (Nat.le_refl _) HR6.out (Cs.signed_ok HP.out.1 _) (by omega)).mono ?_
        rintro e w7 ⟨hb7, ⟨hf, g, cap, rw', cp, rfl, ht⟩ | ⟨hf, rfl⟩⟩
        · have HB7 := Lib.hid (HB6.out.trans (hb7.mono HB6.out.size))
          have HK7 := Lib.hid (Blk.below HK6.out hb7 HK6.out.lt)
          have HM7 := Lib.hid (HM6.out.below (hb7.mono (by omega)))
          have HT7 := Lib.hid ht
          have hs7 := hb7.size
          clear hb7 ht hf
          have z0 : w7.cell? ⟨w.heap.size, 0, none⟩ = some (.int .i64 p) := HK7.out.cell 0
          have z1 : w7.cell? ⟨w.heap.size, 1, none⟩ = some (.int .i64 x) := HK7.out.cell 1
          obtain ⟨T, hT⟩ : ∃ T, Cs.tab (Un.sgL l s) = T := ⟨_, rfl⟩
          rw [hT] at HT7 HF HTB
          clear hT
          go_wp2_with fail
          refine (l06Atom_any w7 B w6.heap.size g cap rw' cp T p x A2 n2 c2 m (by omega) HT7.out HM7.out hn2 HOM.out HPB.out.1 HPB.out.2 HTB.out).mono ?_
          rintro e w8 ⟨rfl, hb8⟩
          have HB8 := Lib.hid (HB7.out.trans (hb8.mono HB7.out.size))
          obtain ⟨R, hR⟩ : ∃ R, Un.atB T (p, x) m = R := ⟨_, rfl⟩
          rw [hR] at HF ⊢
          clear hb8 hR z0 z1
          go_wp2
          go_ret
          exact ⟨by rw [HF.out]; rfl, HB8.out⟩
        · exact absurd (hf.symm.trans HFL.out) (by decide)
end Go.Proofs.YtmbcjddahncocaaDoor

namespace Go.Proofs.YtmbcjddahncocaaDoor
open Go.RowKit
open Cs (Cn)

theorem IntOwn.below {w w' : World} {g n B : Nat} {l : List Int} (h : IntOwn w g n l) (hb : Below B w w') (hg : g < B) : IntOwn w' g n l := by
  obtain ⟨hl, cs, hblk, rest⟩ := h
  exact ⟨hl, cs, hblk.below hb hg, rest⟩
/-- the value of a side in an env -/
def valR (env : List Int) (p : Int) : Int := if p < 0 then 0 else env.getD p.toNat 0
/-- whether a constraint is satisfied in an env -/
def holdR (env : List Int) (c : Cn) : Bool := if c.2.1 = 0 then decide (valR env c.1 ≤ valR env c.2.2) else if c.2.1 = 1 then decide (valR env c.1 < valR env c.2.2) else (valR env c.1 == valR env c.2.2)
def conHoldsR (c : Cn) (env : List Int) : Bool := Cs.cOk c && envOk env && holdR env c
def consHoldR (l : List Cn) (env : List Int) : Bool := consOkR l && envOk env && l.all (holdR env)
theorem envOk_len {env : List Int} (h : envOk env = true) : env.length = 5 := by
  unfold envOk at h
  rw [Bool.and_eq_true] at h
  simpa using h.1

set_option maxHeartbeats 400000 in
theorem sideValue_any (w : World) (B : Nat) (A : Option Addr) (c : Nat) (env : List Int) (p : Int) (hR : IntR w B A 5 env) (h0 : -1 ≤ p) (h5 : p < 5) :
    Calls Tryd.prog 130 #[.int .i64 p, .slice A 5 c] w fun e w' => e = .returned (.int .i64 (valR env p)) ∧ w' = w := by
  by_cases hn : p = -1
  · have HF : Hid (valR env p = 0) := if_pos (by omega)
    subst hn
    go_enter Tryd.func130, Tryd.ntmps130
    go_wp2
    go_ret
    exact ⟨by rw [HF.out]; rfl, rfl⟩
  · obtain ⟨k, hk⟩ : ∃ k : Nat, p = k := ⟨p.toNat, by omega⟩
    subst hk
    have HF : Hid (valR env (k : Int) = env.getD k 0) := (if_neg (by omega)).trans (by rw [Int.toNat_natCast])
    have d1 : ((k : Int) == -1) = false := by simp
    obtain ⟨b, off, rfl, hb, hc⟩ := hR.2 (by omega)
    have k1 := hc k (by omega)
    generalize env.getD k 0 = v at k1 HF
    clear hc hR
    go_enter Tryd.func130, Tryd.ntmps130
    go_wp2
    go_ret
    exact ⟨by rw [HF.out]; rfl, rfl⟩

set_option maxRecDepth 100000 in
set_option maxHeartbeats 1600000 in
theorem conHolds_any (w : World) (B : Nat) (A : Option Addr) (c : Nat) (env : List Int) (U R V : Int) (hB : B ≤ w.heap.size) (hR : IntR w B A 5 env) (hok : Cs.cOk (U, R, V) = true) :
    Calls Tryd.prog 80 #[.agg #[.int .i64 U, .int .i64 R, .int .i64 V], .slice A 5 c] w fun e w' => e = .returned (.bool (holdR env (U, R, V))) ∧ Below w.heap.size w w' := by
  obtain ⟨W0, hW0⟩ : ∃ W, w.alloc (.cells #[.int .i64 U, .int .i64 R, .int .i64 V] 39) = W := ⟨_, rfl⟩
  have hb0 : Below w.heap.size w W0 := by rw [← hW0]; exact (Below.refl _ _).alloc (Nat.le_refl _) _
  have bc0 : Blk W0 w.heap.size 39 #[.int .i64 U, .int .i64 R, .int .i64 V] := by rw [← hW0]; exact Blk.made _ _ _
  have y0 : W0.cell? ⟨w.heap.size, 0, none⟩ = some (.int .i64 U) := bc0.cell 0
  have y1 : W0.cell? ⟨w.heap.size, 1, none⟩ = some (.int .i64 R) := bc0.cell 1
  have y2 : W0.cell? ⟨w.heap.size, 2, none⟩ = some (.int .i64 V) := bc0.cell 2
  have HB0 := Lib.hid hb0
  have HR := Lib.hid (hR.below (hb0.mono hB))
  have ho := (Cs.cOk_iff _).1 hok
  replace ho : (-1 ≤ U ∧ U < 5) ∧ (-1 ≤ V ∧ V < 5) ∧ 0 ≤ R ∧ R ≤ 2 := ho
  have HO := Lib.hid ho
  have hR2 := ho.2.2
  clear hb0 bc0 hR ho hok
  obtain ⟨x, hx⟩ : ∃ x, valR env U = x := ⟨_, rfl⟩
  obtain ⟨y, hy⟩ : ∃ y, valR env V = y := ⟨_, rfl⟩
  have HH : Hid (holdR env (U, R, V) = if R = 0 then decide (x ≤ y) else if R = 1 then decide (x < y) else (x == y)) := by
    show _ = _
    unfold holdR
    simp only [hx, hy]
  have HX := Lib.hid hx
  have HY := Lib.hid hy
  have SU : Hid (∀ m, Calls Tryd.prog 130 #[.int .i64 U, .slice A 5 c] (W0.drewN m) fun e w' => e = .returned (.int .i64 x) ∧ w' = W0.drewN m) := fun m => by
    rw [← HX.out]
    exact sideValue_any (W0.drewN m) B A c env U (HR.out.keep fun _ _ => rfl) HO.out.1.1 HO.out.1.2
  have SV : Hid (∀ m, Calls Tryd.prog 130 #[.int .i64 V, .slice A 5 c] (W0.drewN m) fun e w' => e = .returned (.int .i64 y) ∧ w' = W0.drewN m) := fun m => by
    rw [← HY.out]
    exact sideValue_any (W0.drewN m) B A c env V (HR.out.keep fun _ _ => rfl) HO.out.2.1.1 HO.out.2.1.2
  clear hx hy
  by_cases e1 : R = 1
  · have HF : Hid (holdR env (U, R, V) = decide (x < y)) := HH.out.trans ((if_neg (by omega)).trans (if_pos e1))
    subst e1
    go_enter Tryd.func80, Tryd.ntmps80
    go_wp2
    go_quiet (first | (go_at_call 130; first | (with_reducible refine Calls.quiet_of_same (SU.out _)) | (with_reducible refine Calls.quiet_of_same (SV.out _))))
    go_wp2
    go_ret
    exact ⟨by rw [HF.out]; rfl, ⟨HB0.out.os, HB0.out.tape, HB0.out.output, HB0.out.size, HB0.out.block⟩⟩
  · have d1 : (R == 1) = false := by simpa using e1
    by_cases e2 : R = 2
    · have HF : Hid (holdR env (U, R, V) = (x == y)) := HH.out.trans ((if_neg (by omega)).trans (if_neg (by omega)))
      subst e2
      go_enter Tryd.func80, Tryd.ntmps80
      go_wp2
      go_quiet (first | (go_at_call 130; first | (with_reducible refine Calls.quiet_of_same (SU.out _)) | (with_reducible refine Calls.quiet_of_same (SV.out _))))
      go_wp2
      go_ret
      exact ⟨by rw [HF.out]; rfl, ⟨HB0.out.os, HB0.out.tape, HB0.out.output, HB0.out.size, HB0.out.block⟩⟩
    · have HF : Hid (holdR env (U, R, V) = decide (x ≤ y)) := HH.out.trans (if_pos (by omega))
      have d2 : (R == 2) = false := by simpa using e2
      clear e1 e2
      go_enter Tryd.func80, Tryd.ntmps80
      go_wp2
      go_quiet (first | (go_at_call 130; first | (with_reducible refine Calls.quiet_of_same (SU.out _)) | (with_reducible refine Calls.quiet_of_same (SV.out _))))
      go_wp2
      go_ret
      exact ⟨by rw [HF.out]; rfl, ⟨HB0.out.os, HB0.out.tape, HB0.out.output, HB0.out.size, HB0.out.block⟩⟩

set_option maxRecDepth 100000 in
set_option maxHeartbeats 1600000 in
theorem implConHolds_any (w : World) (B : Nat) (A : Option Addr) (n c : Nat) (env : List Int) (U R V : Int) (hB : B ≤ w.heap.size) (hR : IntR w B A n env) (hn : (n : Int) ≤ 140737488355328) :
    Calls Tryd.prog 28 #[.agg #[.int .i64 U, .int .i64 R, .int .i64 V], .slice A n c] w fun e w' => e = .returned (.bool (conHoldsR (U, R, V) env)) ∧ Below w.heap.size w w' := by
  obtain ⟨W0, hW0⟩ : ∃ W, w.alloc (.cells #[.int .i64 U, .int .i64 R, .int .i64 V] 39) = W := ⟨_, rfl⟩
  have hb0 : Below w.heap.size w W0 := by rw [← hW0]; exact (Below.refl _ _).alloc (Nat.le_refl _) _
  have bc0 : Blk W0 w.heap.size 39 #[.int .i64 U, .int .i64 R, .int .i64 V] := by rw [← hW0]; exact Blk.made _ _ _
  have y0 : W0.cell? ⟨w.heap.size, 0, none⟩ = some (.int .i64 U) := bc0.cell 0
  have y1 : W0.cell? ⟨w.heap.size, 1, none⟩ = some (.int .i64 R) := bc0.cell 1
  have y2 : W0.cell? ⟨w.heap.size, 2, none⟩ = some (.int .i64 V) := bc0.cell 2
  have HB0 := Lib.hid hb0
  have HC0 := Lib.hid bc0
  have HR := Lib.hid (hR.below (hb0.mono hB))
  clear hb0 bc0 hR
  go_enter Tryd.func28, Tryd.ntmps28
  go_wp2_with fail
  refine (implConOk_any W0 U R V).mono ?_
  rintro e w1 ⟨rfl, hb1⟩
  have HB1 := Lib.hid (HB0.out.trans (hb1.mono HB0.out.size))
  have HC1 := Lib.hid (Blk.below HC0.out hb1 HC0.out.lt)
  have hlt := HC0.out.lt
  have hs1 := hb1.size
  have HR1 := Lib.hid (HR.out.below (hb1.mono (by omega)))
  clear hb1 y0 y1 y2 hW0
  have y0 : w1.cell? ⟨w.heap.size, 0, none⟩ = some (.int .i64 U) := HC1.out.cell 0
  have y1 : w1.cell? ⟨w.heap.size, 1, none⟩ = some (.int .i64 R) := HC1.out.cell 1
  have y2 : w1.cell? ⟨w.heap.size, 2, none⟩ = some (.int .i64 V) := HC1.out.cell 2
  cases h1 : Cs.cOk (U, R, V) with
  | false =>
    have HF : Hid (conHoldsR (U, R, V) env = false) := by show _ = _; unfold conHoldsR; rw [h1]; rfl
    clear h1
    go_wp2
    go_ret
    exact ⟨by rw [HF.out]; rfl, HB1.out⟩
  | true =>
    have H1 := Lib.hid h1
    clear h1
    go_wp2_with fail
    refine (envOk_any w1 B A n c env HR1.out hn).mono ?_
    rintro e w2 ⟨rfl, rfl⟩
    cases h2 : envOk env with
    | false =>
      have HF : Hid (conHoldsR (U, R, V) env = false) := by show _ = _; unfold conHoldsR; rw [H1.out, h2]; rfl
      clear h2
      go_wp2
      go_ret
      exact ⟨by rw [HF.out]; rfl, HB1.out⟩
    | true =>
      have HG : Hid (conHoldsR (U, R, V) env = holdR env (U, R, V)) := by show _ = _; unfold conHoldsR; rw [H1.out, h2, Bool.true_and, Bool.true_and]
      obtain rfl : n = 5 := by rw [← HR1.out.1]; exact envOk_len h2
      clear h2
      go_wp2_with fail
      refine (conHolds_any w1 B A c env U R V (by omega) HR1.out H1.out).mono ?_
      rintro e w3 ⟨rfl, hb3⟩
      have HB3 := Lib.hid (HB1.out.trans (hb3.mono HB1.out.size))
      clear hb3
      rw [← HG.out]
      go_wp2
      go_ret
      exact ⟨rfl, HB3.out⟩
end Go.Proofs.YtmbcjddahncocaaDoor

namespace Go.Proofs.YtmbcjddahncocaaDoor
open Cs (Cn)

theorem valR_of {env : List Int} {p : Int} (h : -1 ≤ p) : valR env p = Cs.valOf env (Cs.node p) := by
  unfold valR Cs.node
  by_cases e : p < 0
  · rw [if_pos e, show (p + 1).toNat = 0 by omega]
    rfl
  · rw [if_neg e, show (p + 1).toNat = p.toNat + 1 by omega]
    rfl
theorem hold_sat {env : List Int} {c : Cn} (hc : Cs.cOk c = true) : holdR env c = true ↔ Cs.Sat (Cs.valOf env) c := by
  have h := (Cs.cOk_iff c).1 hc
  unfold holdR Cs.Sat
  rw [valR_of h.1.1, valR_of h.2.1.1]
  split
  · simp
  · split
    · simp
    · simp
theorem envOk_pos {env : List Int} (h : envOk env = true) : env.length = 5 ∧ ∀ p, 0 ≤ env.getD p 0 := by
  unfold envOk at h
  simp only [Bool.and_eq_true, decide_eq_true_eq, List.all_eq_true] at h
  refine ⟨h.1, fun p => ?_⟩
  rw [List.getD_eq_getElem?_getD]
  cases hg : env[p]? with
  | none => exact Int.le_refl _
  | some x => exact (h.2 x (List.mem_of_getElem? hg)).1
theorem consHold_sat {l : List Cn} {env : List Int} (hok : consOkR l = true) (he : envOk env = true) : consHoldR l env = true ↔ Cs.SatAll (Cs.valOf env) l := by
  have h1 := (consOkR_ok hok).1
  unfold consHoldR
  rw [hok, he, Bool.true_and, Bool.true_and, List.all_eq_true]
  exact ⟨fun h => ⟨Cs.valOf_val (envOk_pos he).2, fun c hc => (hold_sat (h1 c hc)).1 (h c hc)⟩, fun h c hc => (hold_sat (h1 c hc)).2 (h.2 c hc)⟩
end Go.Proofs.YtmbcjddahncocaaDoor

namespace Go.Proofs.YtmbcjddahncocaaDoor
open Go.RowKit
open Cs (Cn Tb)

/-- indices as numbers -/
def natI (l : List Nat) : List Int := l.map fun (i : Nat) => (i : Int)
theorem natI_len (l : List Nat) : (natI l).length = l.length := by simp [natI]
/-- the walk's memory -/
structure CoreW (w : World) (n gb m : Nat) (A : Option Addr) (c : Nat) (out : List Int) (g : Nat → Bool) (wr : World) : Prop where
  own : OwnI wr w.heap.size A m c out
  gone : Blk wr gb 4 (goneA g n)
  bel : Below w.heap.size w wr
theorem CoreW.set {w wr : World} {n gb m c : Nat} {A : Option Addr} {out : List Int} {g : Nat → Bool} (h : CoreW w n gb m A c out g wr) (hg : w.heap.size ≤ gb) (i : Nat) (b : Bool) :
    CoreW w n gb m A c out (Cs.mark g i b) (wr.setCell ⟨gb, i, none⟩ (.bool b)) := by
  have hw : Wrote gb wr (wr.setCell ⟨gb, i, none⟩ (.bool b)) := Wrote.set _ _
  refine ⟨h.own.kept hw.1 (.inr (own_apart h.own h.gone (by decide))), ?_, hw.below h.bel h.bel.size hg⟩
  have := Blk.put h.gone i (.bool b)
  rw [goneA_set] at this
  exact this
theorem CoreW.later {w wr w' : World} {n gb m c : Nat} {A : Option Addr} {out : List Int} {g : Nat → Bool} (h : CoreW w n gb m A c out g wr) (hb : Below wr.heap.size wr w') : CoreW w n gb m A c out g w' :=
  ⟨own_below' h.own hb, Blk.below h.gone hb h.gone.lt, h.bel.trans (hb.mono h.bel.size)⟩

end Go.Proofs.YtmbcjddahncocaaDoor

namespace Go.Proofs.YtmbcjddahncocaaDoor
open Go.RowKit
open Cs (Cn Tb)

/-- a sign that the list excludes -/
def gS (l : List Cn) (S : Nat) : Bool := !Cs.flat (Cs.signed l fun p => Sg.has (S : Int) (p : Int))
/-- the answer of ConsSigns -/
def signsR (l : List Cn) : List Int := if consOkR l = true then natI (Cs.foundI (gS l) 32) else []
end Go.Proofs.YtmbcjddahncocaaDoor

namespace Go.Proofs.YtmbcjddahncocaaDoor
open Cs (Cn)

theorem signs_eq {l : List Cn} (hok : consOkR l = true) : signsR l = natI (Cs.foundI (gS l) 32) := if_pos hok
theorem natI_at {F : List Nat} {k : Nat} (hk : k < F.length) : (natI F).getD k 0 = ((F[k] : Nat) : Int) := by
  unfold natI
  rw [List.getD_eq_getElem?_getD, List.getElem?_map, List.getElem?_eq_getElem hk]
  rfl
theorem found_mem {g : Nat → Bool} {N S : Nat} (h : S ∈ Cs.foundI g N) : S < N ∧ g S = false := by
  unfold Cs.foundI at h
  rw [List.mem_filter, List.mem_range] at h
  exact ⟨h.1, by simpa using h.2⟩
theorem gS_no {l : List Cn} {S : Nat} (h : gS l S = false) : Cs.flat (Un.sgL l (S : Int)) = true := by
  unfold gS at h
  cases hf : Cs.flat (Un.sgL l (S : Int)) with
  | true => rfl
  | false =>
    rw [show Cs.flat (Cs.signed l fun p => Sg.has (S : Int) (p : Int)) = false from hf] at h
    cases h
end Go.Proofs.YtmbcjddahncocaaDoor

namespace Go.Proofs.YtmbcjddahncocaaDoor
open Go.RowKit
open Cs (Cn Tb)

theorem found_okS (l : List Cn) : Cs.foundI (gS l) 32 = (List.range 32).filter (Un.okS l) := by
  show (List.range 32).filter (fun i => !gS l i) = (List.range 32).filter (Un.okS l)
  refine List.filter_congr fun S _ => ?_
  show (!(!Cs.flat (Un.sgL l (S : Int)))) = Cs.flat (Un.sgL l (S : Int))
  exact Bool.not_not _
theorem getD_at {F : List Nat} {k : Nat} (hk : k < F.length) : F.getD k 0 = F[k] := by
  rw [List.getD_eq_getElem?_getD, List.getElem?_eq_getElem hk, Option.getD_some]

/-- comparison under constraints -/
noncomputable def leUnR (l : List Cn) (a b : List (Int × Int)) : Bool := consOkR l && (Lv.levelOk a && (Lv.levelOk b && (Un.exR l a b).isNone))
theorem leUnR_c {l : List Cn} {a b : List (Int × Int)} (h : consOkR l = false) : leUnR l a b = false := by unfold leUnR; rw [h]; rfl
theorem leUnR_a {l : List Cn} {a b : List (Int × Int)} (h : Lv.levelOk a = false) : leUnR l a b = false := by unfold leUnR; rw [h, Bool.false_and, Bool.and_false]
theorem leUnR_b {l : List Cn} {a b : List (Int × Int)} (h : Lv.levelOk b = false) : leUnR l a b = false := by unfold leUnR; rw [h, Bool.false_and, Bool.and_false, Bool.and_false]
theorem leUnR_y {l : List Cn} {a b : List (Int × Int)} (h : consOkR l = true) (h1 : Lv.levelOk a = true) (h2 : Lv.levelOk b = true) : leUnR l a b = (Un.exR l a b).isNone := by unfold leUnR; rw [h, h1, h2, Bool.true_and, Bool.true_and, Bool.true_and]
noncomputable def eqUnR (l : List Cn) (a b : List (Int × Int)) : Bool := leUnR l a b && leUnR l b a

end Go.Proofs.YtmbcjddahncocaaDoor

namespace Go.Proofs.YtmbcjddahncocaaDoor
open Nm (Pos)
open Cs (Cn)

theorem leUn_iff (l : List Cn) (a b : List (Int × Int)) : leUnR l a b = true ↔ consOkR l = true ∧ Lv.levelOk a = true ∧ Lv.levelOk b = true ∧ ∀ env : List Int, env.length = 5 → Pos env → Cs.SatAll (Cs.valOf env) l → Dc.ev env a ≤ Dc.ev env b := by
  constructor
  · intro h
    cases hc : consOkR l with
    | false => rw [leUnR_c hc] at h; cases h
    | true =>
      cases ha : Lv.levelOk a with
      | false => rw [leUnR_a ha] at h; cases h
      | true =>
        cases hb : Lv.levelOk b with
        | false => rw [leUnR_b hb] at h; cases h
        | true =>
          rw [leUnR_y hc ha hb, Option.isNone_iff_eq_none] at h
          exact ⟨rfl, rfl, rfl, (Un.un_sem (consOkR_ok hc).1 ha hb).1 h⟩
  · rintro ⟨hc, ha, hb, h⟩
    rw [leUnR_y hc ha hb, Option.isNone_iff_eq_none]
    exact (Un.un_sem (consOkR_ok hc).1 ha hb).2 h
/-- with no constraints it is LevelLe -/
theorem leUn_nil {a b : List (Int × Int)} (ha : Lv.levelOk a = true) (hb : Lv.levelOk b = true) : leUnR [] a b = Dc.leR a b := by
  rw [Bool.eq_iff_iff, leUn_iff, Dc.le_sem ha hb]
  constructor
  · rintro ⟨_, _, _, h⟩ env h5 hp
    exact h env h5 hp ⟨Cs.valOf_val fun p => hp.get p, fun c hc => by cases hc⟩
  · intro h
    exact ⟨rfl, ha, hb, fun env h5 hp _ => h env h5 hp⟩
end Go.Proofs.YtmbcjddahncocaaDoor

namespace Go.Proofs.YtmbcjddahncocaaDoor
open Go

theorem act_tmI (a : Array Value) (N : Nat) (h : a.size = N) : ({ tmps := a, defers := [] } : Act) = tm N (fun t => a.getD t undef) := by
  subst h
  unfold tm
  congr 1
  apply Array.ext (by simp)
  intro i h1 h2
  simp [Array.getD, h1]

theorem tm_getI {N t : Nat} (h : t < N) (f : Nat → Value) : (tm N f).tmps[t]?.getD undef = f t := by simp [tm, h]
section
variable {F : Fence} {n : Nat} {P : Program} {ops : Array Oper} {Q : Exit → Act → World → Prop}
/-- whatever order is picked, an invariant that each operation keeps holds at the end -/
theorem wpAnyIn_inv {md : Region.Mode} (I : Nat → Array Bool → Act → World → Prop)
    (hstep : ∀ k listed a w, k < ops.size → I k listed a w → ∀ i ∈ Region.ready md ops listed, wpOpIn F n P ops Q i (I (k + 1) (listed.setIfInBounds i true)) a w)
    (hend : ∀ k listed a w, k ≤ ops.size → I k listed a w → Region.ready md ops listed = [] → Q .normal a w) :
    ∀ (fuel k : Nat) (listed : Array Bool) (a : Act) (w : World), fuel + k = ops.size → listed.toList.count false ≤ fuel → I k listed a w → wpAnyIn F n P md ops Q fuel listed a w := by
  intro fuel
  induction fuel with
  | zero =>
    intro k listed a w hk hc hI
    have hr : Region.ready md ops listed = [] := by
      cases h : Region.ready md ops listed with
      | nil => rfl
      | cons x xs =>
        have := ready_pos (md := md) (ops := ops) (listed := listed) (i := x) (by rw [h]; simp)
        omega
    exact ⟨hr, hend k listed a w (by omega) hI hr⟩
  | succ fuel ih =>
    intro k listed a w hk hc hI
    refine ⟨hend k listed a w (by omega) hI, fun i hi => ?_⟩
    refine wpOpIn_mono (fun a' w' h => ih (k + 1) _ a' w' (by omega) ?_ h) (hstep k listed a w (by omega) hI i hi)
    have := count_listed (mem_ready.1 hi).1
    omega
theorem region_slots_in {id : Nat} (N : Nat) (f0 : Nat → Value) (G : Nat → (Nat → Bool) → (Nat → Value) → World → Prop) (C : Nat → Value → World → Prop) (R : World → World → Prop) {w : World}
    (hm : P.follows .mixedOrders = true) (hok : slotsOk ops = true) (h0 : G 0 (fun _ => false) f0 w.drew)
    (hkeep : ∀ i v w w', R w w' → C i v w → C i v w')
    (hstep : ∀ i o, ops[i]? = some o → ∀ k d f w, k < ops.size → d i = false → (∀ i j, d i = true → waitsFor ops i j = true → d j = true) → (∀ j, waitsFor ops i j = true → d j = true) → G k d f w → (∀ t, (∀ j, dstOf ops j = some t → d j = false) → f t = f0 t) → (∀ j, waitsFor ops i j = true → C j (slotV ops f j) w) →
      wpOpIn F n P ops Q i (fun a' w' => ∃ v, a' = (tm N f).put o.dst v ∧ R w w' ∧ G (k + 1) (mark d i) (upd f o.dst v) w' ∧ C i (match o.dst with | some _ => v | none => undef) w') (tm N f) w)
    (hend : ∀ k d f w, k ≤ ops.size → (∀ j, j < ops.size → d j = true) → G k d f w → (∀ t, (∀ j, dstOf ops j = some t → d j = false) → f t = f0 t) → (∀ j, j < ops.size → C j (slotV ops f j) w) → Q .normal (tm N f) w) :
    (Code.region id ops true).wpIn F n P Q (tm N f0) w := by
  refine wpIn_region_any hm ?_
  refine wpAnyIn_inv (fun k listed a w => listed.size = ops.size ∧ ∃ f, a = tm N f ∧ G k (fun j => listed.getD j false) f w ∧ (∀ i j, listed.getD i false = true → waitsFor ops i j = true → listed.getD j false = true) ∧ (∀ t, (∀ j, dstOf ops j = some t → listed.getD j false = false) → f t = f0 t) ∧ ∀ j, listed.getD j false = true → C j (slotV ops f j) w) ?_ ?_ ops.size 0 _ _ _ (by omega) ?_ ?_
  · rintro k listed a w hk ⟨hs, f, rfl, hG, hcl, hf, hC⟩ i hi
    obtain ⟨hun, o, ho, hdep⟩ := mem_ready.1 hi
    have hi' : i < ops.size := (Array.getElem?_eq_some_iff.1 ho).1
    have hun' : listed.getD i false = false := by simpa [Array.getD, hs, hi'] using hun
    have hw : ∀ j, waitsFor ops i j = true → listed.getD j false = true := fun j hj => by
      unfold waitsFor at hj
      rw [ho] at hj
      obtain ⟨e, he, hb⟩ := Array.any_eq_true'.1 hj
      simp only [Bool.and_eq_true, beq_iff_eq] at hb
      rw [← hb.2]
      exact hdep e he hb.1
    refine wpOpIn_mono ?_ (hstep i o ho k _ f w hk hun' hcl hw hG hf fun j hj => hC j (hw j hj))
    · rintro a' w' ⟨v, rfl, hR, hG', hCi⟩
      have hmk : mark (fun j => listed.getD j false) i = fun j => (listed.setIfInBounds i true).getD j false := by
        funext j
        unfold mark
        by_cases e : j = i
        · subst e; rw [if_pos rfl]; simp [Array.getD, hs, hi']
        · rw [if_neg e, getD_set_ne false (Ne.symm e)]
      rw [hmk] at hG'
      refine ⟨by simpa using hs, upd f o.dst v, tm_put N f o.dst v, hG', fun i' j' h1 h2 => ?_, fun t ht => ?_, fun j hj => ?_⟩
      · refine getD_set_true ?_
        by_cases e : i' = i
        · subst e
          unfold waitsFor at h2
          rw [ho] at h2
          obtain ⟨e, he, hb⟩ := Array.any_eq_true'.1 h2
          simp only [Bool.and_eq_true, beq_iff_eq] at hb
          rw [← hb.2]
          exact hdep e he hb.1
        · rw [getD_set_ne false (Ne.symm e)] at h1
          exact hcl i' j' h1 h2
      · have hti : o.dst ≠ some t := fun e => by
          have h1 := ht i (by simp [dstOf, ho, e])
          rw [show (listed.setIfInBounds i true).getD i false = true by simp [Array.getD, hs, hi']] at h1
          cases h1
        refine (upd_other f v hti).trans (hf t fun j hj => ?_)
        have h1 := ht j hj
        by_cases e : j = i
        · subst e; exact hun'
        · rwa [getD_set_ne false (Ne.symm e)] at h1
      · by_cases e : j = i
        · subst e
          have : slotV ops (upd f o.dst v) j = (match o.dst with | some _ => v | none => undef) := by
            unfold slotV dstOf
            rw [ho]
            simp only [Option.bind_some]
            cases hd : o.dst with
            | none => rfl
            | some t => exact upd_same f t v
          rw [this]
          exact hCi
        · rw [getD_set_ne false (Ne.symm e)] at hj
          have hj' : j < ops.size := by
            rcases Nat.lt_or_ge j listed.size with h | h
            · omega
            · simp [Array.getD, Nat.not_lt.2 h] at hj
          have : slotV ops (upd f o.dst v) j = slotV ops f j := by
            unfold slotV
            cases hd : dstOf ops j with
            | none => rfl
            | some t =>
              refine upd_other f v fun e' => ?_
              exact slotsOk_apart hok hj' hi' e hd (by simp [dstOf, ho, e'])
          rw [this]
          exact hkeep j _ w w' hR (hC j hj)
  · rintro k listed a w hk ⟨hs, f, rfl, hG, _, hf, hC⟩ hr
    have hall := ready_none hok hs hr
    exact hend k _ f w hk hall hG hf fun j hj => hC j (hall j hj)
  · simp
  · have hrep : ∀ j, (Array.replicate ops.size false).getD j false = false := fun j => by
      rcases Nat.lt_or_ge j ops.size with h | h
      · simp [Array.getD, h]
      · simp [Array.getD, Nat.not_lt.2 h]
    refine ⟨by simp, f0, rfl, ?_, (fun i j hi _ => by rw [hrep i] at hi; cases hi), fun _ _ => rfl, fun j hj => ?_⟩
    · rw [show (fun j => (Array.replicate ops.size false).getD j false) = fun _ => false from funext hrep]
      exact h0
    · rw [hrep j] at hj
      cases hj


end
section
variable {l n : Nat} {P : Program} {ops : Array Oper} {Q : Exit → Act → World → Prop}
/-- in a round behind the wide fence an operation that is no defer statement is carried out as everywhere -/
theorem oper_wi {o : Oper} {a : Act} {w : World} {K : Act → World → Prop} (hd : ∀ c, o.op ≠ .defer c) (h : o.wp P a w K Q) : o.wpIn (Fence.wide.inRound l) n P a w K Q := by
  refine ⟨fun _ _ => trivial, ?_⟩
  rw [Oper.semAt_plain _ _ _ hd]
  unfold Oper.wp at h
  generalize (execOp a.eval o).run P w = r at *
  cases r with
  | ok x w' =>
    cases x <;> simp only [Oper.upon] at h <;> simp only [Oper.uponIn]
    case value => exact h
    case skip => exact h
    case defer => exact h
    case enter f args => exact ⟨fun h0 => (by cases h0), CallsIn.inRound l (callsIn_wide.2 h)⟩
    case row row args =>
      refine ⟨fun h0 => (by cases h0), fun c cs _ => ?_⟩
      obtain ⟨v, w2, r, s⟩ := h c cs
      exact ⟨v, w2, r, stepsIn_wide.2 s⟩
  | halt x w' => cases x <;> simp only [Oper.upon] at h <;> simp only [Oper.uponIn] <;> exact h
theorem op_wi {i : Nat} {o : Oper} {a : Act} {w : World} {K : Act → World → Prop} (hi : ops[i]? = some o) (hg : o.guard = none) (hd : ∀ c, o.op ≠ .defer c)
    (h : ∀ K' : Act → World → Prop, (∀ a w, K a w → K' a w) → o.wp P a w K' Q) : wpOpIn (Fence.wide.inRound l) n P ops Q i K a w := by
  unfold wpOpIn
  rw [hi]
  simp only [Region.wanted, hg, if_true]
  exact oper_wi hd (h K fun _ _ h => h)
/-- a whole row stored in a round -/
theorem wpListIn_store_row {rest : List Oper} {o : Oper} {a : Act} {w : World} (hgd : o.guard = none) (ty : TypeId) (x y : Operand) (ho : o.op = .store ty x y)
    (g : Nat) (cells : Array Value) (hx : a.eval x = .pointer (some ⟨g, 0, none⟩)) (hy : a.eval y = .agg cells)
    (t : TypeId) (old : Array Value) (hg : w.heap[g]? = some (.cells old t (0, 0))) (hi : (P.info? ty).map (·.size) = some cells.size)
    (hold : old.size = cells.size) (h1 : cells.all (·.oneCell') = true)
    (h : wpListIn (Fence.wide.inRound l) n P ops Q rest (a.put o.dst undef) (w.setRow g cells)) : wpListIn (Fence.wide.inRound l) n P ops Q (o :: rest) a w :=
  wpListIn_plain hgd fun _ hK => oper_wi (by rw [ho]; intro c e; cases e) (wp_store_row ty x y ho g cells hx hy t old hg hi hold h1 (hK _ _ h))
end
end Go.Proofs.YtmbcjddahncocaaDoor
