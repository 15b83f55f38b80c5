/- AtomUnder of the reference model. -/
/- ConHolds and ConsHold, of the program and of the reference model. -/
/- Plain facts: what it is that a list of constraints holds in an env. -/
/- ConsCore of the reference model. -/
/- ConsSigns of the reference model. -/
/- Plain facts: what it is that a list of constraints holds in an env; the signs that it allows. -/
/- l06First, LeUnder and EqUnder of the reference model. -/
/- What LeUnder says of envs; a list split at a parameter; LevelLe. -/
/- What a constraint says, said by levels. -/
import Derived.Test.YtmbcjddahncocaaDoorUnAtom3
import Derived.Test.YtmbcjddahncocaaDoorSgHas
import Derived.BigQuiet
import Derived.Test.YtmbcjddahncocaaDoorGoodCons
import Derived.Test.YtmbcjddahncocaaDoorSlc
import Derived.Test.YtmbcjddahncocaaDoorROk
import Derived.Test.YtmbcjddahncocaaDoorUnAtom
import Derived.Test.YtmbcjddahncocaaDoorUnMath
import Derived.Test.YtmbcjddahncocaaDoorSRes2
import Derived.Test.YtmbcjddahncocaaDoorSpec
import Derived.Test.YtmbcjddahncocaaDoorCsMath7

namespace Go.Proofs.YtmbcjddahncocaaDoor
open Go.RowKit
open Cs (Cn Tb)

theorem signO_some (l : List Cn) (s : Int) : (signO l s).isSome = sgnB l s := by
  unfold signO
  cases h : sgnB l s
  · rfl
  · rfl

set_option maxRecDepth 100000 in
set_option maxHeartbeats 1600000 in
theorem specAtomUnder_any (w : World) (B b off n c : Nat) (l : List Cn) (s p x : Int) (A2 : Option Addr) (n2 c2 : Nat) (m : List (Int × Int)) (hB : B ≤ w.heap.size) (hl : ConR w B (some ⟨b, off, none⟩) n l) (hn : (n : Int) ≤ 140737488355328)
    (hm : TokR w B A2 n2 m) (hn2 : (n2 : Int) ≤ 140737488355328) :
    Calls Tryd.prog 39 #[.slice (some ⟨b, off, none⟩) n c, .int .i64 s, .agg #[.int .i64 p, .int .i64 x], .slice A2 n2 c2] w fun e w' => e = .returned (.bool (atmR l s (p, x) m)) ∧ Below w.heap.size w w' := by
  obtain ⟨W0, hW0⟩ : ∃ W, w.alloc (.cells #[.int .i64 p, .int .i64 x] 68) = W := ⟨_, rfl⟩
  have hs0 : W0.heap.size = w.heap.size + 1 := by rw [← hW0]; simp
  have HB0 : Hid (Below w.heap.size w W0) := by show Below _ _ _; rw [← hW0]; exact (Below.refl _ _).alloc (Nat.le_refl _) _
  have HK0 : Hid (Blk W0 w.heap.size 68 #[.int .i64 p, .int .i64 x]) := by show Blk _ _ _ _; rw [← hW0]; exact Blk.made _ _ _
  have HL := Lib.hid (hl.below (HB0.out.mono hB))
  have HM := Lib.hid (hm.below (HB0.out.mono hB))
  clear hl hm
  go_enter Tryd.func39, Tryd.ntmps39
  go_wp2_with fail
  refine (specSignEnv_any W0 B b off n c l s (by omega) HL.out hn).mono ?_
  rintro e w1 hres
  clear hW0
  obtain ⟨hb1, hv⟩ : Below W0.heap.size W0 w1 ∧ ∃ v, e = .returned (.tuple #[v, .bool (sgnB l s)]) := by
    obtain ⟨A, c0, he, _, hb⟩ := hres
    rw [signO_some] at he
    exact ⟨hb, _, he⟩
  obtain ⟨v0, rfl⟩ := hv
  clear hres
  have HB1 := Lib.hid (HB0.out.trans (hb1.mono HB0.out.size))
  have HK1 := Lib.hid (Blk.below HK0.out hb1 HK0.out.lt)
  have HM1 := Lib.hid (HM.out.below (hb1.mono (by omega)))
  have HL1 := Lib.hid (HL.out.below (hb1.mono (by omega)))
  have hs1 := hb1.size
  clear hb1
  cases h1 : sgnB l s with
  | false =>
    have HF := Lib.hid (atmR_sgn (x := (p, x)) (n := m) h1)
    clear h1
    go_wp2
    go_ret
    exact ⟨by rw [HF.out]; rfl, HB1.out⟩
  | true =>
    have H1 := Lib.hid h1
    clear h1
    have z0 : w1.cell? ⟨w.heap.size, 0, none⟩ = some (.int .i64 p) := HK1.out.cell 0
    have z1 : w1.cell? ⟨w.heap.size, 1, none⟩ = some (.int .i64 x) := HK1.out.cell 1
    obtain ⟨W3, hW3⟩ : ∃ W, w1.alloc (.cells #[.int .i64 p, .int .i64 x] 68) = W := ⟨_, rfl⟩
    have hb3 : Below w1.heap.size w1 W3 := by rw [← hW3]; exact (Below.refl _ _).alloc (Nat.le_refl _) _
    have hs3 : W3.heap.size = w1.heap.size + 1 := by rw [← hW3]; simp
    have HO3 : Hid (TokR W3 (w1.heap.size + 1) (some ⟨w1.heap.size, 0, none⟩) 1 [(p, x)]) := by show TokR _ _ _ _ _; rw [← hW3]; exact tokR_one w1 p x
    have HB3 := Lib.hid (HB1.out.trans (hb3.mono HB1.out.size))
    have HK3 := Lib.hid (Blk.below HK1.out hb3 HK1.out.lt)
    have HM3 := Lib.hid (HM1.out.below (hb3.mono (by omega)))
    have HL3 := Lib.hid (HL1.out.below (hb3.mono (by omega)))
    clear hb3
    go_wp2_with fail
    clear z0 z1 hW3
    refine (specResidOk_any W3 (w1.heap.size + 1) (some ⟨w1.heap.size, 0, none⟩) 1 1 [(p, x)] s (by omega) HO3.out (by omega)).mono ?_
    rintro e w4 ⟨rfl, hb4⟩
    have HB4 := Lib.hid (HB3.out.trans (hb4.mono HB3.out.size))
    have HK4 := Lib.hid (Blk.below HK3.out hb4 HK3.out.lt)
    have HM4 := Lib.hid (HM3.out.below (hb4.mono (by omega)))
    have HL4 := Lib.hid (HL3.out.below (hb4.mono (by omega)))
    have hs4 := hb4.size
    clear hb4
    cases h2 : Nm.residOk s [(p, x)] with
    | false =>
      have HF := Lib.hid (atmR_x (l := l) (n := m) h2)
      clear h2
      go_wp2
      go_ret
      exact ⟨by rw [HF.out]; rfl, HB4.out⟩
    | true =>
      have H2 := Lib.hid h2
      have HPB := Lib.hid (residOk_one h2)
      clear h2
      go_wp2_with fail
      refine (specResidOk_any w4 B A2 n2 c2 m s (by omega) HM4.out hn2).mono ?_
      rintro e w5 ⟨rfl, hb5⟩
      have HB5 := Lib.hid (HB4.out.trans (hb5.mono HB4.out.size))
      have HK5 := Lib.hid (Blk.below HK4.out hb5 HK4.out.lt)
      have HM5 := Lib.hid (HM4.out.below (hb5.mono (by omega)))
      have HL5 := Lib.hid (HL4.out.below (hb5.mono (by omega)))
      have hs5 := hb5.size
      clear hb5
      cases h3 : Nm.residOk s m with
      | false =>
        have HF := Lib.hid (atmR_n (l := l) (x := (p, x)) h3)
        clear h3
        go_wp2
        go_ret
        exact ⟨by rw [HF.out]; rfl, HB5.out⟩
      | true =>
        have HF := Lib.hid (atmR_yes H1.out H2.out h3)
        have HOM := Lib.hid (residOk_all h3)
        have HFL := Lib.hid (sgnB_flat H1.out)
        have HTB : Hid (∀ i j, -1 ≤ Cs.tab (Un.sgL l s) i j ∧ Cs.tab (Un.sgL l s) i j ≤ 1000) :=
          fun i j => ⟨(Cs.tab_bd HFL.out i j).1, Int.le_trans (Cs.tab_bd HFL.out i j).2 (by decide)⟩
        have HC0 : Hid (consOkR l = true) := sgnB_cons H1.out
        have HP := Lib.hid (consOk_parts HC0.out)
        have hn24 : n ≤ 24 := by have h := (consOkR_ok HC0.out).2; rw [HL.out.1] at h; exact h
        clear h3
        go_wp2_with fail
        refine (l05Signed_any w5 B b off n c l s (by omega) HL5.out (by omega)).mono ?_
        rintro e w6 ⟨g6, c6, rfl, ho6, hb6⟩
        have HB6 := Lib.hid (HB5.out.trans (hb6.mono HB5.out.size))
        have HK6 := Lib.hid (Blk.below HK5.out hb6 HK5.out.lt)
        have HM6 := Lib.hid (HM5.out.below (hb6.mono (by omega)))
        have HR6 := Lib.hid (OwnC.reads ho6)
        have hs6 := hb6.size
        clear ho6 hb6
        go_wp2_with fail
        refine (l05Paths_any w6 w6.heap.size (some ⟨g6, 0, none⟩) (n + 5) c6 (Un.sgL l s) (Nat.le_refl _) HR6.out (Cs.signed_ok HP.out.1 _) (by omega)).mono ?_
        rintro e w7 ⟨hb7, ⟨hf, g, cap, rw', cp, rfl, ht⟩ | ⟨hf, rfl⟩⟩
        · have HB7 := Lib.hid (HB6.out.trans (hb7.mono HB6.out.size))
          have HK7 := Lib.hid (Blk.below HK6.out hb7 HK6.out.lt)
          have HM7 := Lib.hid (HM6.out.below (hb7.mono (by omega)))
          have HT7 := Lib.hid ht
          have hs7 := hb7.size
          clear hb7 ht hf
          have z0 : w7.cell? ⟨w.heap.size, 0, none⟩ = some (.int .i64 p) := HK7.out.cell 0
          have z1 : w7.cell? ⟨w.heap.size, 1, none⟩ = some (.int .i64 x) := HK7.out.cell 1
          obtain ⟨T, hT⟩ : ∃ T, Cs.tab (Un.sgL l s) = T := ⟨_, rfl⟩
          rw [hT] at HT7 HF HTB
          clear hT
          go_wp2_with fail
          refine (l06Atom_any w7 B w6.heap.size g cap rw' cp T p x A2 n2 c2 m (by omega) HT7.out HM7.out hn2 HOM.out HPB.out.1 HPB.out.2 HTB.out).mono ?_
          rintro e w8 ⟨rfl, hb8⟩
          have HB8 := Lib.hid (HB7.out.trans (hb8.mono HB7.out.size))
          obtain ⟨R, hR⟩ : ∃ R, Un.atB T (p, x) m = R := ⟨_, rfl⟩
          rw [hR] at HF ⊢
          clear hb8 hR z0 z1
          go_wp2
          go_ret
          exact ⟨by rw [HF.out]; rfl, HB8.out⟩
        · exact absurd (hf.symm.trans HFL.out) (by decide)
end Go.Proofs.YtmbcjddahncocaaDoor

namespace Go.Proofs.YtmbcjddahncocaaDoor
open Go.RowKit
open Cs (Cn)

theorem IntOwn.below {w w' : World} {g n B : Nat} {l : List Int} (h : IntOwn w g n l) (hb : Below B w w') (hg : g < B) : IntOwn w' g n l := by
  obtain ⟨hl, cs, hblk, rest⟩ := h
  exact ⟨hl, cs, hblk.below hb hg, rest⟩
/-- the value of a side in an env -/
def valR (env : List Int) (p : Int) : Int := if p < 0 then 0 else env.getD p.toNat 0
/-- whether a constraint is satisfied in an env -/
def holdR (env : List Int) (c : Cn) : Bool := if c.2.1 = 0 then decide (valR env c.1 ≤ valR env c.2.2) else if c.2.1 = 1 then decide (valR env c.1 < valR env c.2.2) else (valR env c.1 == valR env c.2.2)
def conHoldsR (c : Cn) (env : List Int) : Bool := Cs.cOk c && envOk env && holdR env c
def consHoldR (l : List Cn) (env : List Int) : Bool := consOkR l && envOk env && l.all (holdR env)
theorem envOk_len {env : List Int} (h : envOk env = true) : env.length = 5 := by
  unfold envOk at h
  rw [Bool.and_eq_true] at h
  simpa using h.1

set_option maxHeartbeats 400000 in
theorem sideValue_any (w : World) (B : Nat) (A : Option Addr) (c : Nat) (env : List Int) (p : Int) (hR : IntR w B A 5 env) (h0 : -1 ≤ p) (h5 : p < 5) :
    Calls Tryd.prog 130 #[.int .i64 p, .slice A 5 c] w fun e w' => e = .returned (.int .i64 (valR env p)) ∧ w' = w := by
  by_cases hn : p = -1
  · have HF : Hid (valR env p = 0) := if_pos (by omega)
    subst hn
    go_enter Tryd.func130, Tryd.ntmps130
    go_wp2
    go_ret
    exact ⟨by rw [HF.out]; rfl, rfl⟩
  · obtain ⟨k, hk⟩ : ∃ k : Nat, p = k := ⟨p.toNat, by omega⟩
    subst hk
    have HF : Hid (valR env (k : Int) = env.getD k 0) := (if_neg (by omega)).trans (by rw [Int.toNat_natCast])
    have d1 : ((k : Int) == -1) = false := by simp
    obtain ⟨b, off, rfl, hb, hc⟩ := hR.2 (by omega)
    have k1 := hc k (by omega)
    generalize env.getD k 0 = v at k1 HF
    clear hc hR
    go_enter Tryd.func130, Tryd.ntmps130
    go_wp2
    go_ret
    exact ⟨by rw [HF.out]; rfl, rfl⟩

set_option maxRecDepth 100000 in
set_option maxHeartbeats 1600000 in
theorem conHolds_any (w : World) (B : Nat) (A : Option Addr) (c : Nat) (env : List Int) (U R V : Int) (hB : B ≤ w.heap.size) (hR : IntR w B A 5 env) (hok : Cs.cOk (U, R, V) = true) :
    Calls Tryd.prog 80 #[.agg #[.int .i64 U, .int .i64 R, .int .i64 V], .slice A 5 c] w fun e w' => e = .returned (.bool (holdR env (U, R, V))) ∧ Below w.heap.size w w' := by
  obtain ⟨W0, hW0⟩ : ∃ W, w.alloc (.cells #[.int .i64 U, .int .i64 R, .int .i64 V] 39) = W := ⟨_, rfl⟩
  have hb0 : Below w.heap.size w W0 := by rw [← hW0]; exact (Below.refl _ _).alloc (Nat.le_refl _) _
  have bc0 : Blk W0 w.heap.size 39 #[.int .i64 U, .int .i64 R, .int .i64 V] := by rw [← hW0]; exact Blk.made _ _ _
  have y0 : W0.cell? ⟨w.heap.size, 0, none⟩ = some (.int .i64 U) := bc0.cell 0
  have y1 : W0.cell? ⟨w.heap.size, 1, none⟩ = some (.int .i64 R) := bc0.cell 1
  have y2 : W0.cell? ⟨w.heap.size, 2, none⟩ = some (.int .i64 V) := bc0.cell 2
  have HB0 := Lib.hid hb0
  have HR := Lib.hid (hR.below (hb0.mono hB))
  have ho := (Cs.cOk_iff _).1 hok
  replace ho : (-1 ≤ U ∧ U < 5) ∧ (-1 ≤ V ∧ V < 5) ∧ 0 ≤ R ∧ R ≤ 2 := ho
  have HO := Lib.hid ho
  have hR2 := ho.2.2
  clear hb0 bc0 hR ho hok
  obtain ⟨x, hx⟩ : ∃ x, valR env U = x := ⟨_, rfl⟩
  obtain ⟨y, hy⟩ : ∃ y, valR env V = y := ⟨_, rfl⟩
  have HH : Hid (holdR env (U, R, V) = if R = 0 then decide (x ≤ y) else if R = 1 then decide (x < y) else (x == y)) := by
    show _ = _
    unfold holdR
    simp only [hx, hy]
  have HX := Lib.hid hx
  have HY := Lib.hid hy
  have SU : Hid (∀ m, Calls Tryd.prog 130 #[.int .i64 U, .slice A 5 c] (W0.drewN m) fun e w' => e = .returned (.int .i64 x) ∧ w' = W0.drewN m) := fun m => by
    rw [← HX.out]
    exact sideValue_any (W0.drewN m) B A c env U (HR.out.keep fun _ _ => rfl) HO.out.1.1 HO.out.1.2
  have SV : Hid (∀ m, Calls Tryd.prog 130 #[.int .i64 V, .slice A 5 c] (W0.drewN m) fun e w' => e = .returned (.int .i64 y) ∧ w' = W0.drewN m) := fun m => by
    rw [← HY.out]
    exact sideValue_any (W0.drewN m) B A c env V (HR.out.keep fun _ _ => rfl) HO.out.2.1.1 HO.out.2.1.2
  clear hx hy
  by_cases e1 : R = 1
  · have HF : Hid (holdR env (U, R, V) = decide (x < y)) := HH.out.trans ((if_neg (by omega)).trans (if_pos e1))
    subst e1
    go_enter Tryd.func80, Tryd.ntmps80
    go_wp2
    go_quiet (first | (go_at_call 130; first | (with_reducible refine Calls.quiet_of_same (SU.out _)) | (with_reducible refine Calls.quiet_of_same (SV.out _))))
    go_wp2
    go_ret
    exact ⟨by rw [HF.out]; rfl, ⟨HB0.out.os, HB0.out.tape, HB0.out.output, HB0.out.size, HB0.out.block⟩⟩
  · have d1 : (R == 1) = false := by simpa using e1
    by_cases e2 : R = 2
    · have HF : Hid (holdR env (U, R, V) = (x == y)) := HH.out.trans ((if_neg (by omega)).trans (if_neg (by omega)))
      subst e2
      go_enter Tryd.func80, Tryd.ntmps80
      go_wp2
      go_quiet (first | (go_at_call 130; first | (with_reducible refine Calls.quiet_of_same (SU.out _)) | (with_reducible refine Calls.quiet_of_same (SV.out _))))
      go_wp2
      go_ret
      exact ⟨by rw [HF.out]; rfl, ⟨HB0.out.os, HB0.out.tape, HB0.out.output, HB0.out.size, HB0.out.block⟩⟩
    · have HF : Hid (holdR env (U, R, V) = decide (x ≤ y)) := HH.out.trans (if_pos (by omega))
      have d2 : (R == 2) = false := by simpa using e2
      clear e1 e2
      go_enter Tryd.func80, Tryd.ntmps80
      go_wp2
      go_quiet (first | (go_at_call 130; first | (with_reducible refine Calls.quiet_of_same (SU.out _)) | (with_reducible refine Calls.quiet_of_same (SV.out _))))
      go_wp2
      go_ret
      exact ⟨by rw [HF.out]; rfl, ⟨HB0.out.os, HB0.out.tape, HB0.out.output, HB0.out.size, HB0.out.block⟩⟩

set_option maxRecDepth 100000 in
set_option maxHeartbeats 1600000 in
theorem implConHolds_any (w : World) (B : Nat) (A : Option Addr) (n c : Nat) (env : List Int) (U R V : Int) (hB : B ≤ w.heap.size) (hR : IntR w B A n env) (hn : (n : Int) ≤ 140737488355328) :
    Calls Tryd.prog 28 #[.agg #[.int .i64 U, .int .i64 R, .int .i64 V], .slice A n c] w fun e w' => e = .returned (.bool (conHoldsR (U, R, V) env)) ∧ Below w.heap.size w w' := by
  obtain ⟨W0, hW0⟩ : ∃ W, w.alloc (.cells #[.int .i64 U, .int .i64 R, .int .i64 V] 39) = W := ⟨_, rfl⟩
  have hb0 : Below w.heap.size w W0 := by rw [← hW0]; exact (Below.refl _ _).alloc (Nat.le_refl _) _
  have bc0 : Blk W0 w.heap.size 39 #[.int .i64 U, .int .i64 R, .int .i64 V] := by rw [← hW0]; exact Blk.made _ _ _
  have y0 : W0.cell? ⟨w.heap.size, 0, none⟩ = some (.int .i64 U) := bc0.cell 0
  have y1 : W0.cell? ⟨w.heap.size, 1, none⟩ = some (.int .i64 R) := bc0.cell 1
  have y2 : W0.cell? ⟨w.heap.size, 2, none⟩ = some (.int .i64 V) := bc0.cell 2
  have HB0 := Lib.hid hb0
  have HC0 := Lib.hid bc0
  have HR := Lib.hid (hR.below (hb0.mono hB))
  clear hb0 bc0 hR
  go_enter Tryd.func28, Tryd.ntmps28
  go_wp2_with fail
  refine (implConOk_any W0 U R V).mono ?_
  rintro e w1 ⟨rfl, hb1⟩
  have HB1 := Lib.hid (HB0.out.trans (hb1.mono HB0.out.size))
  have HC1 := Lib.hid (Blk.below HC0.out hb1 HC0.out.lt)
  have hlt := HC0.out.lt
  have hs1 := hb1.size
  have HR1 := Lib.hid (HR.out.below (hb1.mono (by omega)))
  clear hb1 y0 y1 y2 hW0
  have y0 : w1.cell? ⟨w.heap.size, 0, none⟩ = some (.int .i64 U) := HC1.out.cell 0
  have y1 : w1.cell? ⟨w.heap.size, 1, none⟩ = some (.int .i64 R) := HC1.out.cell 1
  have y2 : w1.cell? ⟨w.heap.size, 2, none⟩ = some (.int .i64 V) := HC1.out.cell 2
  cases h1 : Cs.cOk (U, R, V) with
  | false =>
    have HF : Hid (conHoldsR (U, R, V) env = false) := by show _ = _; unfold conHoldsR; rw [h1]; rfl
    clear h1
    go_wp2
    go_ret
    exact ⟨by rw [HF.out]; rfl, HB1.out⟩
  | true =>
    have H1 := Lib.hid h1
    clear h1
    go_wp2_with fail
    refine (envOk_any w1 B A n c env HR1.out hn).mono ?_
    rintro e w2 ⟨rfl, rfl⟩
    cases h2 : envOk env with
    | false =>
      have HF : Hid (conHoldsR (U, R, V) env = false) := by show _ = _; unfold conHoldsR; rw [H1.out, h2]; rfl
      clear h2
      go_wp2
      go_ret
      exact ⟨by rw [HF.out]; rfl, HB1.out⟩
    | true =>
      have HG : Hid (conHoldsR (U, R, V) env = holdR env (U, R, V)) := by show _ = _; unfold conHoldsR; rw [H1.out, h2, Bool.true_and, Bool.true_and]
      obtain rfl : n = 5 := by rw [← HR1.out.1]; exact envOk_len h2
      clear h2
      go_wp2_with fail
      refine (conHolds_any w1 B A c env U R V (by omega) HR1.out H1.out).mono ?_
      rintro e w3 ⟨rfl, hb3⟩
      have HB3 := Lib.hid (HB1.out.trans (hb3.mono HB1.out.size))
      clear hb3
      rw [← HG.out]
      go_wp2
      go_ret
      exact ⟨rfl, HB3.out⟩
end Go.Proofs.YtmbcjddahncocaaDoor

namespace Go.Proofs.YtmbcjddahncocaaDoor
open Cs (Cn)

theorem valR_of {env : List Int} {p : Int} (h : -1 ≤ p) : valR env p = Cs.valOf env (Cs.node p) := by
  unfold valR Cs.node
  by_cases e : p < 0
  · rw [if_pos e, show (p + 1).toNat = 0 by omega]
    rfl
  · rw [if_neg e, show (p + 1).toNat = p.toNat + 1 by omega]
    rfl
theorem hold_sat {env : List Int} {c : Cn} (hc : Cs.cOk c = true) : holdR env c = true ↔ Cs.Sat (Cs.valOf env) c := by
  have h := (Cs.cOk_iff c).1 hc
  unfold holdR Cs.Sat
  rw [valR_of h.1.1, valR_of h.2.1.1]
  split
  · simp
  · split
    · simp
    · simp
theorem envOk_pos {env : List Int} (h : envOk env = true) : env.length = 5 ∧ ∀ p, 0 ≤ env.getD p 0 := by
  unfold envOk at h
  simp only [Bool.and_eq_true, decide_eq_true_eq, List.all_eq_true] at h
  refine ⟨h.1, fun p => ?_⟩
  rw [List.getD_eq_getElem?_getD]
  cases hg : env[p]? with
  | none => exact Int.le_refl _
  | some x => exact (h.2 x (List.mem_of_getElem? hg)).1
theorem consHold_sat {l : List Cn} {env : List Int} (hok : consOkR l = true) (he : envOk env = true) : consHoldR l env = true ↔ Cs.SatAll (Cs.valOf env) l := by
  have h1 := (consOkR_ok hok).1
  unfold consHoldR
  rw [hok, he, Bool.true_and, Bool.true_and, List.all_eq_true]
  exact ⟨fun h => ⟨Cs.valOf_val (envOk_pos he).2, fun c hc => (hold_sat (h1 c hc)).1 (h c hc)⟩, fun h c hc => (hold_sat (h1 c hc)).2 (h.2 c hc)⟩
end Go.Proofs.YtmbcjddahncocaaDoor

namespace Go.Proofs.YtmbcjddahncocaaDoor
open Go.RowKit
open Cs (Cn Tb)

/-- indices as numbers -/
def natI (l : List Nat) : List Int := l.map fun (i : Nat) => (i : Int)
theorem natI_len (l : List Nat) : (natI l).length = l.length := by simp [natI]
/-- the walk's memory -/
structure CoreW (w : World) (n gb m : Nat) (A : Option Addr) (c : Nat) (out : List Int) (g : Nat → Bool) (wr : World) : Prop where
  own : OwnI wr w.heap.size A m c out
  gone : Blk wr gb 4 (goneA g n)
  bel : Below w.heap.size w wr
theorem CoreW.set {w wr : World} {n gb m c : Nat} {A : Option Addr} {out : List Int} {g : Nat → Bool} (h : CoreW w n gb m A c out g wr) (hg : w.heap.size ≤ gb) (i : Nat) (b : Bool) :
    CoreW w n gb m A c out (Cs.mark g i b) (wr.setCell ⟨gb, i, none⟩ (.bool b)) := by
  have hw : Wrote gb wr (wr.setCell ⟨gb, i, none⟩ (.bool b)) := Wrote.set _ _
  refine ⟨h.own.kept hw.1 (.inr (own_apart h.own h.gone (by decide))), ?_, hw.below h.bel h.bel.size hg⟩
  have := Blk.put h.gone i (.bool b)
  rw [goneA_set] at this
  exact this
theorem CoreW.later {w wr w' : World} {n gb m c : Nat} {A : Option Addr} {out : List Int} {g : Nat → Bool} (h : CoreW w n gb m A c out g wr) (hb : Below wr.heap.size wr w') : CoreW w n gb m A c out g w' :=
  ⟨own_below' h.own hb, Blk.below h.gone hb h.gone.lt, h.bel.trans (hb.mono h.bel.size)⟩

end Go.Proofs.YtmbcjddahncocaaDoor

namespace Go.Proofs.YtmbcjddahncocaaDoor
open Go.RowKit
open Cs (Cn Tb)

/-- a sign that the list excludes -/
def gS (l : List Cn) (S : Nat) : Bool := !Cs.flat (Cs.signed l fun p => Sg.has (S : Int) (p : Int))
/-- the answer of ConsSigns -/
def signsR (l : List Cn) : List Int := if consOkR l = true then natI (Cs.foundI (gS l) 32) else []
end Go.Proofs.YtmbcjddahncocaaDoor

namespace Go.Proofs.YtmbcjddahncocaaDoor
open Cs (Cn)

theorem signs_eq {l : List Cn} (hok : consOkR l = true) : signsR l = natI (Cs.foundI (gS l) 32) := if_pos hok
theorem natI_at {F : List Nat} {k : Nat} (hk : k < F.length) : (natI F).getD k 0 = ((F[k] : Nat) : Int) := by
  unfold natI
  rw [List.getD_eq_getElem?_getD, List.getElem?_map, List.getElem?_eq_getElem hk]
  rfl
theorem found_mem {g : Nat → Bool} {N S : Nat} (h : S ∈ Cs.foundI g N) : S < N ∧ g S = false := by
  unfold Cs.foundI at h
  rw [List.mem_filter, List.mem_range] at h
  exact ⟨h.1, by simpa using h.2⟩
theorem gS_no {l : List Cn} {S : Nat} (h : gS l S = false) : Cs.flat (Un.sgL l (S : Int)) = true := by
  unfold gS at h
  cases hf : Cs.flat (Un.sgL l (S : Int)) with
  | true => rfl
  | false =>
    rw [show Cs.flat (Cs.signed l fun p => Sg.has (S : Int) (p : Int)) = false from hf] at h
    cases h
end Go.Proofs.YtmbcjddahncocaaDoor

namespace Go.Proofs.YtmbcjddahncocaaDoor
open Go.RowKit
open Cs (Cn Tb)

theorem found_okS (l : List Cn) : Cs.foundI (gS l) 32 = (List.range 32).filter (Un.okS l) := by
  show (List.range 32).filter (fun i => !gS l i) = (List.range 32).filter (Un.okS l)
  refine List.filter_congr fun S _ => ?_
  show (!(!Cs.flat (Un.sgL l (S : Int)))) = Cs.flat (Un.sgL l (S : Int))
  exact Bool.not_not _
theorem getD_at {F : List Nat} {k : Nat} (hk : k < F.length) : F.getD k 0 = F[k] := by
  rw [List.getD_eq_getElem?_getD, List.getElem?_eq_getElem hk, Option.getD_some]

/-- comparison under constraints -/
noncomputable def leUnR (l : List Cn) (a b : List (Int × Int)) : Bool := consOkR l && (Lv.levelOk a && (Lv.levelOk b && (Un.exR l a b).isNone))
theorem leUnR_c {l : List Cn} {a b : List (Int × Int)} (h : consOkR l = false) : leUnR l a b = false := by unfold leUnR; rw [h]; rfl
theorem leUnR_a {l : List Cn} {a b : List (Int × Int)} (h : Lv.levelOk a = false) : leUnR l a b = false := by unfold leUnR; rw [h, Bool.false_and, Bool.and_false]
theorem leUnR_b {l : List Cn} {a b : List (Int × Int)} (h : Lv.levelOk b = false) : leUnR l a b = false := by unfold leUnR; rw [h, Bool.false_and, Bool.and_false, Bool.and_false]
theorem leUnR_y {l : List Cn} {a b : List (Int × Int)} (h : consOkR l = true) (h1 : Lv.levelOk a = true) (h2 : Lv.levelOk b = true) : leUnR l a b = (Un.exR l a b).isNone := by unfold leUnR; rw [h, h1, h2, Bool.true_and, Bool.true_and, Bool.true_and]
noncomputable def eqUnR (l : List Cn) (a b : List (Int × Int)) : Bool := leUnR l a b && leUnR l b a

end Go.Proofs.YtmbcjddahncocaaDoor

namespace Go.Proofs.YtmbcjddahncocaaDoor
open Nm (Pos)
open Cs (Cn)

theorem leUn_iff (l : List Cn) (a b : List (Int × Int)) : leUnR l a b = true ↔ consOkR l = true ∧ Lv.levelOk a = true ∧ Lv.levelOk b = true ∧ ∀ env : List Int, env.length = 5 → Pos env → Cs.SatAll (Cs.valOf env) l → Dc.ev env a ≤ Dc.ev env b := by
  constructor
  · intro h
    cases hc : consOkR l with
    | false => rw [leUnR_c hc] at h; cases h
    | true =>
      cases ha : Lv.levelOk a with
      | false => rw [leUnR_a ha] at h; cases h
      | true =>
        cases hb : Lv.levelOk b with
        | false => rw [leUnR_b hb] at h; cases h
        | true =>
          rw [leUnR_y hc ha hb, Option.isNone_iff_eq_none] at h
          exact ⟨rfl, rfl, rfl, (Un.un_sem (consOkR_ok hc).1 ha hb).1 h⟩
  · rintro ⟨hc, ha, hb, h⟩
    rw [leUnR_y hc ha hb, Option.isNone_iff_eq_none]
    exact (Un.un_sem (consOkR_ok hc).1 ha hb).2 h
/-- with no constraints it is LevelLe -/
theorem leUn_nil {a b : List (Int × Int)} (ha : Lv.levelOk a = true) (hb : Lv.levelOk b = true) : leUnR [] a b = Dc.leR a b := by
  rw [Bool.eq_iff_iff, leUn_iff, Dc.le_sem ha hb]
  constructor
  · rintro ⟨_, _, _, h⟩ env h5 hp
    exact h env h5 hp ⟨Cs.valOf_val fun p => hp.get p, fun c hc => by cases hc⟩
  · intro h
    exact ⟨rfl, ha, hb, fun env h5 hp _ => h env h5 hp⟩
end Go.Proofs.YtmbcjddahncocaaDoor

namespace Go.Proofs.YtmbcjddahncocaaDoor
open Nm (Pos)
open Cs (Cn)

/-- a side of a constraint as a level -/
def sideL (p : Int) : List (Int × Int) := if 0 ≤ p then [(4, p)] else [(0, 0)]
theorem sideL_pos {p : Int} (h : 0 ≤ p) : sideL p = [(4, p)] := if_pos h
theorem sideL_neg {p : Int} (h : ¬ 0 ≤ p) : sideL p = [(0, 0)] := if_neg h
theorem side_cases {p : Int} (h : -1 ≤ p) (h5 : p < 5) : p = -1 ∨ p = 0 ∨ p = 1 ∨ p = 2 ∨ p = 3 ∨ p = 4 := by omega
theorem side_ok {p : Int} (h : -1 ≤ p) (h5 : p < 5) : Lv.levelOk (sideL p) = true ∧ Lv.levelOk (sideL p ++ [(1, 0)]) = true := by
  rcases side_cases h h5 with rfl | rfl | rfl | rfl | rfl | rfl <;> decide
theorem side_ev {p : Int} (h : -1 ≤ p) (h5 : p < 5) (env : List Int) : Dc.ev env (sideL p) = Cs.valOf env (Cs.node p) ∧ Dc.ev env (sideL p ++ [(1, 0)]) = Cs.valOf env (Cs.node p) + 1 := by
  rcases side_cases h h5 with rfl | rfl | rfl | rfl | rfl | rfl <;> exact ⟨rfl, rfl⟩
/-- what holds of all values holds of all envs -/
theorem sat_envs {l : List Cn} {c : Cn} (hok : Cs.ok l) (hc : Cs.cOk c = true) : (∀ v, Cs.SatAll v l → Cs.Sat v c) ↔ ∀ env : List Int, env.length = 5 → Pos env → Cs.SatAll (Cs.valOf env) l → Cs.Sat (Cs.valOf env) c := by
  constructor
  · exact fun h env _ _ hs => h _ hs
  · intro h v hv
    have hval : ∀ x, x < 6 → v x = Cs.valOf ((List.range 5).map fun p => v (p + 1)) x := by
      intro x hx
      cases x with
      | zero => exact hv.1.1
      | succ p =>
        show _ = ((List.range 5).map fun p => v (p + 1)).getD p 0
        simp [List.getD_eq_getElem?_getD, show p < 5 by omega]
    have hpos : Pos ((List.range 5).map fun p => v (p + 1)) := fun x hx => by
      obtain ⟨p, _, rfl⟩ := List.mem_map.1 hx
      exact hv.1.2 _
    have hs := Un.sat_of_nodes hok (Cs.valOf_val fun p => hpos.get p) hval hv
    exact (Cs.sat_congr hc hval).2 (h _ (by simp) hpos hs)
theorem sat_both {l : List Cn} (h : satR l = true) : consOkR l = true ∧ Cs.flat l = true := by
  unfold satR at h
  rwa [Bool.and_eq_true] at h
theorem impR_iff {l : List Cn} {c : Cn} (h : satR l = true) (hc : Cs.cOk c = true) : impR l c = true ↔ ∀ env : List Int, env.length = 5 → Pos env → Cs.SatAll (Cs.valOf env) l → Cs.Sat (Cs.valOf env) c := by
  obtain ⟨h1, h2⟩ := sat_both h
  rw [← sat_envs (consOkR_ok h1).1 hc, ← Cs.imp_iff (consOkR_ok h1).1 h2 hc]
  unfold impR
  rw [h, hc, Bool.true_and, Bool.true_and]
section
variable {l : List Cn} {U V : Int}
theorem imp_le (h : satR l = true) (hc : Cs.cOk (U, 0, V) = true) : leUnR l (sideL U) (sideL V) = impR l (U, 0, V) := by
  have hb := (Cs.cOk_iff _).1 hc
  rw [Bool.eq_iff_iff, leUn_iff, impR_iff h hc]
  constructor
  · rintro ⟨_, _, _, q⟩ env h5 hp hs
    have := q env h5 hp hs
    rw [(side_ev hb.1.1 hb.1.2 env).1, (side_ev hb.2.1.1 hb.2.1.2 env).1] at this
    exact this
  · intro q
    refine ⟨(sat_both h).1, (side_ok hb.1.1 hb.1.2).1, (side_ok hb.2.1.1 hb.2.1.2).1, fun env h5 hp hs => ?_⟩
    rw [(side_ev hb.1.1 hb.1.2 env).1, (side_ev hb.2.1.1 hb.2.1.2 env).1]
    exact q env h5 hp hs
theorem imp_lt (h : satR l = true) (hc : Cs.cOk (U, 1, V) = true) : leUnR l (sideL U ++ [(1, 0)]) (sideL V) = impR l (U, 1, V) := by
  have hb := (Cs.cOk_iff _).1 hc
  rw [Bool.eq_iff_iff, leUn_iff, impR_iff h hc]
  constructor
  · rintro ⟨_, _, _, q⟩ env h5 hp hs
    have := q env h5 hp hs
    rw [(side_ev hb.1.1 hb.1.2 env).2, (side_ev hb.2.1.1 hb.2.1.2 env).1] at this
    show Cs.valOf env (Cs.node U) < Cs.valOf env (Cs.node V)
    exact Int.lt_of_add_one_le this
  · intro q
    refine ⟨(sat_both h).1, (side_ok hb.1.1 hb.1.2).2, (side_ok hb.2.1.1 hb.2.1.2).1, fun env h5 hp hs => ?_⟩
    rw [(side_ev hb.1.1 hb.1.2 env).2, (side_ev hb.2.1.1 hb.2.1.2 env).1]
    have : Cs.valOf env (Cs.node U) < Cs.valOf env (Cs.node V) := q env h5 hp hs
    exact this
theorem imp_eq (h : satR l = true) (hc : Cs.cOk (U, 2, V) = true) : eqUnR l (sideL U) (sideL V) = impR l (U, 2, V) := by
  have hb := (Cs.cOk_iff _).1 hc
  unfold eqUnR
  rw [Bool.eq_iff_iff, Bool.and_eq_true, leUn_iff, leUn_iff, impR_iff h hc]
  constructor
  · rintro ⟨⟨_, _, _, q⟩, _, _, _, r⟩ env h5 hp hs
    have h1 := q env h5 hp hs
    have h2 := r env h5 hp hs
    rw [(side_ev hb.1.1 hb.1.2 env).1, (side_ev hb.2.1.1 hb.2.1.2 env).1] at h1 h2
    show Cs.valOf env (Cs.node U) = Cs.valOf env (Cs.node V)
    exact Int.le_antisymm h1 h2
  · intro q
    have key : ∀ env : List Int, env.length = 5 → Pos env → Cs.SatAll (Cs.valOf env) l → Cs.valOf env (Cs.node U) = Cs.valOf env (Cs.node V) := q
    refine ⟨⟨(sat_both h).1, (side_ok hb.1.1 hb.1.2).1, (side_ok hb.2.1.1 hb.2.1.2).1, fun env h5 hp hs => ?_⟩, (sat_both h).1, (side_ok hb.2.1.1 hb.2.1.2).1, (side_ok hb.1.1 hb.1.2).1, fun env h5 hp hs => ?_⟩
    · rw [(side_ev hb.1.1 hb.1.2 env).1, (side_ev hb.2.1.1 hb.2.1.2 env).1, key env h5 hp hs]
      exact Int.le_refl _
    · rw [(side_ev hb.1.1 hb.1.2 env).1, (side_ev hb.2.1.1 hb.2.1.2 env).1, key env h5 hp hs]
      exact Int.le_refl _
end
/-- what is implied holds in each env in which the list does -/
theorem imp_hold {l : List Cn} {c : Cn} {env : List Int} (h : satR l = true) (hc : Cs.cOk c = true) (hi : impR l c = true) (he : envOk env = true) (hp : Pos env) (hh : consHoldR l env = true) : conHoldsR c env = true := by
  have h1 := (consHold_sat (sat_both h).1 he).1 hh
  have h2 := (impR_iff h hc).1 hi env (envOk_len he) hp h1
  unfold conHoldsR
  rw [hc, he, (hold_sat hc).2 h2]
  rfl
end Go.Proofs.YtmbcjddahncocaaDoor
