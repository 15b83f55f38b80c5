/- ConHolds and ConsHold, of the program and of the reference model. -/
import Derived.Test.YtmmhcpigcdlnmaaPtSat
import Derived.BigQuiet

namespace Go.Proofs.Ytmmhcpigcdlnmaa
open Go.RowKit
open Cs (Cn)

theorem IntOwn.below {w w' : World} {g n B : Nat} {l : List Int} (h : IntOwn w g n l) (hb : Below B w w') (hg : g < B) : IntOwn w' g n l := by
  obtain ⟨hl, cs, hblk, rest⟩ := h
  exact ⟨hl, cs, hblk.below hb hg, rest⟩
/-- the value of a side in an env -/
def valR (env : List Int) (p : Int) : Int := if p < 0 then 0 else env.getD p.toNat 0
/-- whether a constraint is satisfied in an env -/
def holdR (env : List Int) (c : Cn) : Bool := if c.2.1 = 0 then decide (valR env c.1 ≤ valR env c.2.2) else if c.2.1 = 1 then decide (valR env c.1 < valR env c.2.2) else (valR env c.1 == valR env c.2.2)
def conHoldsR (c : Cn) (env : List Int) : Bool := Cs.cOk c && envOk env && holdR env c
def consHoldR (l : List Cn) (env : List Int) : Bool := consOkR l && envOk env && l.all (holdR env)
theorem envOk_len {env : List Int} (h : envOk env = true) : env.length = 5 := by
  unfold envOk at h
  rw [Bool.and_eq_true] at h
  simpa using h.1

set_option maxHeartbeats 400000 in
theorem sideValue_any (w : World) (B : Nat) (A : Option Addr) (c : Nat) (env : List Int) (p : Int) (hR : IntR w B A 5 env) (h0 : -1 ≤ p) (h5 : p < 5) :
    Calls Try.prog 90 #[.int .i64 p, .slice A 5 c] w fun e w' => e = .returned (.int .i64 (valR env p)) ∧ w' = w := by
  by_cases hn : p = -1
  · have HF : Hid (valR env p = 0) := if_pos (by omega)
    subst hn
    go_enter Try.func90, Try.ntmps90
    go_wp2
    go_ret
    exact ⟨by rw [HF.out]; rfl, rfl⟩
  · obtain ⟨k, hk⟩ : ∃ k : Nat, p = k := ⟨p.toNat, by omega⟩
    subst hk
    have HF : Hid (valR env (k : Int) = env.getD k 0) := (if_neg (by omega)).trans (by rw [Int.toNat_natCast])
    have d1 : ((k : Int) == -1) = false := by simp
    obtain ⟨b, off, rfl, hb, hc⟩ := hR.2 (by omega)
    have k1 := hc k (by omega)
    generalize env.getD k 0 = v at k1 HF
    clear hc hR
    go_enter Try.func90, Try.ntmps90
    go_wp2
    go_ret
    exact ⟨by rw [HF.out]; rfl, rfl⟩

set_option maxRecDepth 100000 in
set_option maxHeartbeats 1600000 in
theorem conHolds_any (w : World) (B : Nat) (A : Option Addr) (c : Nat) (env : List Int) (U R V : Int) (hB : B ≤ w.heap.size) (hR : IntR w B A 5 env) (hok : Cs.cOk (U, R, V) = true) :
    Calls Try.prog 63 #[.agg #[.int .i64 U, .int .i64 R, .int .i64 V], .slice A 5 c] w fun e w' => e = .returned (.bool (holdR env (U, R, V))) ∧ Below w.heap.size w w' := by
  obtain ⟨W0, hW0⟩ : ∃ W, w.alloc (.cells #[.int .i64 U, .int .i64 R, .int .i64 V] 34) = W := ⟨_, rfl⟩
  have hb0 : Below w.heap.size w W0 := by rw [← hW0]; exact (Below.refl _ _).alloc (Nat.le_refl _) _
  have bc0 : Blk W0 w.heap.size 34 #[.int .i64 U, .int .i64 R, .int .i64 V] := by rw [← hW0]; exact Blk.made _ _ _
  have y0 : W0.cell? ⟨w.heap.size, 0, none⟩ = some (.int .i64 U) := bc0.cell 0
  have y1 : W0.cell? ⟨w.heap.size, 1, none⟩ = some (.int .i64 R) := bc0.cell 1
  have y2 : W0.cell? ⟨w.heap.size, 2, none⟩ = some (.int .i64 V) := bc0.cell 2
  have HB0 := Lib.hid hb0
  have HR := Lib.hid (hR.below (hb0.mono hB))
  have ho := (Cs.cOk_iff _).1 hok
  replace ho : (-1 ≤ U ∧ U < 5) ∧ (-1 ≤ V ∧ V < 5) ∧ 0 ≤ R ∧ R ≤ 2 := ho
  have HO := Lib.hid ho
  have hR2 := ho.2.2
  clear hb0 bc0 hR ho hok
  obtain ⟨x, hx⟩ : ∃ x, valR env U = x := ⟨_, rfl⟩
  obtain ⟨y, hy⟩ : ∃ y, valR env V = y := ⟨_, rfl⟩
  have HH : Hid (holdR env (U, R, V) = if R = 0 then decide (x ≤ y) else if R = 1 then decide (x < y) else (x == y)) := by
    show _ = _
    unfold holdR
    simp only [hx, hy]
  have HX := Lib.hid hx
  have HY := Lib.hid hy
  have SU : Hid (∀ m, Calls Try.prog 90 #[.int .i64 U, .slice A 5 c] (W0.drewN m) fun e w' => e = .returned (.int .i64 x) ∧ w' = W0.drewN m) := fun m => by
    rw [← HX.out]
    exact sideValue_any (W0.drewN m) B A c env U (HR.out.keep fun _ _ => rfl) HO.out.1.1 HO.out.1.2
  have SV : Hid (∀ m, Calls Try.prog 90 #[.int .i64 V, .slice A 5 c] (W0.drewN m) fun e w' => e = .returned (.int .i64 y) ∧ w' = W0.drewN m) := fun m => by
    rw [← HY.out]
    exact sideValue_any (W0.drewN m) B A c env V (HR.out.keep fun _ _ => rfl) HO.out.2.1.1 HO.out.2.1.2
  clear hx hy
  by_cases e1 : R = 1
  · have HF : Hid (holdR env (U, R, V) = decide (x < y)) := HH.out.trans ((if_neg (by omega)).trans (if_pos e1))
    subst e1
    go_enter Try.func63, Try.ntmps63
    go_wp2
    go_quiet (first | (go_at_call 90; first | (with_reducible refine Calls.quiet_of_same (SU.out _)) | (with_reducible refine Calls.quiet_of_same (SV.out _))))
    go_wp2
    go_ret
    exact ⟨by rw [HF.out]; rfl, ⟨HB0.out.os, HB0.out.tape, HB0.out.output, HB0.out.size, HB0.out.block⟩⟩
  · have d1 : (R == 1) = false := by simpa using e1
    by_cases e2 : R = 2
    · have HF : Hid (holdR env (U, R, V) = (x == y)) := HH.out.trans ((if_neg (by omega)).trans (if_neg (by omega)))
      subst e2
      go_enter Try.func63, Try.ntmps63
      go_wp2
      go_quiet (first | (go_at_call 90; first | (with_reducible refine Calls.quiet_of_same (SU.out _)) | (with_reducible refine Calls.quiet_of_same (SV.out _))))
      go_wp2
      go_ret
      exact ⟨by rw [HF.out]; rfl, ⟨HB0.out.os, HB0.out.tape, HB0.out.output, HB0.out.size, HB0.out.block⟩⟩
    · have HF : Hid (holdR env (U, R, V) = decide (x ≤ y)) := HH.out.trans (if_pos (by omega))
      have d2 : (R == 2) = false := by simpa using e2
      clear e1 e2
      go_enter Try.func63, Try.ntmps63
      go_wp2
      go_quiet (first | (go_at_call 90; first | (with_reducible refine Calls.quiet_of_same (SU.out _)) | (with_reducible refine Calls.quiet_of_same (SV.out _))))
      go_wp2
      go_ret
      exact ⟨by rw [HF.out]; rfl, ⟨HB0.out.os, HB0.out.tape, HB0.out.output, HB0.out.size, HB0.out.block⟩⟩

end Go.Proofs.Ytmmhcpigcdlnmaa
