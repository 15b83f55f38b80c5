/- ConHolds and ConsHold, of the program and of the reference model. -/
/- ConsCore of the reference model. -/
/- l06First, LeUnder and EqUnder of the reference model. -/
/- LeUnder and EqUnder of the program. -/
/- LevelTrim: the program's and the reference model's; slices.Clone over tokens, slices.Contains over numbers. -/
/- A side of a constraint with levels in the place of its parameters: sideLevel of the program, l06Level of the reference model. -/
import Derived.Test.YtgebjnoicgmdoaaDoorSgHas
import Derived.BigQuiet
import Derived.Test.YtgebjnoicgmdoaaDoorUnMath
import Derived.Test.YtgebjnoicgmdoaaDoorEvMath
import Derived.Test.YtgebjnoicgmdoaaDoorNOk1
import Derived.Test.YtgebjnoicgmdoaaDoorNMap
import Derived.Test.YtgebjnoicgmdoaaDoorUnAtom3
import Derived.Test.YtgebjnoicgmdoaaDoorMarks
import Derived.Test.YtgebjnoicgmdoaaDoorRegInv
import Derived.Test.YtgebjnoicgmdoaaDoorSpec
import Derived.Test.YtgebjnoicgmdoaaDoorUnCu
import Derived.Test.YtgebjnoicgmdoaaDoorDcMath4
import Derived.Test.YtgebjnoicgmdoaaDoorParams
import Derived.Test.YtgebjnoicgmdoaaDoorNFree2
import Derived.Tactics2
import Derived.Defers
import Derived.Laws.Pointers
import Derived.Laws.LoneSync
import Derived.RegionTactic
import Derived.RegionCalls
import Derived.Test.YtgebjnoicgmdoaaDoorCur3
import Derived.Deep.WholeRow
import Derived.Test.YtgebjnoicgmdoaaDoorCsMath
import Derived.Test.YtgebjnoicgmdoaaDoorPileT

namespace Go.Proofs.YtgebjnoicgmdoaaDoor
open Go.RowKit
open Cs (Cn)

theorem IntOwn.below {w w' : World} {g n B : Nat} {l : List Int} (h : IntOwn w g n l) (hb : Below B w w') (hg : g < B) : IntOwn w' g n l := by
  obtain ⟨hl, cs, hblk, rest⟩ := h
  exact ⟨hl, cs, hblk.below hb hg, rest⟩
/-- the value of a side in an env -/
def valR (env : List Int) (p : Int) : Int := if p < 0 then 0 else env.getD p.toNat 0
/-- whether a constraint is satisfied in an env -/
def holdR (env : List Int) (c : Cn) : Bool := if c.2.1 = 0 then decide (valR env c.1 ≤ valR env c.2.2) else if c.2.1 = 1 then decide (valR env c.1 < valR env c.2.2) else (valR env c.1 == valR env c.2.2)
def conHoldsR (c : Cn) (env : List Int) : Bool := Cs.cOk c && envOk env && holdR env c
def consHoldR (l : List Cn) (env : List Int) : Bool := consOkR l && envOk env && l.all (holdR env)
theorem envOk_len {env : List Int} (h : envOk env = true) : env.length = 5 := by
  unfold envOk at h
  rw [Bool.and_eq_true] at h
  simpa using h.1

set_option maxHeartbeats 400000 in
theorem sideValue_any (w : World) (B : Nat) (A : Option Addr) (c : Nat) (env : List Int) (p : Int) (hR : IntR w B A 5 env) (h0 : -1 ≤ p) (h5 : p < 5) :
    Calls Tryd.prog 39 #[.int .i64 p, .slice A 5 c] w fun e w' => e = .returned (.int .i64 (valR env p)) ∧ w' = w := by
  by_cases hn : p = -1
  · have HF : Hid (valR env p = 0) := if_pos (by omega)
    subst hn
    go_enter Tryd.func39, Tryd.ntmps39
    go_wp2
    go_ret
    exact ⟨by rw [HF.out]; rfl, rfl⟩
  · obtain ⟨k, hk⟩ : ∃ k : Nat, p = k := ⟨p.toNat, by omega⟩
    subst hk
    have HF : Hid (valR env (k : Int) = env.getD k 0) := (if_neg (by omega)).trans (by rw [Int.toNat_natCast])
    have d1 : ((k : Int) == -1) = false := by simp
    obtain ⟨b, off, rfl, hb, hc⟩ := hR.2 (by omega)
    have k1 := hc k (by omega)
    generalize env.getD k 0 = v at k1 HF
    clear hc hR
    go_enter Tryd.func39, Tryd.ntmps39
    go_wp2
    go_ret
    exact ⟨by rw [HF.out]; rfl, rfl⟩

set_option maxRecDepth 100000 in
set_option maxHeartbeats 1600000 in
theorem conHolds_any (w : World) (B : Nat) (A : Option Addr) (c : Nat) (env : List Int) (U R V : Int) (hB : B ≤ w.heap.size) (hR : IntR w B A 5 env) (hok : Cs.cOk (U, R, V) = true) :
    Calls Tryd.prog 27 #[.agg #[.int .i64 U, .int .i64 R, .int .i64 V], .slice A 5 c] w fun e w' => e = .returned (.bool (holdR env (U, R, V))) ∧ Below w.heap.size w w' := by
  obtain ⟨W0, hW0⟩ : ∃ W, w.alloc (.cells #[.int .i64 U, .int .i64 R, .int .i64 V] 51) = W := ⟨_, rfl⟩
  have hb0 : Below w.heap.size w W0 := by rw [← hW0]; exact (Below.refl _ _).alloc (Nat.le_refl _) _
  have bc0 : Blk W0 w.heap.size 51 #[.int .i64 U, .int .i64 R, .int .i64 V] := by rw [← hW0]; exact Blk.made _ _ _
  have y0 : W0.cell? ⟨w.heap.size, 0, none⟩ = some (.int .i64 U) := bc0.cell 0
  have y1 : W0.cell? ⟨w.heap.size, 1, none⟩ = some (.int .i64 R) := bc0.cell 1
  have y2 : W0.cell? ⟨w.heap.size, 2, none⟩ = some (.int .i64 V) := bc0.cell 2
  have HB0 := Lib.hid hb0
  have HR := Lib.hid (hR.below (hb0.mono hB))
  have ho := (Cs.cOk_iff _).1 hok
  replace ho : (-1 ≤ U ∧ U < 5) ∧ (-1 ≤ V ∧ V < 5) ∧ 0 ≤ R ∧ R ≤ 2 := ho
  have HO := Lib.hid ho
  have hR2 := ho.2.2
  clear hb0 bc0 hR ho hok
  obtain ⟨x, hx⟩ : ∃ x, valR env U = x := ⟨_, rfl⟩
  obtain ⟨y, hy⟩ : ∃ y, valR env V = y := ⟨_, rfl⟩
  have HH : Hid (holdR env (U, R, V) = if R = 0 then decide (x ≤ y) else if R = 1 then decide (x < y) else (x == y)) := by
    show _ = _
    unfold holdR
    simp only [hx, hy]
  have HX := Lib.hid hx
  have HY := Lib.hid hy
  have SU : Hid (∀ m, Calls Tryd.prog 39 #[.int .i64 U, .slice A 5 c] (W0.drewN m) fun e w' => e = .returned (.int .i64 x) ∧ w' = W0.drewN m) := fun m => by
    rw [← HX.out]
    exact sideValue_any (W0.drewN m) B A c env U (HR.out.keep fun _ _ => rfl) HO.out.1.1 HO.out.1.2
  have SV : Hid (∀ m, Calls Tryd.prog 39 #[.int .i64 V, .slice A 5 c] (W0.drewN m) fun e w' => e = .returned (.int .i64 y) ∧ w' = W0.drewN m) := fun m => by
    rw [← HY.out]
    exact sideValue_any (W0.drewN m) B A c env V (HR.out.keep fun _ _ => rfl) HO.out.2.1.1 HO.out.2.1.2
  clear hx hy
  by_cases e1 : R = 1
  · have HF : Hid (holdR env (U, R, V) = decide (x < y)) := HH.out.trans ((if_neg (by omega)).trans (if_pos e1))
    subst e1
    go_enter Tryd.func27, Tryd.ntmps27
    go_wp2
    go_quiet (first | (go_at_call 39; first | (with_reducible refine Calls.quiet_of_same (SU.out _)) | (with_reducible refine Calls.quiet_of_same (SV.out _))))
    go_wp2
    go_ret
    exact ⟨by rw [HF.out]; rfl, ⟨HB0.out.os, HB0.out.tape, HB0.out.output, HB0.out.size, HB0.out.block⟩⟩
  · have d1 : (R == 1) = false := by simpa using e1
    by_cases e2 : R = 2
    · have HF : Hid (holdR env (U, R, V) = (x == y)) := HH.out.trans ((if_neg (by omega)).trans (if_neg (by omega)))
      subst e2
      go_enter Tryd.func27, Tryd.ntmps27
      go_wp2
      go_quiet (first | (go_at_call 39; first | (with_reducible refine Calls.quiet_of_same (SU.out _)) | (with_reducible refine Calls.quiet_of_same (SV.out _))))
      go_wp2
      go_ret
      exact ⟨by rw [HF.out]; rfl, ⟨HB0.out.os, HB0.out.tape, HB0.out.output, HB0.out.size, HB0.out.block⟩⟩
    · have HF : Hid (holdR env (U, R, V) = decide (x ≤ y)) := HH.out.trans (if_pos (by omega))
      have d2 : (R == 2) = false := by simpa using e2
      clear e1 e2
      go_enter Tryd.func27, Tryd.ntmps27
      go_wp2
      go_quiet (first | (go_at_call 39; first | (with_reducible refine Calls.quiet_of_same (SU.out _)) | (with_reducible refine Calls.quiet_of_same (SV.out _))))
      go_wp2
      go_ret
      exact ⟨by rw [HF.out]; rfl, ⟨HB0.out.os, HB0.out.tape, HB0.out.output, HB0.out.size, HB0.out.block⟩⟩

end Go.Proofs.YtgebjnoicgmdoaaDoor

namespace Go.Proofs.YtgebjnoicgmdoaaDoor
open Go.RowKit
open Cs (Cn Tb)

/-- the walk's memory -/
structure CoreW (w : World) (n gb m : Nat) (A : Option Addr) (c : Nat) (out : List Int) (g : Nat → Bool) (wr : World) : Prop where
  own : OwnI wr w.heap.size A m c out
  gone : Blk wr gb 4 (goneA g n)
  bel : Below w.heap.size w wr
theorem CoreW.set {w wr : World} {n gb m c : Nat} {A : Option Addr} {out : List Int} {g : Nat → Bool} (h : CoreW w n gb m A c out g wr) (hg : w.heap.size ≤ gb) (i : Nat) (b : Bool) :
    CoreW w n gb m A c out (Cs.mark g i b) (wr.setCell ⟨gb, i, none⟩ (.bool b)) := by
  have hw : Wrote gb wr (wr.setCell ⟨gb, i, none⟩ (.bool b)) := Wrote.set _ _
  refine ⟨h.own.kept hw.1 (.inr (own_apart h.own h.gone (by decide))), ?_, hw.below h.bel h.bel.size hg⟩
  have := Blk.put h.gone i (.bool b)
  rw [goneA_set] at this
  exact this
theorem CoreW.later {w wr w' : World} {n gb m c : Nat} {A : Option Addr} {out : List Int} {g : Nat → Bool} (h : CoreW w n gb m A c out g wr) (hb : Below wr.heap.size wr w') : CoreW w n gb m A c out g w' :=
  ⟨own_below' h.own hb, Blk.below h.gone hb h.gone.lt, h.bel.trans (hb.mono h.bel.size)⟩

end Go.Proofs.YtgebjnoicgmdoaaDoor

namespace Go.Proofs.YtgebjnoicgmdoaaDoor
open Go.RowKit
open Cs (Cn Tb)

/-- comparison under constraints -/
noncomputable def leUnR (l : List Cn) (a b : List (Int × Int)) : Bool := consOkR l && (Lv.levelOk a && (Lv.levelOk b && (Un.exR l a b).isNone))
theorem leUnR_c {l : List Cn} {a b : List (Int × Int)} (h : consOkR l = false) : leUnR l a b = false := by unfold leUnR; rw [h]; rfl
theorem leUnR_a {l : List Cn} {a b : List (Int × Int)} (h : Lv.levelOk a = false) : leUnR l a b = false := by unfold leUnR; rw [h, Bool.false_and, Bool.and_false]
theorem leUnR_b {l : List Cn} {a b : List (Int × Int)} (h : Lv.levelOk b = false) : leUnR l a b = false := by unfold leUnR; rw [h, Bool.false_and, Bool.and_false, Bool.and_false]
theorem leUnR_y {l : List Cn} {a b : List (Int × Int)} (h : consOkR l = true) (h1 : Lv.levelOk a = true) (h2 : Lv.levelOk b = true) : leUnR l a b = (Un.exR l a b).isNone := by unfold leUnR; rw [h, h1, h2, Bool.true_and, Bool.true_and, Bool.true_and]
end Go.Proofs.YtgebjnoicgmdoaaDoor

namespace Go.Proofs.YtgebjnoicgmdoaaDoor
open Go.RowKit
open Cs (Cn Tb)

/-- compareUnder gives back nil just where the first level is at most the second one -/
theorem cmpV_le (l : List Cn) (a b : List (Int × Int)) (Tc : TypeId) (pc : Value) (T : TypeId) (pv : Value) :
    (cmpV l a b Tc pc T pv = .nilIface ∧ leUnR l a b = true) ∨ ((∃ t v, cmpV l a b Tc pc T pv = .iface t v) ∧ leUnR l a b = false) := by
  cases h : consOkR l with
  | false => exact .inr ⟨⟨_, _, cmpV_c h⟩, leUnR_c h⟩
  | true =>
    cases h1 : Lv.levelOk a with
    | false => exact .inr ⟨⟨_, _, cmpV_a h (fun q => by rw [h1] at q; cases q.1)⟩, leUnR_a h1⟩
    | true =>
      cases h2 : Lv.levelOk b with
      | false => exact .inr ⟨⟨_, _, cmpV_a h (fun q => by rw [h2] at q; cases q.2)⟩, leUnR_b h2⟩
      | true =>
        rw [cmpV_y h ⟨h1, h2⟩, leUnR_y h h1 h2]
        cases Un.exR l a b with
        | none => exact .inl ⟨rfl, rfl⟩
        | some r => exact .inr ⟨⟨_, _, rfl⟩, rfl⟩

set_option maxRecDepth 100000 in
set_option maxHeartbeats 1600000 in
theorem implLeUnder_any (w : World) (B : Nat) (A : Option Addr) (n c : Nat) (l : List Cn) (A1 : Option Addr) (n1 c1 : Nat) (a : List (Int × Int)) (A2 : Option Addr) (n2 c2 : Nat) (m : List (Int × Int)) (T : TypeId) (pv : Value) (Tc : TypeId) (pc : Value) (h0 : 0 < B) (h0c : 1 < B) (hB : B ≤ w.heap.size)
    (hA : SlOk A n c) (hl : ConR w B A n l) (hn : (n : Int) ≤ 140737488355328) (ha : TokR w B A1 n1 a) (hn1 : (n1 : Int) ≤ 140737488355328) (hm : TokR w B A2 n2 m) (hn2 : (n2 : Int) ≤ 140737488355328) (hE : ErrAt w T pv) (hEc : ErrCAt w Tc pc) :
    Calls Tryd.prog 40 #[.slice A n c, .slice A1 n1 c1, .slice A2 n2 c2] w fun e w' => e = .returned (.bool (leUnR l a m)) ∧ Below w.heap.size w w' := by
  have HE := Lib.hid hE
  have HEc := Lib.hid hEc
  have HL := Lib.hid hl
  have HA := Lib.hid ha
  have HM := Lib.hid hm
  clear hE hEc hl ha hm
  go_enter Tryd.func40, Tryd.ntmps40
  go_wp2_with fail
  refine (compareUnder_any w B A n c l A1 n1 c1 a A2 n2 c2 m T pv Tc pc h0 h0c hB hA HL.out hn HA.out hn1 HM.out hn2 HE.out HEc.out).mono ?_
  rintro e w1 ⟨rfl, hb1⟩
  have HB1 := Lib.hid hb1
  clear hb1
  rcases cmpV_le l a m Tc pc T pv with ⟨hv, hr⟩ | ⟨⟨t, v, hv⟩, hr⟩
  · have HR := Lib.hid hr
    rw [hv]
    clear hv hr
    go_wp2
    go_ret
    exact ⟨by rw [HR.out]; rfl, HB1.out⟩
  · have HR := Lib.hid hr
    rw [hv]
    clear hv hr
    go_wp2
    go_ret
    exact ⟨by rw [HR.out]; rfl, HB1.out⟩
end Go.Proofs.YtgebjnoicgmdoaaDoor

namespace Go.Proofs.YtgebjnoicgmdoaaDoor
open Go.RowKit

set_option maxRecDepth 100000 in
set_option maxHeartbeats 800000 in
theorem cloneT_any (w : World) (B : Nat) (A : Option Addr) (n c : Nat) (l : List (Int × Int)) (hB : B ≤ w.heap.size) (hl : TokR w B A n l) (h1 : 1 ≤ n) (hn : n ≤ 1000) :
    Calls Tryd.prog 20 #[.slice A n c] w fun e w' => ∃ g cap, e = .returned (.slice (some ⟨g, 0, none⟩) n cap) ∧ OwnT w' w.heap.size (some ⟨g, 0, none⟩) n cap l ∧ Below w.heap.size w w' := by
  obtain ⟨i0, hi, hz0, hz1, hz2⟩ := info_parts info_tok
  have hb0 : Below w.heap.size w (w.alloc (.cells #[] 56)) := (Below.refl _ _).alloc (Nat.le_refl _) _
  obtain ⟨q, rfl, hq⟩ := (hl.below (hb0.mono hB)).tokA (by omega)
  have ho0 : OwnT (w.alloc (.cells #[] 56)) w.heap.size (some ⟨w.heap.size, 0, none⟩) 0 0 [] := World.ownsRow_made w #[] 0 (Nat.le_refl _) (by simp [maxLen]) (by simp)
  have hcl := tokCells_len l
  rw [hl.1] at hcl
  have HCL := Lib.hid hcl
  have hnil := Lib.run_eql_slice_nil (P := Tryd.prog)
  clear hcl hl
  go_enter Tryd.func20, Tryd.ntmps20
  go_wp2_with (at_builtin; refine wpList_append_own _ rfl (.tmp 5) (.tmp 6) 35 rfl w.heap.size 56 i0 (.agg #[.int .i64 0, .int .i64 0]) 2 16 Tryd.underlying35 hi hz0 hz1 hz2 rfl (by decide) (.slice (some ⟨w.heap.size, 0, none⟩) 0 0) 0 (tokCells []) rfl ho0 q n c (tokCells l) rfl HCL.out hq.2 (tokCells_one l) (by unfold maxLen; omega) (by omega) (by simp) ?_; intro v' w3 hown' hgrow hnil)
  obtain ⟨g', cap', rfl⟩ : ∃ g' cap', v' = .slice (some ⟨g', 0, none⟩) n cap' := by
    rcases hown'.2 with ⟨h0, _⟩ | ⟨g', cap', _, h0, _⟩
    · have := (hnil.1 h0).1
      cases this
    · rw [Nat.zero_add] at h0; exact ⟨g', cap', h0⟩
  have HB3 : Hid (Below w.heap.size w w3) := hb0.grown hgrow (by simp) (fun k h => by have h' : w.heap.size = k := (by simpa [Value.ownBlock] using h); omega)
  have HW0 : Hid (OwnT w3 w.heap.size (some ⟨g', 0, none⟩) n cap' l) := by
    show OwnT _ _ _ _ _ _
    have h := hown'
    rw [tokCells_nil, List.nil_append, Nat.zero_add] at h
    exact h
  clear hown' hgrow hnil ho0 hq hb0
  go_wp2
  go_ret
  exact ⟨g', cap', rfl, HW0.out, HB3.out⟩


end Go.Proofs.YtgebjnoicgmdoaaDoor

namespace Go.Proofs.YtgebjnoicgmdoaaDoor
open Go.RowKit

/-- the level that stands for a side -/
def sdR (ls : List (List (Int × Int))) (p : Int) : Option (List (Int × Int)) := if p < 0 then some [(0, 0)] else if p < (ls.length : Int) ∧ Lv.levelOk (ls.getD p.toNat []) = true then some (ls.getD p.toNat []) else none
theorem sdR_neg {ls : List (List (Int × Int))} {p : Int} (h : p < 0) : sdR ls p = some [(0, 0)] := if_pos h
theorem sdR_out {ls : List (List (Int × Int))} {k : Nat} (h : ls.length ≤ k) : sdR ls (k : Int) = none := by
  unfold sdR
  rw [if_neg (by omega), if_neg (fun q => by omega)]
theorem sdR_bad {ls : List (List (Int × Int))} {k : Nat} (h : Lv.levelOk (ls.getD k []) = false) : sdR ls (k : Int) = none := by
  unfold sdR
  rw [if_neg (by omega), if_neg (fun q => by have := q.2; rw [Int.toNat_natCast, h] at this; cases this)]
theorem sdR_yes {ls : List (List (Int × Int))} {k : Nat} (h : k < ls.length) (h1 : Lv.levelOk (ls.getD k []) = true) : sdR ls (k : Int) = some (ls.getD k []) := by
  unfold sdR
  rw [if_neg (by omega), if_pos ⟨by omega, by rw [Int.toNat_natCast]; exact h1⟩, Int.toNat_natCast]
theorem sdR_ok {ls : List (List (Int × Int))} {p : Int} {q : List (Int × Int)} (h : sdR ls p = some q) : Lv.levelOk q = true ∧ 1 ≤ q.length ∧ q.length ≤ 24 := by
  unfold sdR at h
  split at h
  · injection h with h
    subst h
    exact ⟨by decide, by decide, by decide⟩
  · split at h
    · rename_i h1
      injection h with h
      subst h
      have := Dc.ok_two h1.2
      exact ⟨h1.2, this.1, this.2⟩
    · cases h
/-- what they give back -/
def SdOut (w : World) (r : Option (List (Int × Int))) (e : Ending) (w' : World) : Prop :=
  (r = none ∧ e = .returned (.tuple #[.slice none 0 0, .bool false]) ∧ Below w.heap.size w w') ∨ ∃ q g c, r = some q ∧ e = .returned (.tuple #[.slice (some ⟨g, 0, none⟩) q.length c, .bool true]) ∧ OwnT w' w.heap.size (some ⟨g, 0, none⟩) q.length c q ∧ Below w.heap.size w w'

set_option maxRecDepth 100000 in
set_option maxHeartbeats 1600000 in
theorem implSide_any (w : World) (B : Nat) (A : Option Addr) (n c : Nat) (ls : List (List (Int × Int))) (p : Int) (T : TypeId) (pv : Value) (h0 : 0 < B) (hB : B ≤ w.heap.size) (hl : LvlR w B A n ls) (hn : (n : Int) ≤ 140737488355328) (hm : bulk ls ≤ 1048576) (h1 : -1 ≤ p) (hE : ErrAt w T pv) :
    Calls Tryd.prog 19 #[.int .i64 p, .slice A n c] w (SdOut w (sdR ls p)) := by
  have HL := Lib.hid hl
  clear hl
  by_cases hp : p < 0
  · obtain rfl : p = -1 := by omega
    have HR := Lib.hid (sdR_neg (ls := ls) hp)
    clear hp
    go_enter Tryd.func19, Tryd.ntmps19
    go_wp2
    go_ret2
    rw [HR.out]
    exact .inr ⟨_, _, 1, rfl, rfl, own_litJ (Blk.made w _ _) (Nat.le_refl _), (Below.refl _ _).alloc (Nat.le_refl _) _⟩
  · obtain ⟨k, rfl⟩ : ∃ k : Nat, p = k := ⟨p.toNat, by omega⟩
    have dk : ((k : Int) == -1) = false := by simp
    clear hp h1
    by_cases hk : k < n
    · have hki : ¬ (n : Int) ≤ (k : Int) := by omega
      obtain ⟨b, off, rfl, hb, hc⟩ := HL.out.2 (by omega)
      obtain ⟨Ak, nk, ck, c1, t1, m1⟩ := hc k hk
      have HT := Lib.hid t1
      have HLL : Hid (ls.length = n) := HL.out.1
      obtain ⟨q, hq⟩ : ∃ q, ls.getD k [] = q := ⟨_, rfl⟩
      have hqb : nk ≤ 1048576 := by
        have e := t1.1
        have := tot_take ls k (by rw [HLL.out]; exact hk)
        have h2 : tot (ls.take (k + 1)) ≤ tot ls := by
          unfold tot
          have e3 : (ls.map List.length).sum = ((ls.take (k + 1)).map List.length).sum + ((ls.drop (k + 1)).map List.length).sum := by rw [← List.sum_append, ← List.map_append, List.take_append_drop]
          omega
        unfold bulk at hm
        omega
      rw [hq] at HT t1
      have HQ := Lib.hid hq
      have hlen := t1.1
      clear hc t1 hq
      cases hok : Lv.levelOk q with
      | false =>
        have HR : Hid (sdR ls (k : Int) = none) := sdR_bad (by rw [HQ.out]; exact hok)
        have HO := Lib.hid hok
        clear hok
        go_enter Tryd.func19, Tryd.ntmps19
        go_wp2_with fail
        refine (levelOk_any w B Ak nk ck q T pv h0 hB HT.out (by omega) hE).mono ?_
        rintro e w1 ⟨rfl, hb1⟩
        rw [HO.out]
        go_wp2
        go_ret2
        rw [HR.out]
        exact .inl ⟨rfl, rfl, hb1⟩
      | true =>
        have HR : Hid (sdR ls (k : Int) = some q) := by
          show _ = _
          rw [sdR_yes (by rw [HLL.out]; exact hk) (by rw [HQ.out]; exact hok), HQ.out]
        have HO := Lib.hid hok
        have h24 := Dc.ok_two hok
        rw [hlen] at h24
        clear hok hlen
        go_enter Tryd.func19, Tryd.ntmps19
        go_wp2_with fail
        refine (levelOk_any w B Ak nk ck q T pv h0 hB HT.out (by omega) hE).mono ?_
        rintro e w1 ⟨rfl, hb1⟩
        rw [HO.out]
        have c2 := (hb1.cell (p := ⟨b, off + k, none⟩) (by show b < _; omega)).trans c1
        have hs1 := hb1.size
        have HB1 := Lib.hid hb1
        clear c1 hb1
        go_wp2_with fail
        refine (cloneT_any w1 B Ak nk ck q (by omega) (HT.out.below (HB1.out.mono hB)) h24.1 (by omega)).mono ?_
        rintro e w2 ⟨g, cap, rfl, ho2, hb2⟩
        have HB2 := Lib.hid (HB1.out.trans (hb2.mono hs1))
        have HO2 : Hid (OwnT w2 w.heap.size (some ⟨g, 0, none⟩) nk cap q) := own_base ho2 hs1
        clear c2 hb2 ho2
        go_wp2
        go_ret2
        rw [HR.out]
        have e := HT.out.1
        subst e
        exact .inr ⟨q, g, cap, rfl, rfl, HO2.out, HB2.out⟩
    · have hki : (n : Int) ≤ (k : Int) := by omega
      have HR : Hid (sdR ls (k : Int) = none) := sdR_out (by have := HL.out.1; omega)
      clear hk
      go_enter Tryd.func19, Tryd.ntmps19
      go_wp2
      go_ret2
      rw [HR.out]
      exact .inl ⟨rfl, rfl, Below.refl _ _⟩
theorem side_take {w : World} {base n : Nat} {a : Addr} {v : Value} {xs : List Value} (h : w.ownsRow base 56 2 v (0 + n) xs) (hnil : v = .slice none 0 0 ↔ (Value.slice (some a) 0 0 : Value) = .slice none 0 0 ∧ n = 0) : ∃ g c, v = .slice (some ⟨g, 0, none⟩) n c := by
  rcases h.2 with ⟨h0, _⟩ | ⟨g', cap', _, h0, _⟩
  · have := (hnil.1 h0).1
    cases this
  · rw [Nat.zero_add] at h0
    exact ⟨g', cap', h0⟩
set_option maxRecDepth 100000 in
set_option maxHeartbeats 1600000 in
theorem specSide_any (w : World) (B : Nat) (A : Option Addr) (n c : Nat) (ls : List (List (Int × Int))) (p : Int) (hB : B ≤ w.heap.size) (hl : LvlR w B A n ls) (hn : (n : Int) ≤ 140737488355328) (hm : bulk ls ≤ 1048576) :
    Calls Tryd.prog 22 #[.int .i64 p, .slice A n c] w (SdOut w (sdR ls p)) := by
  obtain ⟨i0, hi, hz0, hz1, hz2⟩ := info_parts info_tok
  have HL := Lib.hid hl
  clear hl
  by_cases hp : p < 0
  · have HR := Lib.hid (sdR_neg (ls := ls) hp)
    have dp : decide (p < 0) = true := decide_eq_true hp
    clear hp
    go_enter Tryd.func22, Tryd.ntmps22
    go_wp2
    go_ret2
    rw [HR.out]
    exact .inr ⟨_, _, 1, rfl, rfl, own_litJ (Blk.made w _ _) (Nat.le_refl _), (Below.refl _ _).alloc (Nat.le_refl _) _⟩
  · obtain ⟨k, rfl⟩ : ∃ k : Nat, p = k := ⟨p.toNat, by omega⟩
    have dk : decide ((k : Int) < 0) = false := by simp
    clear hp
    by_cases hk : k < n
    · have hki : ¬ (n : Int) ≤ (k : Int) := by omega
      obtain ⟨b, off, rfl, hb, hc⟩ := HL.out.2 (by omega)
      obtain ⟨Ak, nk, ck, c1, t1, m1⟩ := hc k hk
      have HT := Lib.hid t1
      have HLL : Hid (ls.length = n) := HL.out.1
      obtain ⟨q, hq⟩ : ∃ q, ls.getD k [] = q := ⟨_, rfl⟩
      have hqb : nk ≤ 1048576 := by
        have e := t1.1
        have := tot_take ls k (by rw [HLL.out]; exact hk)
        have h2 : tot (ls.take (k + 1)) ≤ tot ls := by
          unfold tot
          have e3 : (ls.map List.length).sum = ((ls.take (k + 1)).map List.length).sum + ((ls.drop (k + 1)).map List.length).sum := by rw [← List.sum_append, ← List.map_append, List.take_append_drop]
          omega
        unfold bulk at hm
        omega
      rw [hq] at HT t1
      have HQ := Lib.hid hq
      have hlen := t1.1
      clear hc t1 hq
      cases hok : Lv.levelOk q with
      | false =>
        have HR : Hid (sdR ls (k : Int) = none) := sdR_bad (by rw [HQ.out]; exact hok)
        have HO := Lib.hid hok
        clear hok
        go_enter Tryd.func22, Tryd.ntmps22
        go_wp2_with fail
        refine (specOk_any w B Ak nk ck q hB HT.out (by omega)).mono ?_
        rintro e w1 ⟨rfl, hb1⟩
        rw [HO.out]
        go_wp2
        go_ret2
        rw [HR.out]
        exact .inl ⟨rfl, rfl, hb1⟩
      | true =>
        have HR : Hid (sdR ls (k : Int) = some q) := by
          show _ = _
          rw [sdR_yes (by rw [HLL.out]; exact hk) (by rw [HQ.out]; exact hok), HQ.out]
        have HO := Lib.hid hok
        have h24 := Dc.ok_two hok
        rw [hlen] at h24
        clear hok hlen
        go_enter Tryd.func22, Tryd.ntmps22
        go_wp2_with fail
        refine (specOk_any w B Ak nk ck q hB HT.out (by omega)).mono ?_
        rintro e w1 ⟨rfl, hb1⟩
        rw [HO.out]
        have c2 := (hb1.cell (p := ⟨b, off + k, none⟩) (by show b < _; omega)).trans c1
        have hs1 := hb1.size
        have HB1 := Lib.hid hb1
        clear c1 hb1
        have hb1w : Below w1.heap.size w1 (w1.alloc (.cells #[] 56)) := (Below.refl _ _).alloc (Nat.le_refl _) _
        have c3 : ∀ o, (w1.alloc o).cell? ⟨b, off + k, none⟩ = some (.slice Ak nk ck) := fun o => (((Below.refl w1.heap.size w1).alloc (Nat.le_refl _) o).cell (p := ⟨b, off + k, none⟩) (by show b < _; omega)).trans c2
        obtain ⟨q0, rfl, hq0⟩ := (HT.out.below ((HB1.out.trans (hb1w.mono hs1)).mono hB)).tokA (by omega)
        have ho0 : OwnT (w1.alloc (.cells #[] 56)) w1.heap.size (some ⟨w1.heap.size, 0, none⟩) 0 0 [] := World.ownsRow_made w1 #[] 0 (Nat.le_refl _) (by simp [maxLen]) (by simp)
        have hcl := tokCells_len q
        rw [HT.out.1] at hcl
        have HCL := Lib.hid hcl
        clear hcl
        go_wp2_with (at_builtin; refine wpList_append_own _ rfl (.tmp 23) (.tmp 28) 35 rfl w1.heap.size 56 i0 (.agg #[.int .i64 0, .int .i64 0]) 2 16 Tryd.underlying35 hi hz0 hz1 hz2 rfl (by decide) (.slice (some ⟨w1.heap.size, 0, none⟩) 0 0) 0 (tokCells []) rfl ho0 q0 nk ck (tokCells q) rfl HCL.out hq0.2 (tokCells_one q) (by unfold maxLen; omega) (by omega) (by simp) ?_; intro v' w3 hown' hgrow hnil; obtain ⟨g', cap', rfl⟩ := side_take hown' hnil)
        have HB3 : Hid (Below w.heap.size w w3) := HB1.out.trans ((hb1w.grown hgrow (by simp) (fun k h => by have h' : w1.heap.size = k := (by simpa [Value.ownBlock] using h); omega)).mono hs1)
        have HW0 : Hid (OwnT w3 w.heap.size (some ⟨g', 0, none⟩) nk cap' q) := by
          show OwnT _ _ _ _ _ _
          have h := hown'
          rw [tokCells_nil, List.nil_append, Nat.zero_add] at h
          exact own_base h hs1
        clear hown' hgrow hnil ho0 hq0 hb1w c2 c3
        go_wp2
        go_ret2
        rw [HR.out]
        have e := HT.out.1
        subst e
        exact .inr ⟨q, g', cap', rfl, rfl, HW0.out, HB3.out⟩
    · have hki : (n : Int) ≤ (k : Int) := by omega
      have HR : Hid (sdR ls (k : Int) = none) := sdR_out (by have := HL.out.1; omega)
      clear hk
      go_enter Tryd.func22, Tryd.ntmps22
      go_wp2
      go_ret2
      rw [HR.out]
      exact .inl ⟨rfl, rfl, Below.refl _ _⟩
end Go.Proofs.YtgebjnoicgmdoaaDoor
