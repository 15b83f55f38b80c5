/- An atom under a table of longest ways: l06Atom of the reference model. -/
/- ConHolds and ConsHold, of the program and of the reference model. -/
/- Plain facts: what it is that a list of constraints holds in an env. -/
/- ConsCore of the reference model. -/
/- ConsSigns of the reference model. -/
/- Plain facts: what it is that a list of constraints holds in an env; the signs that it allows. -/
import Derived.Test.YtgebjnoicgmdoaaGreatDoorUnAtom
import Derived.Test.YtgebjnoicgmdoaaGreatDoorSFree
import Derived.Test.YtgebjnoicgmdoaaGreatDoorSlc
import Derived.Test.YtgebjnoicgmdoaaGreatDoorNOk1
import Derived.Test.YtgebjnoicgmdoaaGreatDoorNMap
import Derived.Test.YtgebjnoicgmdoaaGreatDoorPtSat
import Derived.BigQuiet
import Derived.Test.YtgebjnoicgmdoaaGreatDoorMeth
import Derived.Test.YtgebjnoicgmdoaaGreatDoorDcMath

namespace Go.Proofs.YtgebjnoicgmdoaaGreatDoor
open Go.RowKit
open Cs (Cn Tb)

set_option maxRecDepth 100000 in
set_option maxHeartbeats 1600000 in
theorem l06Atom_any (w : World) (B base g cap : Nat) (rw' cp : Nat → Nat) (T : Tb) (p x : Int) (A : Option Addr) (n c : Nat) (l : List (Int × Int)) (hB : B ≤ w.heap.size) (ht : TabN w base g cap 6 rw' cp T) (hl : TokR w B A n l) (hn : (n : Int) ≤ 140737488355328) (hok : Nm.AllOk l) (hp1 : -1 ≤ p) (hp2 : p < 5) (hT : ∀ i j, -1 ≤ T i j ∧ T i j ≤ 1000) :
    Calls Tryz.prog 102 #[.slice (some ⟨g, 0, none⟩) 6 cap, .agg #[.int .i64 p, .int .i64 x], .slice A n c] w fun e w' => e = .returned (.bool (Un.atB T (p, x) l)) ∧ Below w.heap.size w w' := by
  obtain ⟨W0, hW0⟩ : ∃ W, w.alloc (.cells #[.int .i64 p, .int .i64 x] 92) = W := ⟨_, rfl⟩
  have HB0 : Hid (Below w.heap.size w W0) := by show Below _ _ _; rw [← hW0]; exact (Below.refl _ _).alloc (Nat.le_refl _) _
  have HK0 : Hid (Blk W0 w.heap.size 92 #[.int .i64 p, .int .i64 x]) := by show Blk _ _ _ _; rw [← hW0]; exact Blk.made _ _ _
  obtain ⟨u, hu⟩ : ∃ u : Nat, p + 1 = u := ⟨(p + 1).toNat, by omega⟩
  have hu6 : u < 6 := by omega
  have hui : (u : Int) < 6 := by omega
  have HU := Lib.hid hu
  have HOK := Lib.hid hok
  have HTB := Lib.hid hT
  have HTD := Lib.hid ht
  clear hok hT ht
  go_enter Tryz.func102, Tryz.ntmps102
  go_wp2
  clear hW0
  go_loopw [7] (fun i wr => ∃ k : Nat, k ≤ n ∧ i = .int .i64 k ∧ Hid (∀ j, j < k → Un.leB T (p, x) (l.getD j (0, 0)) = false) ∧ Hid (Below w.heap.size w wr) ∧ Hid (Blk wr w.heap.size 92 #[.int .i64 p, .int .i64 x])) (fun i _ => n - (intOf i).toNat)
  case atStart => exact ⟨0, Nat.zero_le _, rfl, (fun j hj => absurd hj (by omega)), HB0.out, HK0.out⟩
  case round =>
    clear HB0 HK0
    obtain ⟨k, hk, rfl, HA, HB, HK⟩ := hrel
    by_cases hlt : k < n
    · have hki : (k : Int) < (n : Int) := by omega
      obtain ⟨b, off, rfl, hb, hc⟩ := hl.2 (by omega)
      obtain ⟨c1, c2⟩ := hc k hlt
      have HL := Lib.hid hl.1
      have hat := (Nm.atOk_iff _).1 (HOK.out k (by rw [hl.1]; exact hlt))
      obtain ⟨t, ht⟩ : ∃ t, l.getD k (0, 0) = t := ⟨_, rfl⟩
      rw [ht] at c1 c2 hat
      obtain ⟨q, y⟩ := t
      simp only at hat
      obtain ⟨a1, a2, a3, a4⟩ := hat
      have HT := Lib.hid ht
      have k1 := (HB.out.cell (p := ⟨b, off + k * 2, none⟩) (by show b < _; omega)).trans c1
      have k2 := (HB.out.cell (p := ⟨b, off + k * 2 + 1, none⟩) (by show b < _; omega)).trans c2
      obtain ⟨v, hv⟩ : ∃ v : Nat, q + 1 = v := ⟨(q + 1).toNat, by omega⟩
      have hv6 : v < 6 := by omega
      have hvi : (v : Int) < 6 := by omega
      have z0 : wr.cell? ⟨w.heap.size, 0, none⟩ = some (.int .i64 p) := HK.out.cell 0
      have z1 : wr.cell? ⟨w.heap.size, 1, none⟩ = some (.int .i64 x) := HK.out.cell 1
      have q1 := (HTD.out.below HB.out).head hu6
      obtain ⟨q2, _⟩ := (HTD.out.below HB.out).spot hu6 hv6
      have wu : IntKind.i64.wrap (u : Int) = u := IntWalk.i64_in _ ⟨by omega, by omega⟩
      have wv : IntKind.i64.wrap (v : Int) = v := IntWalk.i64_in _ ⟨by omega, by omega⟩
      have hu0 : 0 ≤ (u : Int) := by omega
      have hv0 : 0 ≤ (v : Int) := by omega
      obtain ⟨f, hf⟩ : ∃ f, T u v = f := ⟨_, rfl⟩
      have hfb := HTB.out u v
      rw [hf] at hfb q2
      have HLE : Hid (Un.leB T (p, x) (q, y) = (decide (0 ≤ f) && decide (x ≤ f + y))) := by show _ = _; rw [Un.leB_at HU.out hv, hf]
      have yes_of : 0 ≤ f → x ≤ f + y → Hid (Un.atB T (p, x) l = true) := fun h1 h2 => Un.atB_some (k := k) (by rw [HL.out]; exact hlt) (by rw [HT.out, HLE.out, decide_eq_true h1, decide_eq_true h2]; rfl)
      have no_of : ¬ (0 ≤ f ∧ x ≤ f + y) → Hid (∀ j, j < k + 1 → Un.leB T (p, x) (l.getD j (0, 0)) = false) := by
        intro h j hj
        by_cases e : j = k
        · subst e
          rw [HT.out, HLE.out, Bool.and_eq_false_iff]
          by_cases h1 : 0 ≤ f
          · exact .inr (decide_eq_false fun h2 => h ⟨h1, h2⟩)
          · exact .inl (decide_eq_false h1)
        · exact HA.out j (by omega)
      have HB2 : Hid (Below w.heap.size w wr.drew) := HB.out.drew
      have HB3 : Hid (Below w.heap.size w wr.drew.drew) := HB.out.drew.drew
      have HK2 : Hid (Blk wr.drew w.heap.size 92 #[.int .i64 p, .int .i64 x]) := HK.out
      have HK3 : Hid (Blk wr.drew.drew w.heap.size 92 #[.int .i64 p, .int .i64 x]) := HK.out
      have wf : IntKind.i64.wrap (f + y) = f + y := IntWalk.i64_in _ ⟨by omega, by omega⟩
      clear c1 c2 hc ht hf hl
      by_cases h1 : 0 ≤ f
      · have df : decide (0 ≤ f) = true := decide_eq_true h1
        by_cases h2 : x ≤ f + y
        · have dx : decide (x ≤ f + y) = true := decide_eq_true h2
          have HR := yes_of h1 h2
          clear yes_of no_of
          go_wp2_with fail
          refine region_tail 14 (by kernel_rfl) (by kernel_rfl) ?_
          simp only [List.take_succ_cons, List.take_zero, List.drop_succ_cons, List.drop_zero]
          repeat still_step
          refine wpStill_nil ?_
          go_wp2_with fail
          refine region_tail 13 (by kernel_rfl) (by kernel_rfl) ?_
          simp only [List.take_succ_cons, List.take_zero, List.drop_succ_cons, List.drop_zero]
          repeat still_step
          refine wpStill_nil ?_
          go_wp2
          go_ret
          exact ⟨by rw [HR.out]; rfl, HB3.out⟩
        · have dx : decide (x ≤ f + y) = false := decide_eq_false h2
          have HA2 := no_of (fun h => h2 h.2)
          clear yes_of no_of
          go_wp2_with fail
          refine region_tail 14 (by kernel_rfl) (by kernel_rfl) ?_
          simp only [List.take_succ_cons, List.take_zero, List.drop_succ_cons, List.drop_zero]
          repeat still_step
          refine wpStill_nil ?_
          go_wp2_with fail
          refine region_tail 13 (by kernel_rfl) (by kernel_rfl) ?_
          simp only [List.take_succ_cons, List.take_zero, List.drop_succ_cons, List.drop_zero]
          repeat still_step
          refine wpStill_nil ?_
          go_wp2
          go_roundw
          case rel => exact ⟨k + 1, by omega, by go_num, HA2.out, HB3.out, HK3.out⟩
          case measure => simp [intOf]; omega
      · have HA2 := no_of (fun h => h1 h.1)
        obtain rfl : f = -1 := by omega
        clear yes_of no_of wf hfb h1
        go_wp2_with fail
        refine region_tail 14 (by kernel_rfl) (by kernel_rfl) ?_
        simp only [List.take_succ_cons, List.take_zero, List.drop_succ_cons, List.drop_zero]
        repeat still_step
        refine wpStill_nil ?_
        go_wp2_with fail
        go_region
        go_wp2
        go_roundw
        case rel => exact ⟨k + 1, by omega, by go_num, HA2.out, HB3.out, HK3.out⟩
        case measure => simp [intOf]; omega
    · have HR : Hid (Un.atB T (p, x) l = false) := Un.atB_not (fun j hj => HA.out j (by have := hl.1; omega))
      clear hl
      have hki : ¬ (k : Int) < (n : Int) := by omega
      go_wp2
      go_ret
      exact ⟨by rw [HR.out]; rfl, HB.out⟩
end Go.Proofs.YtgebjnoicgmdoaaGreatDoor

namespace Go.Proofs.YtgebjnoicgmdoaaGreatDoor
open Go.RowKit
open Cs (Cn)

theorem IntOwn.below {w w' : World} {g n B : Nat} {l : List Int} (h : IntOwn w g n l) (hb : Below B w w') (hg : g < B) : IntOwn w' g n l := by
  obtain ⟨hl, cs, hblk, rest⟩ := h
  exact ⟨hl, cs, hblk.below hb hg, rest⟩
/-- the value of a side in an env -/
def valR (env : List Int) (p : Int) : Int := if p < 0 then 0 else env.getD p.toNat 0
/-- whether a constraint is satisfied in an env -/
def holdR (env : List Int) (c : Cn) : Bool := if c.2.1 = 0 then decide (valR env c.1 ≤ valR env c.2.2) else if c.2.1 = 1 then decide (valR env c.1 < valR env c.2.2) else (valR env c.1 == valR env c.2.2)
def conHoldsR (c : Cn) (env : List Int) : Bool := Cs.cOk c && envOk env && holdR env c
def consHoldR (l : List Cn) (env : List Int) : Bool := consOkR l && envOk env && l.all (holdR env)
theorem envOk_len {env : List Int} (h : envOk env = true) : env.length = 5 := by
  unfold envOk at h
  rw [Bool.and_eq_true] at h
  simpa using h.1

set_option maxHeartbeats 400000 in
theorem sideValue_any (w : World) (B : Nat) (A : Option Addr) (c : Nat) (env : List Int) (p : Int) (hR : IntR w B A 5 env) (h0 : -1 ≤ p) (h5 : p < 5) :
    Calls Tryz.prog 107 #[.int .i64 p, .slice A 5 c] w fun e w' => e = .returned (.int .i64 (valR env p)) ∧ w' = w := by
  by_cases hn : p = -1
  · have HF : Hid (valR env p = 0) := if_pos (by omega)
    subst hn
    go_enter Tryz.func107, Tryz.ntmps107
    go_wp2
    go_ret
    exact ⟨by rw [HF.out]; rfl, rfl⟩
  · obtain ⟨k, hk⟩ : ∃ k : Nat, p = k := ⟨p.toNat, by omega⟩
    subst hk
    have HF : Hid (valR env (k : Int) = env.getD k 0) := (if_neg (by omega)).trans (by rw [Int.toNat_natCast])
    have d1 : ((k : Int) == -1) = false := by simp
    obtain ⟨b, off, rfl, hb, hc⟩ := hR.2 (by omega)
    have k1 := hc k (by omega)
    generalize env.getD k 0 = v at k1 HF
    clear hc hR
    go_enter Tryz.func107, Tryz.ntmps107
    go_wp2
    go_ret
    exact ⟨by rw [HF.out]; rfl, rfl⟩

set_option maxRecDepth 100000 in
set_option maxHeartbeats 1600000 in
theorem conHolds_any (w : World) (B : Nat) (A : Option Addr) (c : Nat) (env : List Int) (U R V : Int) (hB : B ≤ w.heap.size) (hR : IntR w B A 5 env) (hok : Cs.cOk (U, R, V) = true) :
    Calls Tryz.prog 64 #[.agg #[.int .i64 U, .int .i64 R, .int .i64 V], .slice A 5 c] w fun e w' => e = .returned (.bool (holdR env (U, R, V))) ∧ Below w.heap.size w w' := by
  obtain ⟨W0, hW0⟩ : ∃ W, w.alloc (.cells #[.int .i64 U, .int .i64 R, .int .i64 V] 41) = W := ⟨_, rfl⟩
  have hb0 : Below w.heap.size w W0 := by rw [← hW0]; exact (Below.refl _ _).alloc (Nat.le_refl _) _
  have bc0 : Blk W0 w.heap.size 41 #[.int .i64 U, .int .i64 R, .int .i64 V] := by rw [← hW0]; exact Blk.made _ _ _
  have y0 : W0.cell? ⟨w.heap.size, 0, none⟩ = some (.int .i64 U) := bc0.cell 0
  have y1 : W0.cell? ⟨w.heap.size, 1, none⟩ = some (.int .i64 R) := bc0.cell 1
  have y2 : W0.cell? ⟨w.heap.size, 2, none⟩ = some (.int .i64 V) := bc0.cell 2
  have HB0 := Lib.hid hb0
  have HR := Lib.hid (hR.below (hb0.mono hB))
  have ho := (Cs.cOk_iff _).1 hok
  replace ho : (-1 ≤ U ∧ U < 5) ∧ (-1 ≤ V ∧ V < 5) ∧ 0 ≤ R ∧ R ≤ 2 := ho
  have HO := Lib.hid ho
  have hR2 := ho.2.2
  clear hb0 bc0 hR ho hok
  obtain ⟨x, hx⟩ : ∃ x, valR env U = x := ⟨_, rfl⟩
  obtain ⟨y, hy⟩ : ∃ y, valR env V = y := ⟨_, rfl⟩
  have HH : Hid (holdR env (U, R, V) = if R = 0 then decide (x ≤ y) else if R = 1 then decide (x < y) else (x == y)) := by
    show _ = _
    unfold holdR
    simp only [hx, hy]
  have HX := Lib.hid hx
  have HY := Lib.hid hy
  have SU : Hid (∀ m, Calls Tryz.prog 107 #[.int .i64 U, .slice A 5 c] (W0.drewN m) fun e w' => e = .returned (.int .i64 x) ∧ w' = W0.drewN m) := fun m => by
    rw [← HX.out]
    exact sideValue_any (W0.drewN m) B A c env U (HR.out.keep fun _ _ => rfl) HO.out.1.1 HO.out.1.2
  have SV : Hid (∀ m, Calls Tryz.prog 107 #[.int .i64 V, .slice A 5 c] (W0.drewN m) fun e w' => e = .returned (.int .i64 y) ∧ w' = W0.drewN m) := fun m => by
    rw [← HY.out]
    exact sideValue_any (W0.drewN m) B A c env V (HR.out.keep fun _ _ => rfl) HO.out.2.1.1 HO.out.2.1.2
  clear hx hy
  by_cases e1 : R = 1
  · have HF : Hid (holdR env (U, R, V) = decide (x < y)) := HH.out.trans ((if_neg (by omega)).trans (if_pos e1))
    subst e1
    go_enter Tryz.func64, Tryz.ntmps64
    go_wp2
    go_quiet (first | (go_at_call 107; first | (with_reducible refine Calls.quiet_of_same (SU.out _)) | (with_reducible refine Calls.quiet_of_same (SV.out _))))
    go_wp2
    go_ret
    exact ⟨by rw [HF.out]; rfl, ⟨HB0.out.os, HB0.out.tape, HB0.out.output, HB0.out.size, HB0.out.block⟩⟩
  · have d1 : (R == 1) = false := by simpa using e1
    by_cases e2 : R = 2
    · have HF : Hid (holdR env (U, R, V) = (x == y)) := HH.out.trans ((if_neg (by omega)).trans (if_neg (by omega)))
      subst e2
      go_enter Tryz.func64, Tryz.ntmps64
      go_wp2
      go_quiet (first | (go_at_call 107; first | (with_reducible refine Calls.quiet_of_same (SU.out _)) | (with_reducible refine Calls.quiet_of_same (SV.out _))))
      go_wp2
      go_ret
      exact ⟨by rw [HF.out]; rfl, ⟨HB0.out.os, HB0.out.tape, HB0.out.output, HB0.out.size, HB0.out.block⟩⟩
    · have HF : Hid (holdR env (U, R, V) = decide (x ≤ y)) := HH.out.trans (if_pos (by omega))
      have d2 : (R == 2) = false := by simpa using e2
      clear e1 e2
      go_enter Tryz.func64, Tryz.ntmps64
      go_wp2
      go_quiet (first | (go_at_call 107; first | (with_reducible refine Calls.quiet_of_same (SU.out _)) | (with_reducible refine Calls.quiet_of_same (SV.out _))))
      go_wp2
      go_ret
      exact ⟨by rw [HF.out]; rfl, ⟨HB0.out.os, HB0.out.tape, HB0.out.output, HB0.out.size, HB0.out.block⟩⟩

end Go.Proofs.YtgebjnoicgmdoaaGreatDoor

namespace Go.Proofs.YtgebjnoicgmdoaaGreatDoor
open Cs (Cn)

theorem valR_of {env : List Int} {p : Int} (h : -1 ≤ p) : valR env p = Cs.valOf env (Cs.node p) := by
  unfold valR Cs.node
  by_cases e : p < 0
  · rw [if_pos e, show (p + 1).toNat = 0 by omega]
    rfl
  · rw [if_neg e, show (p + 1).toNat = p.toNat + 1 by omega]
    rfl
theorem hold_sat {env : List Int} {c : Cn} (hc : Cs.cOk c = true) : holdR env c = true ↔ Cs.Sat (Cs.valOf env) c := by
  have h := (Cs.cOk_iff c).1 hc
  unfold holdR Cs.Sat
  rw [valR_of h.1.1, valR_of h.2.1.1]
  split
  · simp
  · split
    · simp
    · simp
theorem envOk_pos {env : List Int} (h : envOk env = true) : env.length = 5 ∧ ∀ p, 0 ≤ env.getD p 0 := by
  unfold envOk at h
  simp only [Bool.and_eq_true, decide_eq_true_eq, List.all_eq_true] at h
  refine ⟨h.1, fun p => ?_⟩
  rw [List.getD_eq_getElem?_getD]
  cases hg : env[p]? with
  | none => exact Int.le_refl _
  | some x => exact (h.2 x (List.mem_of_getElem? hg)).1
theorem consHold_sat {l : List Cn} {env : List Int} (hok : consOkR l = true) (he : envOk env = true) : consHoldR l env = true ↔ Cs.SatAll (Cs.valOf env) l := by
  have h1 := (consOkR_ok hok).1
  unfold consHoldR
  rw [hok, he, Bool.true_and, Bool.true_and, List.all_eq_true]
  exact ⟨fun h => ⟨Cs.valOf_val (envOk_pos he).2, fun c hc => (hold_sat (h1 c hc)).1 (h c hc)⟩, fun h c hc => (hold_sat (h1 c hc)).2 (h.2 c hc)⟩
end Go.Proofs.YtgebjnoicgmdoaaGreatDoor

namespace Go.Proofs.YtgebjnoicgmdoaaGreatDoor
open Go.RowKit
open Cs (Cn Tb)

/-- indices as numbers -/
def natI (l : List Nat) : List Int := l.map fun (i : Nat) => (i : Int)
theorem natI_len (l : List Nat) : (natI l).length = l.length := by simp [natI]
theorem natI_snoc (l : List Nat) (k : Nat) : natI (l ++ [k]) = natI l ++ [(k : Int)] := by simp [natI]
/-- the walk's memory -/
structure CoreW (w : World) (n gb m : Nat) (A : Option Addr) (c : Nat) (out : List Int) (g : Nat → Bool) (wr : World) : Prop where
  own : OwnI wr w.heap.size A m c out
  gone : Blk wr gb 4 (goneA g n)
  bel : Below w.heap.size w wr
theorem CoreW.set {w wr : World} {n gb m c : Nat} {A : Option Addr} {out : List Int} {g : Nat → Bool} (h : CoreW w n gb m A c out g wr) (hg : w.heap.size ≤ gb) (i : Nat) (b : Bool) :
    CoreW w n gb m A c out (Cs.mark g i b) (wr.setCell ⟨gb, i, none⟩ (.bool b)) := by
  have hw : Wrote gb wr (wr.setCell ⟨gb, i, none⟩ (.bool b)) := Wrote.set _ _
  refine ⟨h.own.kept hw.1 (.inr (own_apart h.own h.gone (by decide))), ?_, hw.below h.bel h.bel.size hg⟩
  have := Blk.put h.gone i (.bool b)
  rw [goneA_set] at this
  exact this
theorem CoreW.later {w wr w' : World} {n gb m c : Nat} {A : Option Addr} {out : List Int} {g : Nat → Bool} (h : CoreW w n gb m A c out g wr) (hb : Below wr.heap.size wr w') : CoreW w n gb m A c out g w' :=
  ⟨own_below' h.own hb, Blk.below h.gone hb h.gone.lt, h.bel.trans (hb.mono h.bel.size)⟩

end Go.Proofs.YtgebjnoicgmdoaaGreatDoor

namespace Go.Proofs.YtgebjnoicgmdoaaGreatDoor
open Go.RowKit
open Cs (Cn Tb)

/-- a sign that the list excludes -/
def gS (l : List Cn) (S : Nat) : Bool := !Cs.flat (Cs.signed l fun p => Sg.has (S : Int) (p : Int))
/-- the answer of ConsSigns -/
def signsR (l : List Cn) : List Int := if consOkR l = true then natI (Cs.foundI (gS l) 32) else []
set_option maxRecDepth 100000 in
set_option maxHeartbeats 3200000 in
theorem specConsSigns_any (w : World) (B b off n c : Nat) (l : List Cn) (hB : B ≤ w.heap.size) (hl : ConR w B (some ⟨b, off, none⟩) n l) (hn : (n : Int) ≤ 140737488355328) :
    Calls Tryz.prog 100 #[.slice (some ⟨b, off, none⟩) n c] w fun e w' => ∃ Ao co, e = .returned (.slice Ao (signsR l).length co) ∧ OwnI w' w.heap.size Ao (signsR l).length co (signsR l) ∧ Below w.heap.size w w' := by
  obtain ⟨i0, hi, hz0, hz1, hz2⟩ := info_parts info_int
  have HO0 : Hid (OwnI (w.alloc (.cells #[] 3)) w.heap.size (some ⟨w.heap.size, 0, none⟩) 0 0 (natI (Cs.foundI (gS l) 0))) := World.ownsRow_made w #[] 0 (Nat.le_refl _) (by simp [maxLen]) (by simp)
  have HB0 : Hid (Below w.heap.size w (w.alloc (.cells #[] 3))) := (Below.refl _ _).alloc (Nat.le_refl _) _
  have HL := Lib.hid hl
  clear hl
  go_enter Tryz.func100, Tryz.ntmps100
  go_wp2
  go_loopw [3, 4] (fun v i wr => ∃ (k m g2 c2 : Nat), k ≤ 32 ∧ i = .int .i64 k ∧ v = .slice (some ⟨g2, 0, none⟩) m c2 ∧ m ≤ k ∧ (0 < k → consOkR l = true) ∧ Hid (OwnI wr w.heap.size (some ⟨g2, 0, none⟩) m c2 (natI (Cs.foundI (gS l) k))) ∧ Hid (Below w.heap.size w wr)) (fun _ i _ => 32 - (intOf i).toNat)
  case atStart => exact ⟨0, 0, w.heap.size, 0, by omega, rfl, rfl, by omega, fun h => absurd h (by omega), HO0.out, HB0.out⟩
  case round =>
    clear HO0 HB0
    obtain ⟨k, m, g2, c2, hk, rfl, rfl, hmk, hpos, HO, HB⟩ := hrel
    have hszr := HB.out.size
    have HPOS := Lib.hid hpos
    clear hpos
    by_cases hlt : k < 32
    · have hki : (k : Int) ≤ 31 := by omega
      have dki : decide ((k : Int) ≤ 31) = true := decide_eq_true hki
      go_wp2_with fail
      refine (specConsOk_any wr B (some ⟨b, off, none⟩) n c l (by omega) (HL.out.below (HB.out.mono hB)) hn).mono ?_
      rintro e w1 ⟨rfl, hb1⟩
      have HB1 := Lib.hid (HB.out.trans (hb1.mono hszr))
      have HO1 := Lib.hid (own_below' HO.out hb1)
      clear hb1
      cases h1 : consOkR l with
      | false =>
        have HF : Hid (signsR l = []) := if_neg (by rw [h1]; decide)
        have hk0 : k = 0 := by
          rcases Nat.eq_zero_or_pos k with h | h
          · exact h
          · have := HPOS.out h; rw [h1] at this; cases this
        obtain rfl : m = 0 := by omega
        have HO2 : Hid (OwnI w1 w.heap.size (some ⟨g2, 0, none⟩) 0 c2 []) := by have h := HO1.out; rw [hk0] at h; exact h
        clear h1 hk0
        go_wp2
        go_ret
        rw [HF.out]
        exact ⟨_, _, rfl, HO2.out, HB1.out⟩
      | true =>
        have H1 := Lib.hid h1
        have HP := Lib.hid (consOkR_ok h1)
        have hn24 : n ≤ 24 := by have := (consOkR_ok h1).2; rw [HL.out.1] at this; exact this
        have hs1 := HB1.out.size
        clear h1
        go_wp2_with fail
        refine (l05Signed_any w1 B b off n c l k (by omega) (HL.out.below (HB1.out.mono hB)) (by omega)).mono ?_
        rintro e w2 ⟨g5, c5, rfl, ho2, hb2⟩
        have HB2 := Lib.hid (HB1.out.trans (hb2.mono hs1))
        have HO2 := Lib.hid (own_below' HO1.out hb2)
        have HR2 := Lib.hid (OwnC.reads ho2)
        have hs2 := HB2.out.size
        clear ho2 hb2
        go_wp2_with fail
        refine (l05Paths_any w2 w2.heap.size (some ⟨g5, 0, none⟩) (n + 5) c5 _ (Nat.le_refl _) HR2.out (Cs.signed_ok HP.out.1 _) (by omega)).mono ?_
        rintro e w3 ⟨hb3, ⟨hf, g, cap, rw', cp, rfl, _⟩ | ⟨hf, rfl⟩⟩
        · have HFS : Hid (Cs.foundI (gS l) (k + 1) = Cs.foundI (gS l) k ++ [k]) := by
            show _ = _
            rw [Cs.foundI_succ, if_neg]
            show ¬ (!Cs.flat _) = true
            rw [hf]
            decide
          have HB3 := Lib.hid (HB2.out.trans (hb3.mono hs2))
          have hown := own_below' HO2.out hb3
          have hs3 := HB3.out.size
          clear hb3 hf
          go_wp2_with (at_builtin; refine wpList_append_own _ rfl (.tmp 24) (.tmp 26) 29 rfl w.heap.size 3 i0 (.int .i64 0) 1 8 Tryz.underlying29 hi hz0 hz1 hz2 rfl (by decide) (.slice (some ⟨g2, 0, none⟩) m c2) m ((natI (Cs.foundI (gS l) k)).map (Value.int .i64)) rfl (hown.alloc _) ⟨w3.heap.size, 0, none⟩ 1 1 [.int .i64 (k : Int)] rfl rfl (cell_one_new _ _ _) (fun u hu => by simp at hu; subst hu; rfl) (by unfold maxLen; omega) (by omega) (by simp; omega) ?_; intro v' w8 hown' hgrow hnil)
          obtain ⟨g8, c8, rfl⟩ : ∃ g' c', v' = .slice (some ⟨g', 0, none⟩) (m + 1) c' := by
            rcases hown'.2 with ⟨h0, _⟩ | ⟨g', c', _, h0, _⟩
            · have := (hnil.1 h0).1
              cases this
            · exact ⟨g', c', h0⟩
          have HB8 : Hid (Below w.heap.size w w8) := (HB3.out.alloc hs3 _).grown hgrow (by simp; omega) (fun x h => (hown.lt x h).1)
          have HO8 : Hid (OwnI w8 w.heap.size (some ⟨g8, 0, none⟩) (m + 1) c8 (natI (Cs.foundI (gS l) (k + 1)))) := by
            show OwnI _ _ _ _ _ _
            rw [HFS.out, natI_snoc]
            unfold OwnI
            rw [List.map_append]
            exact hown'
          clear hown hown' hgrow hnil
          go_wp2
          go_roundw
          case rel => exact ⟨k + 1, m + 1, g8, c8, by omega, by go_num, rfl, by omega, fun _ => H1.out, HO8.out, HB8.out⟩
          case measure => simp [intOf]; omega
        · have HFS : Hid (Cs.foundI (gS l) (k + 1) = Cs.foundI (gS l) k) := by
            show _ = _
            rw [Cs.foundI_succ, if_pos]
            show (!Cs.flat _) = true
            rw [hf]
            decide
          have HB3 := Lib.hid (HB2.out.trans (hb3.mono hs2))
          have HO3 := Lib.hid (own_below' HO2.out hb3)
          clear hb3 hf
          go_wp2
          go_roundw
          case rel => exact ⟨k + 1, m, g2, c2, by omega, by go_num, rfl, by omega, fun _ => H1.out, by rw [HFS.out]; exact HO3.out, HB3.out⟩
          case measure => simp [intOf]; omega
    · have hki : ¬ (k : Int) ≤ 31 := by omega
      have dki : decide ((k : Int) ≤ 31) = false := decide_eq_false hki
      have HF : Hid (signsR l = natI (Cs.foundI (gS l) 32)) := if_pos (HPOS.out (by omega))
      have HK : Hid (k = 32) := by show k = 32; omega
      have HM : Hid ((natI (Cs.foundI (gS l) 32)).length = m) := by
        have h := HO.out.1
        rw [List.length_map, Nat.mul_one, HK.out] at h
        exact h
      rw [HK.out] at HO
      clear HK
      go_wp2
      go_ret
      rw [HF.out, HM.out]
      exact ⟨_, _, rfl, HO.out, HB.out⟩
end Go.Proofs.YtgebjnoicgmdoaaGreatDoor

namespace Go.Proofs.YtgebjnoicgmdoaaGreatDoor
open Cs (Cn)

theorem signs_eq {l : List Cn} (hok : consOkR l = true) : signsR l = natI (Cs.foundI (gS l) 32) := if_pos hok
theorem natI_at {F : List Nat} {k : Nat} (hk : k < F.length) : (natI F).getD k 0 = ((F[k] : Nat) : Int) := by
  unfold natI
  rw [List.getD_eq_getElem?_getD, List.getElem?_map, List.getElem?_eq_getElem hk]
  rfl
theorem found_mem {g : Nat → Bool} {N S : Nat} (h : S ∈ Cs.foundI g N) : S < N ∧ g S = false := by
  unfold Cs.foundI at h
  rw [List.mem_filter, List.mem_range] at h
  exact ⟨h.1, by simpa using h.2⟩
theorem gS_no {l : List Cn} {S : Nat} (h : gS l S = false) : Cs.flat (Un.sgL l (S : Int)) = true := by
  unfold gS at h
  cases hf : Cs.flat (Un.sgL l (S : Int)) with
  | true => rfl
  | false =>
    rw [show Cs.flat (Cs.signed l fun p => Sg.has (S : Int) (p : Int)) = false from hf] at h
    cases h
end Go.Proofs.YtgebjnoicgmdoaaGreatDoor
