/- ConHolds and ConsHold, of the program and of the reference model. -/
/- Plain facts: what it is that a list of constraints holds in an env. -/
/- ConsLeast of the reference model. -/
/- A list with a sign: signedPaths of the program, SignEnv of both sides. -/
/- An atom and a list of atoms under a table of longest ways: atomLe of the program, AtomUnder of the program. -/
/- An atom under a table of longest ways: l06Atom of the reference model. -/
/- AtomUnder of the program. -/
/- ConsCore of the reference model. -/
import Derived.Test.YtgebjnoicgmdoaaGreatDoorPtSat
import Derived.BigQuiet
import Derived.Test.YtgebjnoicgmdoaaGreatDoorSigned
import Derived.Test.YtgebjnoicgmdoaaGreatDoorUnMath2
import Derived.Test.YtgebjnoicgmdoaaGreatDoorRsMath
import Derived.Test.YtgebjnoicgmdoaaGreatDoorEvMath
import Derived.Test.YtgebjnoicgmdoaaGreatDoorCls

namespace Go.Proofs.YtgebjnoicgmdoaaGreatDoor
open Go.RowKit
open Cs (Cn)

theorem IntOwn.below {w w' : World} {g n B : Nat} {l : List Int} (h : IntOwn w g n l) (hb : Below B w w') (hg : g < B) : IntOwn w' g n l := by
  obtain ⟨hl, cs, hblk, rest⟩ := h
  exact ⟨hl, cs, hblk.below hb hg, rest⟩
/-- the value of a side in an env -/
def valR (env : List Int) (p : Int) : Int := if p < 0 then 0 else env.getD p.toNat 0
/-- whether a constraint is satisfied in an env -/
def holdR (env : List Int) (c : Cn) : Bool := if c.2.1 = 0 then decide (valR env c.1 ≤ valR env c.2.2) else if c.2.1 = 1 then decide (valR env c.1 < valR env c.2.2) else (valR env c.1 == valR env c.2.2)
def conHoldsR (c : Cn) (env : List Int) : Bool := Cs.cOk c && envOk env && holdR env c
def consHoldR (l : List Cn) (env : List Int) : Bool := consOkR l && envOk env && l.all (holdR env)
theorem envOk_len {env : List Int} (h : envOk env = true) : env.length = 5 := by
  unfold envOk at h
  rw [Bool.and_eq_true] at h
  simpa using h.1

set_option maxHeartbeats 400000 in
theorem sideValue_any (w : World) (B : Nat) (A : Option Addr) (c : Nat) (env : List Int) (p : Int) (hR : IntR w B A 5 env) (h0 : -1 ≤ p) (h5 : p < 5) :
    Calls Tryz.prog 107 #[.int .i64 p, .slice A 5 c] w fun e w' => e = .returned (.int .i64 (valR env p)) ∧ w' = w := by
  by_cases hn : p = -1
  · have HF : Hid (valR env p = 0) := if_pos (by omega)
    subst hn
    go_enter Tryz.func107, Tryz.ntmps107
    go_wp2
    go_ret
    exact ⟨by rw [HF.out]; rfl, rfl⟩
  · obtain ⟨k, hk⟩ : ∃ k : Nat, p = k := ⟨p.toNat, by omega⟩
    subst hk
    have HF : Hid (valR env (k : Int) = env.getD k 0) := (if_neg (by omega)).trans (by rw [Int.toNat_natCast])
    have d1 : ((k : Int) == -1) = false := by simp
    obtain ⟨b, off, rfl, hb, hc⟩ := hR.2 (by omega)
    have k1 := hc k (by omega)
    generalize env.getD k 0 = v at k1 HF
    clear hc hR
    go_enter Tryz.func107, Tryz.ntmps107
    go_wp2
    go_ret
    exact ⟨by rw [HF.out]; rfl, rfl⟩

set_option maxRecDepth 100000 in
set_option maxHeartbeats 1600000 in
theorem conHolds_any (w : World) (B : Nat) (A : Option Addr) (c : Nat) (env : List Int) (U R V : Int) (hB : B ≤ w.heap.size) (hR : IntR w B A 5 env) (hok : Cs.cOk (U, R, V) = true) :
    Calls Tryz.prog 64 #[.agg #[.int .i64 U, .int .i64 R, .int .i64 V], .slice A 5 c] w fun e w' => e = .returned (.bool (holdR env (U, R, V))) ∧ Below w.heap.size w w' := by
  obtain ⟨W0, hW0⟩ : ∃ W, w.alloc (.cells #[.int .i64 U, .int .i64 R, .int .i64 V] 41) = W := ⟨_, rfl⟩
  have hb0 : Below w.heap.size w W0 := by rw [← hW0]; exact (Below.refl _ _).alloc (Nat.le_refl _) _
  have bc0 : Blk W0 w.heap.size 41 #[.int .i64 U, .int .i64 R, .int .i64 V] := by rw [← hW0]; exact Blk.made _ _ _
  have y0 : W0.cell? ⟨w.heap.size, 0, none⟩ = some (.int .i64 U) := bc0.cell 0
  have y1 : W0.cell? ⟨w.heap.size, 1, none⟩ = some (.int .i64 R) := bc0.cell 1
  have y2 : W0.cell? ⟨w.heap.size, 2, none⟩ = some (.int .i64 V) := bc0.cell 2
  have HB0 := Lib.hid hb0
  have HR := Lib.hid (hR.below (hb0.mono hB))
  have ho := (Cs.cOk_iff _).1 hok
  replace ho : (-1 ≤ U ∧ U < 5) ∧ (-1 ≤ V ∧ V < 5) ∧ 0 ≤ R ∧ R ≤ 2 := ho
  have HO := Lib.hid ho
  have hR2 := ho.2.2
  clear hb0 bc0 hR ho hok
  obtain ⟨x, hx⟩ : ∃ x, valR env U = x := ⟨_, rfl⟩
  obtain ⟨y, hy⟩ : ∃ y, valR env V = y := ⟨_, rfl⟩
  have HH : Hid (holdR env (U, R, V) = if R = 0 then decide (x ≤ y) else if R = 1 then decide (x < y) else (x == y)) := by
    show _ = _
    unfold holdR
    simp only [hx, hy]
  have HX := Lib.hid hx
  have HY := Lib.hid hy
  have SU : Hid (∀ m, Calls Tryz.prog 107 #[.int .i64 U, .slice A 5 c] (W0.drewN m) fun e w' => e = .returned (.int .i64 x) ∧ w' = W0.drewN m) := fun m => by
    rw [← HX.out]
    exact sideValue_any (W0.drewN m) B A c env U (HR.out.keep fun _ _ => rfl) HO.out.1.1 HO.out.1.2
  have SV : Hid (∀ m, Calls Tryz.prog 107 #[.int .i64 V, .slice A 5 c] (W0.drewN m) fun e w' => e = .returned (.int .i64 y) ∧ w' = W0.drewN m) := fun m => by
    rw [← HY.out]
    exact sideValue_any (W0.drewN m) B A c env V (HR.out.keep fun _ _ => rfl) HO.out.2.1.1 HO.out.2.1.2
  clear hx hy
  by_cases e1 : R = 1
  · have HF : Hid (holdR env (U, R, V) = decide (x < y)) := HH.out.trans ((if_neg (by omega)).trans (if_pos e1))
    subst e1
    go_enter Tryz.func64, Tryz.ntmps64
    go_wp2
    go_quiet (first | (go_at_call 107; first | (with_reducible refine Calls.quiet_of_same (SU.out _)) | (with_reducible refine Calls.quiet_of_same (SV.out _))))
    go_wp2
    go_ret
    exact ⟨by rw [HF.out]; rfl, ⟨HB0.out.os, HB0.out.tape, HB0.out.output, HB0.out.size, HB0.out.block⟩⟩
  · have d1 : (R == 1) = false := by simpa using e1
    by_cases e2 : R = 2
    · have HF : Hid (holdR env (U, R, V) = (x == y)) := HH.out.trans ((if_neg (by omega)).trans (if_neg (by omega)))
      subst e2
      go_enter Tryz.func64, Tryz.ntmps64
      go_wp2
      go_quiet (first | (go_at_call 107; first | (with_reducible refine Calls.quiet_of_same (SU.out _)) | (with_reducible refine Calls.quiet_of_same (SV.out _))))
      go_wp2
      go_ret
      exact ⟨by rw [HF.out]; rfl, ⟨HB0.out.os, HB0.out.tape, HB0.out.output, HB0.out.size, HB0.out.block⟩⟩
    · have HF : Hid (holdR env (U, R, V) = decide (x ≤ y)) := HH.out.trans (if_pos (by omega))
      have d2 : (R == 2) = false := by simpa using e2
      clear e1 e2
      go_enter Tryz.func64, Tryz.ntmps64
      go_wp2
      go_quiet (first | (go_at_call 107; first | (with_reducible refine Calls.quiet_of_same (SU.out _)) | (with_reducible refine Calls.quiet_of_same (SV.out _))))
      go_wp2
      go_ret
      exact ⟨by rw [HF.out]; rfl, ⟨HB0.out.os, HB0.out.tape, HB0.out.output, HB0.out.size, HB0.out.block⟩⟩

end Go.Proofs.YtgebjnoicgmdoaaGreatDoor

namespace Go.Proofs.YtgebjnoicgmdoaaGreatDoor
open Cs (Cn)

theorem valR_of {env : List Int} {p : Int} (h : -1 ≤ p) : valR env p = Cs.valOf env (Cs.node p) := by
  unfold valR Cs.node
  by_cases e : p < 0
  · rw [if_pos e, show (p + 1).toNat = 0 by omega]
    rfl
  · rw [if_neg e, show (p + 1).toNat = p.toNat + 1 by omega]
    rfl
theorem hold_sat {env : List Int} {c : Cn} (hc : Cs.cOk c = true) : holdR env c = true ↔ Cs.Sat (Cs.valOf env) c := by
  have h := (Cs.cOk_iff c).1 hc
  unfold holdR Cs.Sat
  rw [valR_of h.1.1, valR_of h.2.1.1]
  split
  · simp
  · split
    · simp
    · simp
theorem envOk_pos {env : List Int} (h : envOk env = true) : env.length = 5 ∧ ∀ p, 0 ≤ env.getD p 0 := by
  unfold envOk at h
  simp only [Bool.and_eq_true, decide_eq_true_eq, List.all_eq_true] at h
  refine ⟨h.1, fun p => ?_⟩
  rw [List.getD_eq_getElem?_getD]
  cases hg : env[p]? with
  | none => exact Int.le_refl _
  | some x => exact (h.2 x (List.mem_of_getElem? hg)).1
theorem consHold_sat {l : List Cn} {env : List Int} (hok : consOkR l = true) (he : envOk env = true) : consHoldR l env = true ↔ Cs.SatAll (Cs.valOf env) l := by
  have h1 := (consOkR_ok hok).1
  unfold consHoldR
  rw [hok, he, Bool.true_and, Bool.true_and, List.all_eq_true]
  exact ⟨fun h => ⟨Cs.valOf_val (envOk_pos he).2, fun c hc => (hold_sat (h1 c hc)).1 (h c hc)⟩, fun h c hc => (hold_sat (h1 c hc)).2 (h.2 c hc)⟩
end Go.Proofs.YtgebjnoicgmdoaaGreatDoor

namespace Go.Proofs.YtgebjnoicgmdoaaGreatDoor
open Go.RowKit
open Cs (Cn Tb)

theorem leastL_cell (T : Tb) {j : Nat} {u : Value} (h : ((leastL T).map (Value.int .i64))[j]? = some u) : j < 5 ∧ u = .int .i64 (T 0 (j + 1)) := by
  have hj : j < 5 := by
    have := (List.getElem?_eq_some_iff.1 h).1
    simpa [leastL] using this
  refine ⟨hj, ?_⟩
  simp [leastL, hj] at h
  exact h.symm
end Go.Proofs.YtgebjnoicgmdoaaGreatDoor

namespace Go.Proofs.YtgebjnoicgmdoaaGreatDoor
open Go.RowKit
open Cs (Cn Tb)

/-- the list can hold at the sign -/
def sgnB (l : List Cn) (s : Int) : Bool := consOkR l && Sg.isSign s && Cs.flat (Un.sgL l s)
/-- the table of the signed list -/
def sgnT (l : List Cn) (s : Int) : Tb := if sgnB l s = true then Cs.tab (Un.sgL l s) else zeroT
theorem sgnB_bad {l : List Cn} {s : Int} (h : consOkR l = false) : sgnB l s = false := by unfold sgnB; rw [h]; rfl
theorem sgnB_not {l : List Cn} {s : Int} (h : Sg.isSign s = false) : sgnB l s = false := by unfold sgnB; rw [h, Bool.and_false]; rfl
theorem sgnB_ok {l : List Cn} {s : Int} (h1 : consOkR l = true) (h2 : Sg.isSign s = true) : sgnB l s = Cs.flat (Un.sgL l s) := by unfold sgnB; rw [h1, h2, Bool.true_and, Bool.true_and]
theorem sgnT_no {l : List Cn} {s : Int} (h : sgnB l s = false) : sgnT l s = zeroT := if_neg (by rw [h]; decide)
theorem sgnT_yes {l : List Cn} {s : Int} (h : sgnB l s = true) : sgnT l s = Cs.tab (Un.sgL l s) := if_pos h
theorem sgnT_long {l : List Cn} {s : Int} (h1 : consOkR l = true) (h2 : Sg.isSign s = true) : sgnT l s = longT (Un.sgL l s) := by unfold sgnT longT; rw [sgnB_ok h1 h2]
end Go.Proofs.YtgebjnoicgmdoaaGreatDoor

namespace Go.Proofs.YtgebjnoicgmdoaaGreatDoor
open Go.RowKit
open Cs (Cn Tb)

namespace Un
theorem leB_at {T : Tb} {p x q y : Int} {u v : Nat} (hu : p + 1 = u) (hv : q + 1 = v) : leB T (p, x) (q, y) = (decide (0 ≤ T u v) && decide (x ≤ T u v + y)) := by
  unfold leB
  show (decide (0 ≤ T (Cs.node p) (Cs.node q)) && decide (x ≤ T (Cs.node p) (Cs.node q) + y)) = _
  rw [node_of' hu, node_of' hv]
theorem atB_not {T : Tb} {x : Nm.At} {n : List Nm.At} (h : ∀ j, j < n.length → leB T x (n.getD j (0, 0)) = false) : atB T x n = false := atB_none h
end Un

set_option maxRecDepth 100000 in
set_option maxHeartbeats 1600000 in
theorem atomLe_any (w : World) (B : Nat) (T : Tb) (p x : Int) (A : Option Addr) (n c : Nat) (l : List (Int × Int)) (hB : B ≤ w.heap.size) (hl : TokR w B A n l) (hn : (n : Int) ≤ 140737488355328) (hok : Nm.AllOk l) (hp1 : -1 ≤ p) (hp2 : p < 5) (hT : ∀ i j, -1 ≤ T i j ∧ T i j ≤ 1000) :
    Calls Tryz.prog 122 #[tabV T, .agg #[.int .i64 p, .int .i64 x], .slice A n c] w fun e w' => e = .returned (.bool (Un.atB T (p, x) l)) ∧ Below w.heap.size w w' := by
  obtain ⟨W0, hW0⟩ : ∃ W, (w.alloc (.cells (tabA T) 85)).alloc (.cells #[.int .i64 p, .int .i64 x] 92) = W := ⟨_, rfl⟩
  have HB0 : Hid (Below w.heap.size w W0) := by show Below _ _ _; rw [← hW0]; exact ((Below.refl _ _).alloc (Nat.le_refl _) _).alloc (by simp) _
  have HC0 : Hid (Blk W0 w.heap.size 85 (tabA T)) := by
    show Blk _ _ _ _
    rw [← hW0]
    exact Blk.below (Blk.made w _ _) ((Below.refl _ _).alloc (Nat.le_refl _) _) (by simp)
  have HK0 : Hid (Blk W0 (w.heap.size + 1) 92 #[.int .i64 p, .int .i64 x]) := by
    show Blk _ _ _ _
    have h1 : Blk ((w.alloc (.cells (tabA T) 85)).alloc (.cells #[.int .i64 p, .int .i64 x] 92)) (w.alloc (.cells (tabA T) 85)).heap.size 92 #[.int .i64 p, .int .i64 x] := Blk.made _ _ _
    rw [show (w.alloc (.cells (tabA T) 85)).heap.size = w.heap.size + 1 by simp] at h1
    rw [← hW0]
    exact h1
  obtain ⟨u, hu⟩ : ∃ u : Nat, p + 1 = u := ⟨(p + 1).toNat, by omega⟩
  have hu6 : u < 6 := by omega
  have HU := Lib.hid hu
  have HOK := Lib.hid hok
  have HTB := Lib.hid hT
  clear hu hok hT
  go_enter Tryz.func122, Tryz.ntmps122
  go_wp2
  clear hW0
  go_loopw [12] (fun i wr => ∃ k : Nat, k ≤ n ∧ i = .int .i64 k ∧ Hid (∀ j, j < k → Un.leB T (p, x) (l.getD j (0, 0)) = false) ∧ Hid (Below w.heap.size w wr) ∧ Hid (Blk wr w.heap.size 85 (tabA T)) ∧ Hid (Blk wr (w.heap.size + 1) 92 #[.int .i64 p, .int .i64 x])) (fun i _ => n - (intOf i).toNat)
  case atStart => exact ⟨0, Nat.zero_le _, rfl, (fun j hj => absurd hj (by omega)), HB0.out, HC0.out, HK0.out⟩
  case round =>
    clear HB0 HC0 HK0
    obtain ⟨k, hk, rfl, HA, HB, HC, HK⟩ := hrel
    by_cases hlt : k < n
    · have hki : (k : Int) < (n : Int) := by omega
      obtain ⟨b, off, rfl, hb, hc⟩ := hl.2 (by omega)
      obtain ⟨c1, c2⟩ := hc k hlt
      have HL := Lib.hid hl.1
      have hat := (Nm.atOk_iff _).1 (HOK.out k (by rw [hl.1]; exact hlt))
      obtain ⟨t, ht⟩ : ∃ t, l.getD k (0, 0) = t := ⟨_, rfl⟩
      rw [ht] at c1 c2 hat
      obtain ⟨q, y⟩ := t
      simp only at hat
      obtain ⟨a1, a2, a3, a4⟩ := hat
      have HT := Lib.hid ht
      have k1 := (HB.out.cell (p := ⟨b, off + k * 2, none⟩) (by show b < _; omega)).trans c1
      have k2 := (HB.out.cell (p := ⟨b, off + k * 2 + 1, none⟩) (by show b < _; omega)).trans c2
      obtain ⟨v, hv⟩ : ∃ v : Nat, q + 1 = v := ⟨(q + 1).toNat, by omega⟩
      have hv6 : v < 6 := by omega
      obtain ⟨W1, hW1⟩ : ∃ W, wr.alloc (.cells #[.int .i64 q, .int .i64 y] 92) = W := ⟨_, rfl⟩
      have ha1 : Below wr.heap.size wr W1 := by rw [← hW1]; exact (Below.refl _ _).alloc (Nat.le_refl _) _
      have HC1 := Lib.hid (Blk.below HC.out ha1 HC.out.lt)
      have HK1 := Lib.hid (Blk.below HK.out ha1 HK.out.lt)
      have HB1 := Lib.hid (HB.out.trans (ha1.mono HB.out.size))
      have HY1 : Hid (Blk W1 wr.heap.size 92 #[.int .i64 q, .int .i64 y]) := by show Blk _ _ _ _; rw [← hW1]; exact Blk.made _ _ _
      have c0 : Blk W1 w.heap.size 85 (tabA T) := HC1.out
      have z0 : W1.cell? ⟨w.heap.size + 1, 0, none⟩ = some (.int .i64 p) := HK1.out.cell 0
      have y0 : W1.cell? ⟨wr.heap.size, 0, none⟩ = some (.int .i64 q) := HY1.out.cell 0
      obtain ⟨f, hf⟩ : ∃ f, T u v = f := ⟨_, rfl⟩
      have hfb := HTB.out u v
      rw [hf] at hfb
      have HLE : Hid (Un.leB T (p, x) (q, y) = (decide (0 ≤ f) && decide (x ≤ f + y))) := by show _ = _; rw [Un.leB_at HU.out hv, hf]
      have HF := Lib.hid hf
      have HV := Lib.hid hv
      clear c1 c2 hc ht hv hf ha1
      go_wp2_with (refine wpList_load_row rfl 85 _ rfl w.heap.size rfl 85 (tabA T) (0, 0) _ c0 Tryz.underlying85 rfl (size_tab T) ?_)
      refine (far_any W1 T p q u v HU.out hu6 HV.out hv6).mono ?_
      rintro e w2 ⟨rfl, hb2⟩
      rw [HF.out]
      have HB2 := Lib.hid (HB1.out.trans (hb2.mono HB1.out.size))
      have HC2 := Lib.hid (Blk.below HC1.out hb2 HC1.out.lt)
      have HK2 := Lib.hid (Blk.below HK1.out hb2 HK1.out.lt)
      have HY2 := Lib.hid (Blk.below HY1.out hb2 HY1.out.lt)
      have z1 : w2.cell? ⟨w.heap.size + 1, 1, none⟩ = some (.int .i64 x) := HK2.out.cell 1
      have y1 : w2.cell? ⟨wr.heap.size, 1, none⟩ = some (.int .i64 y) := HY2.out.cell 1
      have yes_of : 0 ≤ f → x ≤ f + y → Hid (Un.atB T (p, x) l = true) := fun h1 h2 => Un.atB_some (k := k) (by rw [HL.out]; exact hlt) (by rw [HT.out, HLE.out, decide_eq_true h1, decide_eq_true h2]; rfl)
      have no_of : ¬ (0 ≤ f ∧ x ≤ f + y) → Hid (∀ j, j < k + 1 → Un.leB T (p, x) (l.getD j (0, 0)) = false) := by
        intro h j hj
        by_cases e : j = k
        · subst e
          rw [HT.out, HLE.out, Bool.and_eq_false_iff]
          by_cases h1 : 0 ≤ f
          · exact .inr (decide_eq_false fun h2 => h ⟨h1, h2⟩)
          · exact .inl (decide_eq_false h1)
        · exact HA.out j (by omega)
      clear hb2 c0 z0 y0 k1 k2 hl hW1
      by_cases h1 : f = -1
      · have HA2 := no_of (fun h => by omega)
        subst h1
        clear yes_of no_of hfb
        go_wp2
        go_roundw
        case rel => exact ⟨k + 1, by omega, by go_num, HA2.out, HB2.out, HC2.out, HK2.out⟩
        case measure => simp [intOf]; omega
      · have df : (f != -1) = true := by simpa using h1
        have hf0 : 0 ≤ f := by omega
        by_cases h2 : x ≤ f + y
        · have HR := yes_of hf0 h2
          clear yes_of no_of h1
          go_wp2
          go_ret
          exact ⟨by rw [HR.out]; rfl, HB2.out⟩
        · have dx : decide (x ≤ f + y) = false := decide_eq_false h2
          have HA2 := no_of (fun h => h2 h.2)
          clear yes_of no_of h1 h2
          go_wp2
          go_roundw
          case rel => exact ⟨k + 1, by omega, by go_num, HA2.out, HB2.out, HC2.out, HK2.out⟩
          case measure => simp [intOf]; omega
    · have HR : Hid (Un.atB T (p, x) l = false) := Un.atB_not (fun j hj => HA.out j (by have := hl.1; omega))
      clear hl
      have hki : ¬ (k : Int) < (n : Int) := by omega
      go_wp2
      go_ret
      exact ⟨by rw [HR.out]; rfl, HB.out⟩
end Go.Proofs.YtgebjnoicgmdoaaGreatDoor

namespace Go.Proofs.YtgebjnoicgmdoaaGreatDoor
open Go.RowKit
open Cs (Cn Tb)

set_option maxRecDepth 100000 in
set_option maxHeartbeats 1600000 in
theorem l06Atom_any (w : World) (B base g cap : Nat) (rw' cp : Nat → Nat) (T : Tb) (p x : Int) (A : Option Addr) (n c : Nat) (l : List (Int × Int)) (hB : B ≤ w.heap.size) (ht : TabN w base g cap 6 rw' cp T) (hl : TokR w B A n l) (hn : (n : Int) ≤ 140737488355328) (hok : Nm.AllOk l) (hp1 : -1 ≤ p) (hp2 : p < 5) (hT : ∀ i j, -1 ≤ T i j ∧ T i j ≤ 1000) :
    Calls Tryz.prog 102 #[.slice (some ⟨g, 0, none⟩) 6 cap, .agg #[.int .i64 p, .int .i64 x], .slice A n c] w fun e w' => e = .returned (.bool (Un.atB T (p, x) l)) ∧ Below w.heap.size w w' := by
  obtain ⟨W0, hW0⟩ : ∃ W, w.alloc (.cells #[.int .i64 p, .int .i64 x] 92) = W := ⟨_, rfl⟩
  have HB0 : Hid (Below w.heap.size w W0) := by show Below _ _ _; rw [← hW0]; exact (Below.refl _ _).alloc (Nat.le_refl _) _
  have HK0 : Hid (Blk W0 w.heap.size 92 #[.int .i64 p, .int .i64 x]) := by show Blk _ _ _ _; rw [← hW0]; exact Blk.made _ _ _
  obtain ⟨u, hu⟩ : ∃ u : Nat, p + 1 = u := ⟨(p + 1).toNat, by omega⟩
  have hu6 : u < 6 := by omega
  have hui : (u : Int) < 6 := by omega
  have HU := Lib.hid hu
  have HOK := Lib.hid hok
  have HTB := Lib.hid hT
  have HTD := Lib.hid ht
  clear hok hT ht
  go_enter Tryz.func102, Tryz.ntmps102
  go_wp2
  clear hW0
  go_loopw [7] (fun i wr => ∃ k : Nat, k ≤ n ∧ i = .int .i64 k ∧ Hid (∀ j, j < k → Un.leB T (p, x) (l.getD j (0, 0)) = false) ∧ Hid (Below w.heap.size w wr) ∧ Hid (Blk wr w.heap.size 92 #[.int .i64 p, .int .i64 x])) (fun i _ => n - (intOf i).toNat)
  case atStart => exact ⟨0, Nat.zero_le _, rfl, (fun j hj => absurd hj (by omega)), HB0.out, HK0.out⟩
  case round =>
    clear HB0 HK0
    obtain ⟨k, hk, rfl, HA, HB, HK⟩ := hrel
    by_cases hlt : k < n
    · have hki : (k : Int) < (n : Int) := by omega
      obtain ⟨b, off, rfl, hb, hc⟩ := hl.2 (by omega)
      obtain ⟨c1, c2⟩ := hc k hlt
      have HL := Lib.hid hl.1
      have hat := (Nm.atOk_iff _).1 (HOK.out k (by rw [hl.1]; exact hlt))
      obtain ⟨t, ht⟩ : ∃ t, l.getD k (0, 0) = t := ⟨_, rfl⟩
      rw [ht] at c1 c2 hat
      obtain ⟨q, y⟩ := t
      simp only at hat
      obtain ⟨a1, a2, a3, a4⟩ := hat
      have HT := Lib.hid ht
      have k1 := (HB.out.cell (p := ⟨b, off + k * 2, none⟩) (by show b < _; omega)).trans c1
      have k2 := (HB.out.cell (p := ⟨b, off + k * 2 + 1, none⟩) (by show b < _; omega)).trans c2
      obtain ⟨v, hv⟩ : ∃ v : Nat, q + 1 = v := ⟨(q + 1).toNat, by omega⟩
      have hv6 : v < 6 := by omega
      have hvi : (v : Int) < 6 := by omega
      have z0 : wr.cell? ⟨w.heap.size, 0, none⟩ = some (.int .i64 p) := HK.out.cell 0
      have z1 : wr.cell? ⟨w.heap.size, 1, none⟩ = some (.int .i64 x) := HK.out.cell 1
      have q1 := (HTD.out.below HB.out).head hu6
      obtain ⟨q2, _⟩ := (HTD.out.below HB.out).spot hu6 hv6
      have wu : IntKind.i64.wrap (u : Int) = u := IntWalk.i64_in _ ⟨by omega, by omega⟩
      have wv : IntKind.i64.wrap (v : Int) = v := IntWalk.i64_in _ ⟨by omega, by omega⟩
      have hu0 : 0 ≤ (u : Int) := by omega
      have hv0 : 0 ≤ (v : Int) := by omega
      obtain ⟨f, hf⟩ : ∃ f, T u v = f := ⟨_, rfl⟩
      have hfb := HTB.out u v
      rw [hf] at hfb q2
      have HLE : Hid (Un.leB T (p, x) (q, y) = (decide (0 ≤ f) && decide (x ≤ f + y))) := by show _ = _; rw [Un.leB_at HU.out hv, hf]
      have yes_of : 0 ≤ f → x ≤ f + y → Hid (Un.atB T (p, x) l = true) := fun h1 h2 => Un.atB_some (k := k) (by rw [HL.out]; exact hlt) (by rw [HT.out, HLE.out, decide_eq_true h1, decide_eq_true h2]; rfl)
      have no_of : ¬ (0 ≤ f ∧ x ≤ f + y) → Hid (∀ j, j < k + 1 → Un.leB T (p, x) (l.getD j (0, 0)) = false) := by
        intro h j hj
        by_cases e : j = k
        · subst e
          rw [HT.out, HLE.out, Bool.and_eq_false_iff]
          by_cases h1 : 0 ≤ f
          · exact .inr (decide_eq_false fun h2 => h ⟨h1, h2⟩)
          · exact .inl (decide_eq_false h1)
        · exact HA.out j (by omega)
      have HB2 : Hid (Below w.heap.size w wr.drew) := HB.out.drew
      have HB3 : Hid (Below w.heap.size w wr.drew.drew) := HB.out.drew.drew
      have HK2 : Hid (Blk wr.drew w.heap.size 92 #[.int .i64 p, .int .i64 x]) := HK.out
      have HK3 : Hid (Blk wr.drew.drew w.heap.size 92 #[.int .i64 p, .int .i64 x]) := HK.out
      have wf : IntKind.i64.wrap (f + y) = f + y := IntWalk.i64_in _ ⟨by omega, by omega⟩
      clear c1 c2 hc ht hf hl
      by_cases h1 : 0 ≤ f
      · have df : decide (0 ≤ f) = true := decide_eq_true h1
        by_cases h2 : x ≤ f + y
        · have dx : decide (x ≤ f + y) = true := decide_eq_true h2
          have HR := yes_of h1 h2
          clear yes_of no_of
          go_wp2_with fail
          refine region_tail 14 (by kernel_rfl) (by kernel_rfl) ?_
          simp only [List.take_succ_cons, List.take_zero, List.drop_succ_cons, List.drop_zero]
          repeat still_step
          refine wpStill_nil ?_
          go_wp2_with fail
          refine region_tail 13 (by kernel_rfl) (by kernel_rfl) ?_
          simp only [List.take_succ_cons, List.take_zero, List.drop_succ_cons, List.drop_zero]
          repeat still_step
          refine wpStill_nil ?_
          go_wp2
          go_ret
          exact ⟨by rw [HR.out]; rfl, HB3.out⟩
        · have dx : decide (x ≤ f + y) = false := decide_eq_false h2
          have HA2 := no_of (fun h => h2 h.2)
          clear yes_of no_of
          go_wp2_with fail
          refine region_tail 14 (by kernel_rfl) (by kernel_rfl) ?_
          simp only [List.take_succ_cons, List.take_zero, List.drop_succ_cons, List.drop_zero]
          repeat still_step
          refine wpStill_nil ?_
          go_wp2_with fail
          refine region_tail 13 (by kernel_rfl) (by kernel_rfl) ?_
          simp only [List.take_succ_cons, List.take_zero, List.drop_succ_cons, List.drop_zero]
          repeat still_step
          refine wpStill_nil ?_
          go_wp2
          go_roundw
          case rel => exact ⟨k + 1, by omega, by go_num, HA2.out, HB3.out, HK3.out⟩
          case measure => simp [intOf]; omega
      · have HA2 := no_of (fun h => h1 h.1)
        obtain rfl : f = -1 := by omega
        clear yes_of no_of wf hfb h1
        go_wp2_with fail
        refine region_tail 14 (by kernel_rfl) (by kernel_rfl) ?_
        simp only [List.take_succ_cons, List.take_zero, List.drop_succ_cons, List.drop_zero]
        repeat still_step
        refine wpStill_nil ?_
        go_wp2_with fail
        go_region
        go_wp2
        go_roundw
        case rel => exact ⟨k + 1, by omega, by go_num, HA2.out, HB3.out, HK3.out⟩
        case measure => simp [intOf]; omega
    · have HR : Hid (Un.atB T (p, x) l = false) := Un.atB_not (fun j hj => HA.out j (by have := hl.1; omega))
      clear hl
      have hki : ¬ (k : Int) < (n : Int) := by omega
      go_wp2
      go_ret
      exact ⟨by rw [HR.out]; rfl, HB.out⟩
end Go.Proofs.YtgebjnoicgmdoaaGreatDoor

namespace Go.Proofs.YtgebjnoicgmdoaaGreatDoor
open Go.RowKit
open Cs (Cn Tb)

theorem sgnB_flat {l : List Cn} {s : Int} (h : sgnB l s = true) : Cs.flat (Un.sgL l s) = true := by
  unfold sgnB at h
  rw [Bool.and_eq_true] at h
  exact h.2
end Go.Proofs.YtgebjnoicgmdoaaGreatDoor

namespace Go.Proofs.YtgebjnoicgmdoaaGreatDoor
open Go.RowKit
open Cs (Cn Tb)

/-- indices as numbers -/
def natI (l : List Nat) : List Int := l.map fun (i : Nat) => (i : Int)
theorem consOkR_skip {l : List Cn} (h : consOkR l = true) (g : Nat → Bool) : consOkR (Cs.skip l g) = true := by
  have h1 := consOkR_ok h
  unfold consOkR
  simp only [Bool.and_eq_true, List.all_eq_true, decide_eq_true_eq]
  have := Cs.skip_len l g
  exact ⟨fun c hc => Cs.skip_ok h1.1 g c hc, by omega⟩
theorem satR_skip {l : List Cn} (h : consOkR l = true) (g : Nat → Bool) : satR (Cs.skip l g) = Cs.flat (Cs.skip l g) := satR_ok (consOkR_skip h g)
theorem natI_len (l : List Nat) : (natI l).length = l.length := by simp [natI]
theorem natI_snoc (l : List Nat) (k : Nat) : natI (l ++ [k]) = natI l ++ [(k : Int)] := by simp [natI]
/-- the walk's memory -/
structure CoreW (w : World) (n gb m : Nat) (A : Option Addr) (c : Nat) (out : List Int) (g : Nat → Bool) (wr : World) : Prop where
  own : OwnI wr w.heap.size A m c out
  gone : Blk wr gb 4 (goneA g n)
  bel : Below w.heap.size w wr
theorem CoreW.set {w wr : World} {n gb m c : Nat} {A : Option Addr} {out : List Int} {g : Nat → Bool} (h : CoreW w n gb m A c out g wr) (hg : w.heap.size ≤ gb) (i : Nat) (b : Bool) :
    CoreW w n gb m A c out (Cs.mark g i b) (wr.setCell ⟨gb, i, none⟩ (.bool b)) := by
  have hw : Wrote gb wr (wr.setCell ⟨gb, i, none⟩ (.bool b)) := Wrote.set _ _
  refine ⟨h.own.kept hw.1 (.inr (own_apart h.own h.gone (by decide))), ?_, hw.below h.bel h.bel.size hg⟩
  have := Blk.put h.gone i (.bool b)
  rw [goneA_set] at this
  exact this
theorem CoreW.later {w wr w' : World} {n gb m c : Nat} {A : Option Addr} {out : List Int} {g : Nat → Bool} (h : CoreW w n gb m A c out g wr) (hb : Below wr.heap.size wr w') : CoreW w n gb m A c out g w' :=
  ⟨own_below' h.own hb, Blk.below h.gone hb h.gone.lt, h.bel.trans (hb.mono h.bel.size)⟩

end Go.Proofs.YtgebjnoicgmdoaaGreatDoor
