/- Plain words: a list with the constraints of a sign; an atom and a list of atoms under a table of longest ways. -/
/- ConsLeast of the reference model. -/
/- A list with a sign: signedPaths of the program, SignEnv of both sides. -/
/- An atom and a list of atoms under a table of longest ways: atomLe of the program, AtomUnder of the program. -/
/- compare of the program: the first atom that does not fit, as an error. -/
/- Plain facts: comparison under constraints, the first sign and atom that do not fit. -/
import Derived.Test.YtgebjnoicgmdoaaGreatDoorSigned
import Derived.Test.YtgebjnoicgmdoaaGreatDoorNMath2
import Derived.Test.YtgebjnoicgmdoaaGreatDoorCoMem
import Derived.Test.YtgebjnoicgmdoaaGreatDoorCsMath7
import Derived.Test.YtgebjnoicgmdoaaGreatDoorNMath4
import Derived.Test.YtgebjnoicgmdoaaGreatDoorEvMath
import Derived.Test.YtgebjnoicgmdoaaGreatDoorDcMath4

namespace Go.Proofs.YtgebjnoicgmdoaaGreatDoor.Un
open Go.Proofs.YtgebjnoicgmdoaaGreatDoor.Nm
open Go.Proofs.YtgebjnoicgmdoaaGreatDoor.Cs (Cn Tb)

/-- the list with the constraints of a sign -/
def sgL (l : List Cn) (s : Int) : List Cn := Cs.signed l fun p => Sg.has s (p : Int)
theorem sgL_ok {l : List Cn} (h : Cs.ok l) (s : Int) : Cs.ok (sgL l s) := Cs.signed_ok h _
/-- an atom is at most another one, and at most a list, by a table of longest ways -/
def leB (T : Tb) (x y : At) : Bool := decide (0 ≤ T (Cs.node x.1) (Cs.node y.1)) && decide (x.2 ≤ T (Cs.node x.1) (Cs.node y.1) + y.2)
def atB (T : Tb) (x : At) (n : List At) : Bool := n.any (leB T x)
/-- no atom serves up to k -/
theorem atB_none {T : Tb} {x : At} {n : List At} (h : ∀ k, k < n.length → leB T x (n.getD k (0, 0)) = false) : atB T x n = false := by
  unfold atB
  rw [List.any_eq_false]
  intro y hy
  obtain ⟨k, hk, rfl⟩ := List.mem_iff_getElem.1 hy
  have := h k hk
  rw [List.getD_eq_getElem?_getD, List.getElem?_eq_getElem hk, Option.getD_some] at this
  rw [this]
  decide
theorem atB_some {T : Tb} {x : At} {n : List At} {k : Nat} (hk : k < n.length) (h : leB T x (n.getD k (0, 0)) = true) : atB T x n = true := by
  unfold atB
  rw [List.any_eq_true]
  rw [List.getD_eq_getElem?_getD, List.getElem?_eq_getElem hk, Option.getD_some] at h
  exact ⟨n[k], List.getElem_mem hk, h⟩

theorem drop_get {l : List At} {k : Nat} (hk : k < l.length) : l.drop k = l.getD k (0, 0) :: l.drop (k + 1) := by
  rw [List.drop_eq_getElem_cons hk, List.getD_eq_getElem?_getD, List.getElem?_eq_getElem hk, Option.getD_some]
/-- the first atom that is not at most b -/
def exL (T : Tb) (b : List At) : List At → Option At
  | [] => none
  | x :: t => if atB T x b = true then exL T b t else some x
theorem exL_go {T : Tb} {b l : List At} {k : Nat} (hk : k < l.length) (h : atB T (l.getD k (0, 0)) b = true) : exL T b (l.drop k) = exL T b (l.drop (k + 1)) := by
  rw [drop_get hk, exL, if_pos h]
theorem exL_hit {T : Tb} {b l : List At} {k : Nat} (hk : k < l.length) (h : atB T (l.getD k (0, 0)) b = false) : exL T b (l.drop k) = some (l.getD k (0, 0)) := by
  rw [drop_get hk, exL, if_neg (by rw [h]; decide)]
theorem exL_end {T : Tb} {b l : List At} {k : Nat} (hk : l.length ≤ k) : exL T b (l.drop k) = none := by
  rw [List.drop_eq_nil_of_le hk, exL]
theorem exL_mem {T : Tb} {b l : List At} {x : At} (h : exL T b l = some x) : x ∈ l := by
  induction l with
  | nil => cases h
  | cons y t ih =>
    simp only [exL] at h
    split at h
    · exact List.mem_cons_of_mem _ (ih h)
    · injection h with h
      subst h
      exact List.mem_cons_self
theorem exL_no {T : Tb} {b l : List At} {x : At} (h : exL T b l = some x) : atB T x b = false := by
  induction l with
  | nil => cases h
  | cons y t ih =>
    simp only [exL] at h
    split at h
    · exact ih h
    · rename_i h1
      injection h with h
      subst h
      simpa using h1
theorem exL_none {T : Tb} {b l : List At} : exL T b l = none ↔ ∀ x ∈ l, atB T x b = true := by
  induction l with
  | nil => simp [exL]
  | cons y t ih =>
    simp only [exL]
    split
    · rename_i h1
      rw [ih]
      simp [h1]
    · rename_i h1
      simp [h1]

end Go.Proofs.YtgebjnoicgmdoaaGreatDoor.Un

namespace Go.Proofs.YtgebjnoicgmdoaaGreatDoor
open Go.RowKit
open Cs (Cn Tb)

theorem leastL_cell (T : Tb) {j : Nat} {u : Value} (h : ((leastL T).map (Value.int .i64))[j]? = some u) : j < 5 ∧ u = .int .i64 (T 0 (j + 1)) := by
  have hj : j < 5 := by
    have := (List.getElem?_eq_some_iff.1 h).1
    simpa [leastL] using this
  refine ⟨hj, ?_⟩
  simp [leastL, hj] at h
  exact h.symm
end Go.Proofs.YtgebjnoicgmdoaaGreatDoor

namespace Go.Proofs.YtgebjnoicgmdoaaGreatDoor
open Go.RowKit
open Cs (Cn Tb)

/-- the list can hold at the sign -/
def sgnB (l : List Cn) (s : Int) : Bool := consOkR l && Sg.isSign s && Cs.flat (Un.sgL l s)
/-- the table of the signed list -/
def sgnT (l : List Cn) (s : Int) : Tb := if sgnB l s = true then Cs.tab (Un.sgL l s) else zeroT
theorem sgnB_bad {l : List Cn} {s : Int} (h : consOkR l = false) : sgnB l s = false := by unfold sgnB; rw [h]; rfl
theorem sgnB_not {l : List Cn} {s : Int} (h : Sg.isSign s = false) : sgnB l s = false := by unfold sgnB; rw [h, Bool.and_false]; rfl
theorem sgnB_ok {l : List Cn} {s : Int} (h1 : consOkR l = true) (h2 : Sg.isSign s = true) : sgnB l s = Cs.flat (Un.sgL l s) := by unfold sgnB; rw [h1, h2, Bool.true_and, Bool.true_and]
theorem sgnT_no {l : List Cn} {s : Int} (h : sgnB l s = false) : sgnT l s = zeroT := if_neg (by rw [h]; decide)
theorem sgnT_yes {l : List Cn} {s : Int} (h : sgnB l s = true) : sgnT l s = Cs.tab (Un.sgL l s) := if_pos h
theorem sgnT_long {l : List Cn} {s : Int} (h1 : consOkR l = true) (h2 : Sg.isSign s = true) : sgnT l s = longT (Un.sgL l s) := by unfold sgnT longT; rw [sgnB_ok h1 h2]
end Go.Proofs.YtgebjnoicgmdoaaGreatDoor

namespace Go.Proofs.YtgebjnoicgmdoaaGreatDoor
open Go.RowKit
open Cs (Cn Tb)

namespace Un
theorem leB_at {T : Tb} {p x q y : Int} {u v : Nat} (hu : p + 1 = u) (hv : q + 1 = v) : leB T (p, x) (q, y) = (decide (0 ≤ T u v) && decide (x ≤ T u v + y)) := by
  unfold leB
  show (decide (0 ≤ T (Cs.node p) (Cs.node q)) && decide (x ≤ T (Cs.node p) (Cs.node q) + y)) = _
  rw [node_of' hu, node_of' hv]
theorem atB_not {T : Tb} {x : Nm.At} {n : List Nm.At} (h : ∀ j, j < n.length → leB T x (n.getD j (0, 0)) = false) : atB T x n = false := atB_none h
end Un

set_option maxRecDepth 100000 in
set_option maxHeartbeats 1600000 in
theorem atomLe_any (w : World) (B : Nat) (T : Tb) (p x : Int) (A : Option Addr) (n c : Nat) (l : List (Int × Int)) (hB : B ≤ w.heap.size) (hl : TokR w B A n l) (hn : (n : Int) ≤ 140737488355328) (hok : Nm.AllOk l) (hp1 : -1 ≤ p) (hp2 : p < 5) (hT : ∀ i j, -1 ≤ T i j ∧ T i j ≤ 1000) :
    Calls Tryz.prog 122 #[tabV T, .agg #[.int .i64 p, .int .i64 x], .slice A n c] w fun e w' => e = .returned (.bool (Un.atB T (p, x) l)) ∧ Below w.heap.size w w' := by
  obtain ⟨W0, hW0⟩ : ∃ W, (w.alloc (.cells (tabA T) 85)).alloc (.cells #[.int .i64 p, .int .i64 x] 92) = W := ⟨_, rfl⟩
  have HB0 : Hid (Below w.heap.size w W0) := by show Below _ _ _; rw [← hW0]; exact ((Below.refl _ _).alloc (Nat.le_refl _) _).alloc (by simp) _
  have HC0 : Hid (Blk W0 w.heap.size 85 (tabA T)) := by
    show Blk _ _ _ _
    rw [← hW0]
    exact Blk.below (Blk.made w _ _) ((Below.refl _ _).alloc (Nat.le_refl _) _) (by simp)
  have HK0 : Hid (Blk W0 (w.heap.size + 1) 92 #[.int .i64 p, .int .i64 x]) := by
    show Blk _ _ _ _
    have h1 : Blk ((w.alloc (.cells (tabA T) 85)).alloc (.cells #[.int .i64 p, .int .i64 x] 92)) (w.alloc (.cells (tabA T) 85)).heap.size 92 #[.int .i64 p, .int .i64 x] := Blk.made _ _ _
    rw [show (w.alloc (.cells (tabA T) 85)).heap.size = w.heap.size + 1 by simp] at h1
    rw [← hW0]
    exact h1
  obtain ⟨u, hu⟩ : ∃ u : Nat, p + 1 = u := ⟨(p + 1).toNat, by omega⟩
  have hu6 : u < 6 := by omega
  have HU := Lib.hid hu
  have HOK := Lib.hid hok
  have HTB := Lib.hid hT
  clear hu hok hT
  go_enter Tryz.func122, Tryz.ntmps122
  go_wp2
  clear hW0
  go_loopw [12] (fun i wr => ∃ k : Nat, k ≤ n ∧ i = .int .i64 k ∧ Hid (∀ j, j < k → Un.leB T (p, x) (l.getD j (0, 0)) = false) ∧ Hid (Below w.heap.size w wr) ∧ Hid (Blk wr w.heap.size 85 (tabA T)) ∧ Hid (Blk wr (w.heap.size + 1) 92 #[.int .i64 p, .int .i64 x])) (fun i _ => n - (intOf i).toNat)
  case atStart => exact ⟨0, Nat.zero_le _, rfl, (fun j hj => absurd hj (by omega)), HB0.out, HC0.out, HK0.out⟩
  case round =>
    clear HB0 HC0 HK0
    obtain ⟨k, hk, rfl, HA, HB, HC, HK⟩ := hrel
    by_cases hlt : k < n
    · have hki : (k : Int) < (n : Int) := by omega
      obtain ⟨b, off, rfl, hb, hc⟩ := hl.2 (by omega)
      obtain ⟨c1, c2⟩ := hc k hlt
      have HL := Lib.hid hl.1
      have hat := (Nm.atOk_iff _).1 (HOK.out k (by rw [hl.1]; exact hlt))
      obtain ⟨t, ht⟩ : ∃ t, l.getD k (0, 0) = t := ⟨_, rfl⟩
      rw [ht] at c1 c2 hat
      obtain ⟨q, y⟩ := t
      simp only at hat
      obtain ⟨a1, a2, a3, a4⟩ := hat
      have HT := Lib.hid ht
      have k1 := (HB.out.cell (p := ⟨b, off + k * 2, none⟩) (by show b < _; omega)).trans c1
      have k2 := (HB.out.cell (p := ⟨b, off + k * 2 + 1, none⟩) (by show b < _; omega)).trans c2
      obtain ⟨v, hv⟩ : ∃ v : Nat, q + 1 = v := ⟨(q + 1).toNat, by omega⟩
      have hv6 : v < 6 := by omega
      obtain ⟨W1, hW1⟩ : ∃ W, wr.alloc (.cells #[.int .i64 q, .int .i64 y] 92) = W := ⟨_, rfl⟩
      have ha1 : Below wr.heap.size wr W1 := by rw [← hW1]; exact (Below.refl _ _).alloc (Nat.le_refl _) _
      have HC1 := Lib.hid (Blk.below HC.out ha1 HC.out.lt)
      have HK1 := Lib.hid (Blk.below HK.out ha1 HK.out.lt)
      have HB1 := Lib.hid (HB.out.trans (ha1.mono HB.out.size))
      have HY1 : Hid (Blk W1 wr.heap.size 92 #[.int .i64 q, .int .i64 y]) := by show Blk _ _ _ _; rw [← hW1]; exact Blk.made _ _ _
      have c0 : Blk W1 w.heap.size 85 (tabA T) := HC1.out
      have z0 : W1.cell? ⟨w.heap.size + 1, 0, none⟩ = some (.int .i64 p) := HK1.out.cell 0
      have y0 : W1.cell? ⟨wr.heap.size, 0, none⟩ = some (.int .i64 q) := HY1.out.cell 0
      obtain ⟨f, hf⟩ : ∃ f, T u v = f := ⟨_, rfl⟩
      have hfb := HTB.out u v
      rw [hf] at hfb
      have HLE : Hid (Un.leB T (p, x) (q, y) = (decide (0 ≤ f) && decide (x ≤ f + y))) := by show _ = _; rw [Un.leB_at HU.out hv, hf]
      have HF := Lib.hid hf
      have HV := Lib.hid hv
      clear c1 c2 hc ht hv hf ha1
      go_wp2_with (refine wpList_load_row rfl 85 _ rfl w.heap.size rfl 85 (tabA T) (0, 0) _ c0 Tryz.underlying85 rfl (size_tab T) ?_)
      refine (far_any W1 T p q u v HU.out hu6 HV.out hv6).mono ?_
      rintro e w2 ⟨rfl, hb2⟩
      rw [HF.out]
      have HB2 := Lib.hid (HB1.out.trans (hb2.mono HB1.out.size))
      have HC2 := Lib.hid (Blk.below HC1.out hb2 HC1.out.lt)
      have HK2 := Lib.hid (Blk.below HK1.out hb2 HK1.out.lt)
      have HY2 := Lib.hid (Blk.below HY1.out hb2 HY1.out.lt)
      have z1 : w2.cell? ⟨w.heap.size + 1, 1, none⟩ = some (.int .i64 x) := HK2.out.cell 1
      have y1 : w2.cell? ⟨wr.heap.size, 1, none⟩ = some (.int .i64 y) := HY2.out.cell 1
      have yes_of : 0 ≤ f → x ≤ f + y → Hid (Un.atB T (p, x) l = true) := fun h1 h2 => Un.atB_some (k := k) (by rw [HL.out]; exact hlt) (by rw [HT.out, HLE.out, decide_eq_true h1, decide_eq_true h2]; rfl)
      have no_of : ¬ (0 ≤ f ∧ x ≤ f + y) → Hid (∀ j, j < k + 1 → Un.leB T (p, x) (l.getD j (0, 0)) = false) := by
        intro h j hj
        by_cases e : j = k
        · subst e
          rw [HT.out, HLE.out, Bool.and_eq_false_iff]
          by_cases h1 : 0 ≤ f
          · exact .inr (decide_eq_false fun h2 => h ⟨h1, h2⟩)
          · exact .inl (decide_eq_false h1)
        · exact HA.out j (by omega)
      clear hb2 c0 z0 y0 k1 k2 hl hW1
      by_cases h1 : f = -1
      · have HA2 := no_of (fun h => by omega)
        subst h1
        clear yes_of no_of hfb
        go_wp2
        go_roundw
        case rel => exact ⟨k + 1, by omega, by go_num, HA2.out, HB2.out, HC2.out, HK2.out⟩
        case measure => simp [intOf]; omega
      · have df : (f != -1) = true := by simpa using h1
        have hf0 : 0 ≤ f := by omega
        by_cases h2 : x ≤ f + y
        · have HR := yes_of hf0 h2
          clear yes_of no_of h1
          go_wp2
          go_ret
          exact ⟨by rw [HR.out]; rfl, HB2.out⟩
        · have dx : decide (x ≤ f + y) = false := decide_eq_false h2
          have HA2 := no_of (fun h => h2 h.2)
          clear yes_of no_of h1 h2
          go_wp2
          go_roundw
          case rel => exact ⟨k + 1, by omega, by go_num, HA2.out, HB2.out, HC2.out, HK2.out⟩
          case measure => simp [intOf]; omega
    · have HR : Hid (Un.atB T (p, x) l = false) := Un.atB_not (fun j hj => HA.out j (by have := hl.1; omega))
      clear hl
      have hki : ¬ (k : Int) < (n : Int) := by omega
      go_wp2
      go_ret
      exact ⟨by rw [HR.out]; rfl, HB.out⟩
end Go.Proofs.YtgebjnoicgmdoaaGreatDoor

namespace Go.Proofs.YtgebjnoicgmdoaaGreatDoor
open Go.RowKit
open Cs (Cn Tb)

/-- an excess, as the program keeps it -/
def excA (T : Tb) (p : Int) : Array Value := #[.int .i64 p] ++ tabA T
/-- what compare gives back -/
def excI (T : Tb) : Option Nm.At → Value
  | none => .nilIface
  | some x => .iface 87 (.agg (excA T x.1))
theorem excI_none (T : Tb) : excI T none = .nilIface := rfl
theorem excI_some (T : Tb) (x : Nm.At) : excI T (some x) = .iface 87 (.agg (excA T x.1)) := rfl
set_option maxRecDepth 100000 in
set_option maxHeartbeats 1600000 in
theorem compare_any (w : World) (B : Nat) (T : Tb) (A1 : Option Addr) (n1 c1 : Nat) (a : List (Int × Int)) (A2 : Option Addr) (n2 c2 : Nat) (b : List (Int × Int)) (hB : B ≤ w.heap.size) (ha : TokR w B A1 n1 a) (hn1 : (n1 : Int) ≤ 140737488355328) (hoa : Nm.AllOk a)
    (hb : TokR w B A2 n2 b) (hn2 : (n2 : Int) ≤ 140737488355328) (hob : Nm.AllOk b) (hT : ∀ i j, -1 ≤ T i j ∧ T i j ≤ 1000) :
    Calls Tryz.prog 93 #[tabV T, .slice A1 n1 c1, .slice A2 n2 c2] w fun e w' => e = .returned (excI T (Un.exL T b a)) ∧ Below w.heap.size w w' := by
  obtain ⟨W0, hW0⟩ : ∃ W, w.alloc (.cells (tabA T) 85) = W := ⟨_, rfl⟩
  have HB0 : Hid (Below w.heap.size w W0) := by show Below _ _ _; rw [← hW0]; exact (Below.refl _ _).alloc (Nat.le_refl _) _
  have HC0 : Hid (Blk W0 w.heap.size 85 (tabA T)) := by show Blk _ _ _ _; rw [← hW0]; exact Blk.made w _ _
  have HOA := Lib.hid hoa
  have HOB := Lib.hid hob
  have HTB := Lib.hid hT
  have HRA := Lib.hid ha
  have HRB := Lib.hid hb
  clear hoa hob hT ha hb
  go_enter Tryz.func93, Tryz.ntmps93
  go_wp2
  clear hW0
  go_loopw [11] (fun i wr => ∃ k : Nat, k ≤ n1 ∧ i = .int .i64 k ∧ Hid (Un.exL T b a = Un.exL T b (a.drop k)) ∧ Hid (Below w.heap.size w wr) ∧ Hid (Blk wr w.heap.size 85 (tabA T))) (fun i _ => n1 - (intOf i).toNat)
  case atStart => exact ⟨0, Nat.zero_le _, rfl, rfl, HB0.out, HC0.out⟩
  case round =>
    clear HB0 HC0
    obtain ⟨k, hk, rfl, HE, HB, HC⟩ := hrel
    by_cases hlt : k < n1
    · have hki : (k : Int) < (n1 : Int) := by omega
      obtain ⟨g, off, rfl, hg, hc⟩ := HRA.out.2 (by omega)
      obtain ⟨c1, c2⟩ := hc k hlt
      have hlk : k < a.length := by rw [HRA.out.1]; exact hlt
      have hat := (Nm.atOk_iff _).1 (HOA.out k hlk)
      have HGO := fun h => Un.exL_go (T := T) (b := b) hlk h
      have HHI := fun h => Un.exL_hit (T := T) (b := b) hlk h
      obtain ⟨t, ht⟩ : ∃ t, a.getD k (0, 0) = t := ⟨_, rfl⟩
      rw [ht] at c1 c2 hat HGO HHI
      obtain ⟨q, y⟩ := t
      simp only at hat
      obtain ⟨a1, a2, a3, a4⟩ := hat
      have k1 := (HB.out.cell (p := ⟨g, off + k * 2, none⟩) (by show g < _; omega)).trans c1
      have k2 := (HB.out.cell (p := ⟨g, off + k * 2 + 1, none⟩) (by show g < _; omega)).trans c2
      obtain ⟨W1, hW1⟩ : ∃ W, wr.alloc (.cells #[.int .i64 q, .int .i64 y] 92) = W := ⟨_, rfl⟩
      have ha1 : Below wr.heap.size wr W1 := by rw [← hW1]; exact (Below.refl _ _).alloc (Nat.le_refl _) _
      have HC1 := Lib.hid (Blk.below HC.out ha1 HC.out.lt)
      have HB1 := Lib.hid (HB.out.trans (ha1.mono HB.out.size))
      have HY1 : Hid (Blk W1 wr.heap.size 92 #[.int .i64 q, .int .i64 y]) := by show Blk _ _ _ _; rw [← hW1]; exact Blk.made _ _ _
      have c0 : Blk W1 w.heap.size 85 (tabA T) := HC1.out
      have y0 : W1.cell? ⟨wr.heap.size, 0, none⟩ = some (.int .i64 q) := HY1.out.cell 0
      have y1 : W1.cell? ⟨wr.heap.size, 1, none⟩ = some (.int .i64 y) := HY1.out.cell 1
      have HGO' := Lib.hid HGO
      have HHI' := Lib.hid HHI
      clear c1 c2 hc ht ha1 HGO HHI
      go_wp2_with (refine wpList_load_row rfl 85 _ rfl w.heap.size rfl 85 (tabA T) (0, 0) _ c0 Tryz.underlying85 rfl (size_tab T) ?_)
      refine (atomLe_any W1 B T q y A2 n2 c2 b (Nat.le_trans hB HB1.out.size) (HRB.out.below (HB1.out.mono hB)) hn2 HOB.out a1 a2 HTB.out).mono ?_
      rintro e w2 ⟨rfl, hb2⟩
      have HB2 := Lib.hid (HB1.out.trans (hb2.mono HB1.out.size))
      have HC2 := Lib.hid (Blk.below HC1.out hb2 HC1.out.lt)
      have HY2 := Lib.hid (Blk.below HY1.out hb2 HY1.out.lt)
      have z1 : w2.cell? ⟨wr.heap.size, 0, none⟩ = some (.int .i64 q) := HY2.out.cell 0
      clear hb2 c0 y0 y1 k1 k2 hW1
      cases hle : Un.atB T (q, y) b with
      | true =>
        have HE2 := Lib.hid (HE.out.trans (HGO'.out hle))
        clear hle
        go_wp2
        go_roundw
        case rel => exact ⟨k + 1, by omega, by go_num, HE2.out, HB2.out, HC2.out⟩
        case measure => simp [intOf]; omega
      | false =>
        have HE2 := Lib.hid (HE.out.trans (HHI'.out hle))
        have c2 := HC2.out
        have hts := tabA_size T
        clear hle
        go_wp2_with (refine wpList_load_row rfl 85 _ rfl w.heap.size rfl 85 (tabA T) (0, 0) _ c2 Tryz.underlying85 rfl (size_tab T) ?_)
        go_ret
        exact ⟨by rw [HE2.out]; kernel_rfl, HB2.out⟩
    · have hki : ¬ (k : Int) < (n1 : Int) := by omega
      have HE2 : Hid (Un.exL T b a = none) := HE.out.trans (Un.exL_end (by rw [HRA.out.1]; omega))
      go_wp2
      go_ret
      exact ⟨by rw [HE2.out]; rfl, HB.out⟩
end Go.Proofs.YtgebjnoicgmdoaaGreatDoor

namespace Go.Proofs.YtgebjnoicgmdoaaGreatDoor.Un
open Go.Proofs.YtgebjnoicgmdoaaGreatDoor.Nm
open Go.Proofs.YtgebjnoicgmdoaaGreatDoor.Cs (Cn Tb)

/-- the first atom at a sign -/
noncomputable def ex1 (l : List Cn) (a b : List (Int × Int)) (S : Nat) : Option At := if Cs.flat (sgL l (S : Int)) = true then exL (Cs.tab (sgL l (S : Int))) (Dc.rs b (S : Int)) (Dc.rs a (S : Int)) else none
theorem ex1_no {l : List Cn} {a b : List (Int × Int)} {S : Nat} (h : Cs.flat (sgL l (S : Int)) = false) : ex1 l a b S = none := if_neg (by rw [h]; decide)
theorem ex1_yes {l : List Cn} {a b : List (Int × Int)} {S : Nat} (h : Cs.flat (sgL l (S : Int)) = true) : ex1 l a b S = exL (Cs.tab (sgL l (S : Int))) (Dc.rs b (S : Int)) (Dc.rs a (S : Int)) := if_pos h
/-- the first place, from S on, at which a function gives something -/
def findS (f : Nat → Option At) : Nat → Nat → Option (Nat × At)
  | _, 0 => none
  | S, k + 1 =>
    match f S with
    | some x => some (S, x)
    | none => findS f (S + 1) k
section
variable {f : Nat → Option At}
theorem findS_more (S k : Nat) : findS f S (k + 1) = match f S with | some x => some (S, x) | none => findS f (S + 1) k := rfl
theorem findS_hit {S k : Nat} {x : At} (h : f S = some x) : findS f S (k + 1) = some (S, x) := by
  rw [findS_more, h]
theorem findS_go {S k : Nat} (h : f S = none) : findS f S (k + 1) = findS f (S + 1) k := by
  rw [findS_more, h]
theorem findS_reach {N : Nat} : ∀ {M : Nat}, M ≤ N → (∀ T, T < M → f T = none) → findS f 0 N = findS f M (N - M) := by
  intro M
  induction M with
  | zero => exact fun _ _ => rfl
  | succ M ih =>
    intro hM h
    rw [ih (by omega) (fun T hT => h T (by omega)), show N - M = (N - (M + 1)) + 1 by omega]
    exact findS_go (h M (by omega))
theorem findS_at : ∀ {k S : Nat} {S' : Nat} {x : At}, findS f S k = some (S', x) → S ≤ S' ∧ S' < S + k ∧ f S' = some x ∧ ∀ T, S ≤ T → T < S' → f T = none := by
  intro k
  induction k with
  | zero => intro S S' x h; cases h
  | succ k ih =>
    intro S S' x h
    rw [findS_more] at h
    cases h1 : f S with
    | some y =>
      rw [h1] at h
      injection h with h
      injection h with e1 e2
      subst e1; subst e2
      exact ⟨Nat.le_refl _, by omega, h1, fun T h1 h2 => by omega⟩
    | none =>
      rw [h1] at h
      obtain ⟨q1, q2, q3, q4⟩ := ih h
      refine ⟨by omega, by omega, q3, fun T ht1 ht2 => ?_⟩
      by_cases e : T = S
      · rw [e]; exact h1
      · exact q4 T (by omega) ht2
theorem findS_no : ∀ {k S : Nat}, findS f S k = none → ∀ T, S ≤ T → T < S + k → f T = none := by
  intro k
  induction k with
  | zero => intro S _ T h1 h2; omega
  | succ k ih =>
    intro S h T h1 h2
    rw [findS_more] at h
    cases hx : f S with
    | some y => rw [hx] at h; cases h
    | none =>
      rw [hx] at h
      by_cases e : T = S
      · rw [e]; exact hx
      · exact ih h T (by omega) (by omega)
theorem findS_none {N : Nat} (h : ∀ T, T < N → f T = none) : findS f 0 N = none := by
  rw [findS_reach (Nat.le_refl N) h, Nat.sub_self]
  rfl
theorem findS_some {N S : Nat} {x : At} (hS : S < N) (h : ∀ T, T < S → f T = none) (hx : f S = some x) : findS f 0 N = some (S, x) := by
  rw [findS_reach (Nat.le_of_lt hS) h, show N - S = (N - (S + 1)) + 1 by omega]
  exact findS_hit hx
end
/-- the first sign and the first atom -/
noncomputable def exR (l : List Cn) (a b : List (Int × Int)) : Option (Nat × At) := findS (ex1 l a b) 0 32
section
variable {l : List Cn} {a b : List (Int × Int)}
theorem exR_none (h : ∀ T, T < 32 → ex1 l a b T = none) : exR l a b = none := findS_none h
theorem exR_some {S : Nat} {x : At} (hS : S < 32) (h : ∀ T, T < S → ex1 l a b T = none) (hx : ex1 l a b S = some x) : exR l a b = some (S, x) := findS_some hS h hx
theorem exR_at {S : Nat} {x : At} (h : exR l a b = some (S, x)) : S < 32 ∧ ex1 l a b S = some x ∧ ∀ T, T < S → ex1 l a b T = none := by
  obtain ⟨_, h2, h3, h4⟩ := findS_at h
  exact ⟨by omega, h3, fun T hT => h4 T (by omega) hT⟩
theorem exR_no (h : exR l a b = none) : ∀ T, T < 32 → ex1 l a b T = none := fun T hT => findS_no h T (by omega) (by omega)

/-- the signs as they are ranged over -/
theorem pre_none {ys : List (Fin 32)} (hS : ys.map Fin.val = List.range 32) (hno : ∀ y ∈ ys, ex1 l a b y.val = none) : exR l a b = none := exR_none fun T hT => by
  have : T ∈ ys.map Fin.val := by rw [hS]; exact List.mem_range.2 hT
  obtain ⟨y, hy, rfl⟩ := List.mem_map.1 this
  exact hno y hy
theorem pre_found {pre : List (Fin 32)} {x : Fin 32} {p : At} (hSp : ∃ k, k ≤ 32 ∧ (pre ++ [x]).map Fin.val = List.range k) (hno : ∀ y ∈ pre, ex1 l a b y.val = none) (hm : ex1 l a b x.val = some p) : exR l a b = some (x.val, p) := by
  obtain ⟨k, hk, he⟩ := hSp
  have hl := congrArg List.length he
  simp only [List.length_map, List.length_append, List.length_cons, List.length_nil, List.length_range] at hl
  obtain rfl : k = pre.length + 1 := by omega
  rw [List.range_succ, List.map_append] at he
  obtain ⟨h1, h2⟩ := List.append_inj he (by simp)
  have hx : x.val = pre.length := by simpa using h2
  refine exR_some x.isLt (fun T hT => ?_) hm
  have : T ∈ pre.map Fin.val := by rw [h1]; exact List.mem_range.2 (by omega)
  obtain ⟨y, hy, rfl⟩ := List.mem_map.1 this
  exact hno y hy
end

/-- the signs that can hold, one after the other -/
theorem found_lt {N : Nat} {p : Nat → Bool} {i j : Nat} (hj : j < ((List.range N).filter p).length) (h : i < j) : ((List.range N).filter p)[i] < ((List.range N).filter p)[j] :=
  List.pairwise_iff_getElem.1 (List.Pairwise.filter p List.pairwise_lt_range) i j (by omega) hj h
section
variable {f : Nat → Option At} {N : Nat} {p : Nat → Bool}
theorem findF_none (hp : ∀ T, p T = false → f T = none) {F : List Nat} (hF : F = (List.range N).filter p) (h : ∀ i, (hi : i < F.length) → f F[i] = none) : findS f 0 N = none := findS_none fun T hT => by
  cases hf : p T with
  | false => exact hp T hf
  | true =>
    have : T ∈ F := by rw [hF, List.mem_filter, List.mem_range]; exact ⟨hT, hf⟩
    obtain ⟨i, hi, rfl⟩ := List.mem_iff_getElem.1 this
    exact h i hi
theorem findF_some (hp : ∀ T, p T = false → f T = none) {F : List Nat} (hF : F = (List.range N).filter p) {k : Nat} (hk : k < F.length) (h : ∀ i, (hi : i < k) → f (F[i]'(by omega)) = none) {x : At} (hx : f F[k] = some x) : findS f 0 N = some (F[k], x) := by
  have hm : F[k] ∈ (List.range N).filter p := by rw [← hF]; exact List.getElem_mem hk
  rw [List.mem_filter, List.mem_range] at hm
  refine findS_some hm.1 (fun T hT => ?_) hx
  cases hf : p T with
  | false => exact hp T hf
  | true =>
    have hT2 : T ∈ F := by rw [hF, List.mem_filter, List.mem_range]; exact ⟨by omega, hf⟩
    obtain ⟨i, hi, rfl⟩ := List.mem_iff_getElem.1 hT2
    refine h i ?_
    rcases Nat.lt_or_ge i k with h' | h'
    · exact h'
    · rcases Nat.eq_or_lt_of_le h' with e | e
      · subst e; omega
      · subst hF
        have := found_lt hi e
        omega
end
section
variable {l : List Cn} {a b : List (Int × Int)}
/-- the signs that the list allows -/
def okS (l : List Cn) (S : Nat) : Bool := Cs.flat (sgL l (S : Int))
theorem ex1_not (T : Nat) (h : okS l T = false) : ex1 l a b T = none := ex1_no h
/-- all of them have come out none; the first that has not -/
theorem fnd_none {F : List Nat} (hF : F = (List.range 32).filter (okS l)) (h : ∀ i, (hi : i < F.length) → ex1 l a b F[i] = none) : exR l a b = none := findF_none ex1_not hF h
theorem fnd_some {F : List Nat} (hF : F = (List.range 32).filter (okS l)) {k : Nat} (hk : k < F.length) (h : ∀ i, (hi : i < k) → ex1 l a b (F[i]'(by omega)) = none) {x : At} (hx : ex1 l a b F[k] = some x) : exR l a b = some (F[k], x) := findF_some ex1_not hF hk h hx
end
/-- the env that exceeds -/
def witL (T : Tb) (p : Int) : List Int := (List.range 5).map fun j => if 0 ≤ p ∧ 0 ≤ T (Cs.node p) (j + 1) then max (T 0 (j + 1)) (200 + T (Cs.node p) (j + 1)) else T 0 (j + 1)
def witO (l : List Cn) (r : Option (Nat × At)) : Option (List Int) := r.map fun x => witL (Cs.tab (sgL l (x.1 : Int))) x.2.1
end Go.Proofs.YtgebjnoicgmdoaaGreatDoor.Un
