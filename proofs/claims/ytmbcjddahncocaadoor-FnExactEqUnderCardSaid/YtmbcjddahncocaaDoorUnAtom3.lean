/- compare of the program: the first atom that does not fit, as an error. -/
/- Plain facts: comparison under constraints, the first sign and atom that do not fit. -/
/- AtomUnder of the program. -/
import Derived.Test.YtmbcjddahncocaaDoorUnAtom
import Derived.Test.YtmbcjddahncocaaDoorDcMath4
import Derived.Test.YtmbcjddahncocaaDoorCoMem
import Derived.Test.YtmbcjddahncocaaDoorSFree
import Derived.Test.YtmbcjddahncocaaDoorRsMath

namespace Go.Proofs.YtmbcjddahncocaaDoor
open Go.RowKit
open Cs (Cn Tb)

/-- an excess, as the program keeps it -/
def excA (T : Tb) (p : Int) : Array Value := #[.int .i64 p] ++ tabA T
/-- what compare gives back -/
def excI (T : Tb) : Option Nm.At → Value
  | none => .nilIface
  | some x => .iface 171 (.agg (excA T x.1))
theorem excI_none (T : Tb) : excI T none = .nilIface := rfl
theorem excI_some (T : Tb) (x : Nm.At) : excI T (some x) = .iface 171 (.agg (excA T x.1)) := rfl
set_option maxRecDepth 100000 in
set_option maxHeartbeats 1600000 in
theorem compare_any (w : World) (B : Nat) (T : Tb) (A1 : Option Addr) (n1 c1 : Nat) (a : List (Int × Int)) (A2 : Option Addr) (n2 c2 : Nat) (b : List (Int × Int)) (hB : B ≤ w.heap.size) (ha : TokR w B A1 n1 a) (hn1 : (n1 : Int) ≤ 140737488355328) (hoa : Nm.AllOk a)
    (hb : TokR w B A2 n2 b) (hn2 : (n2 : Int) ≤ 140737488355328) (hob : Nm.AllOk b) (hT : ∀ i j, -1 ≤ T i j ∧ T i j ≤ 1000) :
    Calls Tryd.prog 124 #[tabV T, .slice A1 n1 c1, .slice A2 n2 c2] w fun e w' => e = .returned (excI T (Un.exL T b a)) ∧ Below w.heap.size w w' := by
  obtain ⟨W0, hW0⟩ : ∃ W, w.alloc (.cells (tabA T) 111) = W := ⟨_, rfl⟩
  have HB0 : Hid (Below w.heap.size w W0) := by show Below _ _ _; rw [← hW0]; exact (Below.refl _ _).alloc (Nat.le_refl _) _
  have HC0 : Hid (Blk W0 w.heap.size 111 (tabA T)) := by show Blk _ _ _ _; rw [← hW0]; exact Blk.made w _ _
  have HOA := Lib.hid hoa
  have HOB := Lib.hid hob
  have HTB := Lib.hid hT
  have HRA := Lib.hid ha
  have HRB := Lib.hid hb
  clear hoa hob hT ha hb
  go_enter Tryd.func124, Tryd.ntmps124
  go_wp2
  clear hW0
  go_loopw [11] (fun i wr => ∃ k : Nat, k ≤ n1 ∧ i = .int .i64 k ∧ Hid (Un.exL T b a = Un.exL T b (a.drop k)) ∧ Hid (Below w.heap.size w wr) ∧ Hid (Blk wr w.heap.size 111 (tabA T))) (fun i _ => n1 - (intOf i).toNat)
  case atStart => exact ⟨0, Nat.zero_le _, rfl, rfl, HB0.out, HC0.out⟩
  case round =>
    clear HB0 HC0
    obtain ⟨k, hk, rfl, HE, HB, HC⟩ := hrel
    by_cases hlt : k < n1
    · have hki : (k : Int) < (n1 : Int) := by omega
      obtain ⟨g, off, rfl, hg, hc⟩ := HRA.out.2 (by omega)
      obtain ⟨c1, c2⟩ := hc k hlt
      have hlk : k < a.length := by rw [HRA.out.1]; exact hlt
      have hat := (Nm.atOk_iff _).1 (HOA.out k hlk)
      have HGO := fun h => Un.exL_go (T := T) (b := b) hlk h
      have HHI := fun h => Un.exL_hit (T := T) (b := b) hlk h
      obtain ⟨t, ht⟩ : ∃ t, a.getD k (0, 0) = t := ⟨_, rfl⟩
      rw [ht] at c1 c2 hat HGO HHI
      obtain ⟨q, y⟩ := t
      simp only at hat
      obtain ⟨a1, a2, a3, a4⟩ := hat
      have k1 := (HB.out.cell (p := ⟨g, off + k * 2, none⟩) (by show g < _; omega)).trans c1
      have k2 := (HB.out.cell (p := ⟨g, off + k * 2 + 1, none⟩) (by show g < _; omega)).trans c2
      obtain ⟨W1, hW1⟩ : ∃ W, wr.alloc (.cells #[.int .i64 q, .int .i64 y] 68) = W := ⟨_, rfl⟩
      have ha1 : Below wr.heap.size wr W1 := by rw [← hW1]; exact (Below.refl _ _).alloc (Nat.le_refl _) _
      have HC1 := Lib.hid (Blk.below HC.out ha1 HC.out.lt)
      have HB1 := Lib.hid (HB.out.trans (ha1.mono HB.out.size))
      have HY1 : Hid (Blk W1 wr.heap.size 68 #[.int .i64 q, .int .i64 y]) := by show Blk _ _ _ _; rw [← hW1]; exact Blk.made _ _ _
      have c0 : Blk W1 w.heap.size 111 (tabA T) := HC1.out
      have y0 : W1.cell? ⟨wr.heap.size, 0, none⟩ = some (.int .i64 q) := HY1.out.cell 0
      have y1 : W1.cell? ⟨wr.heap.size, 1, none⟩ = some (.int .i64 y) := HY1.out.cell 1
      have HGO' := Lib.hid HGO
      have HHI' := Lib.hid HHI
      clear c1 c2 hc ht ha1 HGO HHI
      go_wp2_with (refine wpList_load_row rfl 111 _ rfl w.heap.size rfl 111 (tabA T) (0, 0) _ c0 Tryd.underlying111 rfl (size_tab T) ?_)
      refine (atomLe_any W1 B T q y A2 n2 c2 b (Nat.le_trans hB HB1.out.size) (HRB.out.below (HB1.out.mono hB)) hn2 HOB.out a1 a2 HTB.out).mono ?_
      rintro e w2 ⟨rfl, hb2⟩
      have HB2 := Lib.hid (HB1.out.trans (hb2.mono HB1.out.size))
      have HC2 := Lib.hid (Blk.below HC1.out hb2 HC1.out.lt)
      have HY2 := Lib.hid (Blk.below HY1.out hb2 HY1.out.lt)
      have z1 : w2.cell? ⟨wr.heap.size, 0, none⟩ = some (.int .i64 q) := HY2.out.cell 0
      clear hb2 c0 y0 y1 k1 k2 hW1
      cases hle : Un.atB T (q, y) b with
      | true =>
        have HE2 := Lib.hid (HE.out.trans (HGO'.out hle))
        clear hle
        go_wp2
        go_roundw
        case rel => exact ⟨k + 1, by omega, by go_num, HE2.out, HB2.out, HC2.out⟩
        case measure => simp [intOf]; omega
      | false =>
        have HE2 := Lib.hid (HE.out.trans (HHI'.out hle))
        have c2 := HC2.out
        have hts := tabA_size T
        clear hle
        go_wp2_with (refine wpList_load_row rfl 111 _ rfl w.heap.size rfl 111 (tabA T) (0, 0) _ c2 Tryd.underlying111 rfl (size_tab T) ?_)
        go_ret
        exact ⟨by rw [HE2.out]; kernel_rfl, HB2.out⟩
    · have hki : ¬ (k : Int) < (n1 : Int) := by omega
      have HE2 : Hid (Un.exL T b a = none) := HE.out.trans (Un.exL_end (by rw [HRA.out.1]; omega))
      go_wp2
      go_ret
      exact ⟨by rw [HE2.out]; rfl, HB.out⟩
end Go.Proofs.YtmbcjddahncocaaDoor

namespace Go.Proofs.YtmbcjddahncocaaDoor.Un
open Go.Proofs.YtmbcjddahncocaaDoor.Nm
open Go.Proofs.YtmbcjddahncocaaDoor.Cs (Cn Tb)

/-- the first atom at a sign -/
noncomputable def ex1 (l : List Cn) (a b : List (Int × Int)) (S : Nat) : Option At := if Cs.flat (sgL l (S : Int)) = true then exL (Cs.tab (sgL l (S : Int))) (Dc.rs b (S : Int)) (Dc.rs a (S : Int)) else none
theorem ex1_no {l : List Cn} {a b : List (Int × Int)} {S : Nat} (h : Cs.flat (sgL l (S : Int)) = false) : ex1 l a b S = none := if_neg (by rw [h]; decide)
theorem ex1_yes {l : List Cn} {a b : List (Int × Int)} {S : Nat} (h : Cs.flat (sgL l (S : Int)) = true) : ex1 l a b S = exL (Cs.tab (sgL l (S : Int))) (Dc.rs b (S : Int)) (Dc.rs a (S : Int)) := if_pos h
/-- the first place, from S on, at which a function gives something -/
def findS (f : Nat → Option At) : Nat → Nat → Option (Nat × At)
  | _, 0 => none
  | S, k + 1 =>
    match f S with
    | some x => some (S, x)
    | none => findS f (S + 1) k
section
variable {f : Nat → Option At}
theorem findS_more (S k : Nat) : findS f S (k + 1) = match f S with | some x => some (S, x) | none => findS f (S + 1) k := rfl
theorem findS_hit {S k : Nat} {x : At} (h : f S = some x) : findS f S (k + 1) = some (S, x) := by
  rw [findS_more, h]
theorem findS_go {S k : Nat} (h : f S = none) : findS f S (k + 1) = findS f (S + 1) k := by
  rw [findS_more, h]
theorem findS_reach {N : Nat} : ∀ {M : Nat}, M ≤ N → (∀ T, T < M → f T = none) → findS f 0 N = findS f M (N - M) := by
  intro M
  induction M with
  | zero => exact fun _ _ => rfl
  | succ M ih =>
    intro hM h
    rw [ih (by omega) (fun T hT => h T (by omega)), show N - M = (N - (M + 1)) + 1 by omega]
    exact findS_go (h M (by omega))
theorem findS_none {N : Nat} (h : ∀ T, T < N → f T = none) : findS f 0 N = none := by
  rw [findS_reach (Nat.le_refl N) h, Nat.sub_self]
  rfl
theorem findS_some {N S : Nat} {x : At} (hS : S < N) (h : ∀ T, T < S → f T = none) (hx : f S = some x) : findS f 0 N = some (S, x) := by
  rw [findS_reach (Nat.le_of_lt hS) h, show N - S = (N - (S + 1)) + 1 by omega]
  exact findS_hit hx
end
/-- the first sign and the first atom -/
noncomputable def exR (l : List Cn) (a b : List (Int × Int)) : Option (Nat × At) := findS (ex1 l a b) 0 32
section
variable {l : List Cn} {a b : List (Int × Int)}
theorem exR_none (h : ∀ T, T < 32 → ex1 l a b T = none) : exR l a b = none := findS_none h
theorem exR_some {S : Nat} {x : At} (hS : S < 32) (h : ∀ T, T < S → ex1 l a b T = none) (hx : ex1 l a b S = some x) : exR l a b = some (S, x) := findS_some hS h hx
/-- the signs as they are ranged over -/
theorem pre_none {ys : List (Fin 32)} (hS : ys.map Fin.val = List.range 32) (hno : ∀ y ∈ ys, ex1 l a b y.val = none) : exR l a b = none := exR_none fun T hT => by
  have : T ∈ ys.map Fin.val := by rw [hS]; exact List.mem_range.2 hT
  obtain ⟨y, hy, rfl⟩ := List.mem_map.1 this
  exact hno y hy
theorem pre_found {pre : List (Fin 32)} {x : Fin 32} {p : At} (hSp : ∃ k, k ≤ 32 ∧ (pre ++ [x]).map Fin.val = List.range k) (hno : ∀ y ∈ pre, ex1 l a b y.val = none) (hm : ex1 l a b x.val = some p) : exR l a b = some (x.val, p) := by
  obtain ⟨k, hk, he⟩ := hSp
  have hl := congrArg List.length he
  simp only [List.length_map, List.length_append, List.length_cons, List.length_nil, List.length_range] at hl
  obtain rfl : k = pre.length + 1 := by omega
  rw [List.range_succ, List.map_append] at he
  obtain ⟨h1, h2⟩ := List.append_inj he (by simp)
  have hx : x.val = pre.length := by simpa using h2
  refine exR_some x.isLt (fun T hT => ?_) hm
  have : T ∈ pre.map Fin.val := by rw [h1]; exact List.mem_range.2 (by omega)
  obtain ⟨y, hy, rfl⟩ := List.mem_map.1 this
  exact hno y hy
end

/-- the signs that can hold, one after the other -/
theorem found_lt {N : Nat} {p : Nat → Bool} {i j : Nat} (hj : j < ((List.range N).filter p).length) (h : i < j) : ((List.range N).filter p)[i] < ((List.range N).filter p)[j] :=
  List.pairwise_iff_getElem.1 (List.Pairwise.filter p List.pairwise_lt_range) i j (by omega) hj h
section
variable {f : Nat → Option At} {N : Nat} {p : Nat → Bool}
theorem findF_none (hp : ∀ T, p T = false → f T = none) {F : List Nat} (hF : F = (List.range N).filter p) (h : ∀ i, (hi : i < F.length) → f F[i] = none) : findS f 0 N = none := findS_none fun T hT => by
  cases hf : p T with
  | false => exact hp T hf
  | true =>
    have : T ∈ F := by rw [hF, List.mem_filter, List.mem_range]; exact ⟨hT, hf⟩
    obtain ⟨i, hi, rfl⟩ := List.mem_iff_getElem.1 this
    exact h i hi
theorem findF_some (hp : ∀ T, p T = false → f T = none) {F : List Nat} (hF : F = (List.range N).filter p) {k : Nat} (hk : k < F.length) (h : ∀ i, (hi : i < k) → f (F[i]'(by omega)) = none) {x : At} (hx : f F[k] = some x) : findS f 0 N = some (F[k], x) := by
  have hm : F[k] ∈ (List.range N).filter p := by rw [← hF]; exact List.getElem_mem hk
  rw [List.mem_filter, List.mem_range] at hm
  refine findS_some hm.1 (fun T hT => ?_) hx
  cases hf : p T with
  | false => exact hp T hf
  | true =>
    have hT2 : T ∈ F := by rw [hF, List.mem_filter, List.mem_range]; exact ⟨by omega, hf⟩
    obtain ⟨i, hi, rfl⟩ := List.mem_iff_getElem.1 hT2
    refine h i ?_
    rcases Nat.lt_or_ge i k with h' | h'
    · exact h'
    · rcases Nat.eq_or_lt_of_le h' with e | e
      · subst e; omega
      · subst hF
        have := found_lt hi e
        omega
end
section
variable {l : List Cn} {a b : List (Int × Int)}
/-- the signs that the list allows -/
def okS (l : List Cn) (S : Nat) : Bool := Cs.flat (sgL l (S : Int))
theorem ex1_not (T : Nat) (h : okS l T = false) : ex1 l a b T = none := ex1_no h
/-- all of them have come out none; the first that has not -/
theorem fnd_none {F : List Nat} (hF : F = (List.range 32).filter (okS l)) (h : ∀ i, (hi : i < F.length) → ex1 l a b F[i] = none) : exR l a b = none := findF_none ex1_not hF h
theorem fnd_some {F : List Nat} (hF : F = (List.range 32).filter (okS l)) {k : Nat} (hk : k < F.length) (h : ∀ i, (hi : i < k) → ex1 l a b (F[i]'(by omega)) = none) {x : At} (hx : ex1 l a b F[k] = some x) : exR l a b = some (F[k], x) := findF_some ex1_not hF hk h hx
end
end Go.Proofs.YtmbcjddahncocaaDoor.Un

namespace Go.Proofs.YtmbcjddahncocaaDoor
open Go.RowKit
open Cs (Cn Tb)

theorem sgnB_flat {l : List Cn} {s : Int} (h : sgnB l s = true) : Cs.flat (Un.sgL l s) = true := by
  unfold sgnB at h
  rw [Bool.and_eq_true] at h
  exact h.2
end Go.Proofs.YtmbcjddahncocaaDoor
