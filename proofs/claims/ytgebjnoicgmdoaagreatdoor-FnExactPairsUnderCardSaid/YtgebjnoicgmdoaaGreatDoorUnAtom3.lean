/- compare of the program: the first atom that does not fit, as an error. -/
/- Plain facts: comparison under constraints, the first sign and atom that do not fit. -/
/- signedList and signedPaths of the program for whatever list, nil too. -/
/- AtomUnder of the program. -/
import Derived.Test.YtgebjnoicgmdoaaGreatDoorUnAtom
import Derived.Test.YtgebjnoicgmdoaaGreatDoorDcMath4
import Derived.Test.YtgebjnoicgmdoaaGreatDoorCoTab
import Derived.Test.YtgebjnoicgmdoaaGreatDoorSFree
import Derived.Test.YtgebjnoicgmdoaaGreatDoorNMath4

namespace Go.Proofs.YtgebjnoicgmdoaaGreatDoor
open Go.RowKit
open Cs (Cn Tb)

/-- an excess, as the program keeps it -/
def excA (T : Tb) (p : Int) : Array Value := #[.int .i64 p] ++ tabA T
/-- what compare gives back -/
def excI (T : Tb) : Option Nm.At → Value
  | none => .nilIface
  | some x => .iface 87 (.agg (excA T x.1))
theorem excI_none (T : Tb) : excI T none = .nilIface := rfl
theorem excI_some (T : Tb) (x : Nm.At) : excI T (some x) = .iface 87 (.agg (excA T x.1)) := rfl
set_option maxRecDepth 100000 in
set_option maxHeartbeats 1600000 in
theorem compare_any (w : World) (B : Nat) (T : Tb) (A1 : Option Addr) (n1 c1 : Nat) (a : List (Int × Int)) (A2 : Option Addr) (n2 c2 : Nat) (b : List (Int × Int)) (hB : B ≤ w.heap.size) (ha : TokR w B A1 n1 a) (hn1 : (n1 : Int) ≤ 140737488355328) (hoa : Nm.AllOk a)
    (hb : TokR w B A2 n2 b) (hn2 : (n2 : Int) ≤ 140737488355328) (hob : Nm.AllOk b) (hT : ∀ i j, -1 ≤ T i j ∧ T i j ≤ 1000) :
    Calls Tryz.prog 93 #[tabV T, .slice A1 n1 c1, .slice A2 n2 c2] w fun e w' => e = .returned (excI T (Un.exL T b a)) ∧ Below w.heap.size w w' := by
  obtain ⟨W0, hW0⟩ : ∃ W, w.alloc (.cells (tabA T) 85) = W := ⟨_, rfl⟩
  have HB0 : Hid (Below w.heap.size w W0) := by show Below _ _ _; rw [← hW0]; exact (Below.refl _ _).alloc (Nat.le_refl _) _
  have HC0 : Hid (Blk W0 w.heap.size 85 (tabA T)) := by show Blk _ _ _ _; rw [← hW0]; exact Blk.made w _ _
  have HOA := Lib.hid hoa
  have HOB := Lib.hid hob
  have HTB := Lib.hid hT
  have HRA := Lib.hid ha
  have HRB := Lib.hid hb
  clear hoa hob hT ha hb
  go_enter Tryz.func93, Tryz.ntmps93
  go_wp2
  clear hW0
  go_loopw [11] (fun i wr => ∃ k : Nat, k ≤ n1 ∧ i = .int .i64 k ∧ Hid (Un.exL T b a = Un.exL T b (a.drop k)) ∧ Hid (Below w.heap.size w wr) ∧ Hid (Blk wr w.heap.size 85 (tabA T))) (fun i _ => n1 - (intOf i).toNat)
  case atStart => exact ⟨0, Nat.zero_le _, rfl, rfl, HB0.out, HC0.out⟩
  case round =>
    clear HB0 HC0
    obtain ⟨k, hk, rfl, HE, HB, HC⟩ := hrel
    by_cases hlt : k < n1
    · have hki : (k : Int) < (n1 : Int) := by omega
      obtain ⟨g, off, rfl, hg, hc⟩ := HRA.out.2 (by omega)
      obtain ⟨c1, c2⟩ := hc k hlt
      have hlk : k < a.length := by rw [HRA.out.1]; exact hlt
      have hat := (Nm.atOk_iff _).1 (HOA.out k hlk)
      have HGO := fun h => Un.exL_go (T := T) (b := b) hlk h
      have HHI := fun h => Un.exL_hit (T := T) (b := b) hlk h
      obtain ⟨t, ht⟩ : ∃ t, a.getD k (0, 0) = t := ⟨_, rfl⟩
      rw [ht] at c1 c2 hat HGO HHI
      obtain ⟨q, y⟩ := t
      simp only at hat
      obtain ⟨a1, a2, a3, a4⟩ := hat
      have k1 := (HB.out.cell (p := ⟨g, off + k * 2, none⟩) (by show g < _; omega)).trans c1
      have k2 := (HB.out.cell (p := ⟨g, off + k * 2 + 1, none⟩) (by show g < _; omega)).trans c2
      obtain ⟨W1, hW1⟩ : ∃ W, wr.alloc (.cells #[.int .i64 q, .int .i64 y] 92) = W := ⟨_, rfl⟩
      have ha1 : Below wr.heap.size wr W1 := by rw [← hW1]; exact (Below.refl _ _).alloc (Nat.le_refl _) _
      have HC1 := Lib.hid (Blk.below HC.out ha1 HC.out.lt)
      have HB1 := Lib.hid (HB.out.trans (ha1.mono HB.out.size))
      have HY1 : Hid (Blk W1 wr.heap.size 92 #[.int .i64 q, .int .i64 y]) := by show Blk _ _ _ _; rw [← hW1]; exact Blk.made _ _ _
      have c0 : Blk W1 w.heap.size 85 (tabA T) := HC1.out
      have y0 : W1.cell? ⟨wr.heap.size, 0, none⟩ = some (.int .i64 q) := HY1.out.cell 0
      have y1 : W1.cell? ⟨wr.heap.size, 1, none⟩ = some (.int .i64 y) := HY1.out.cell 1
      have HGO' := Lib.hid HGO
      have HHI' := Lib.hid HHI
      clear c1 c2 hc ht ha1 HGO HHI
      go_wp2_with (refine wpList_load_row rfl 85 _ rfl w.heap.size rfl 85 (tabA T) (0, 0) _ c0 Tryz.underlying85 rfl (size_tab T) ?_)
      refine (atomLe_any W1 B T q y A2 n2 c2 b (Nat.le_trans hB HB1.out.size) (HRB.out.below (HB1.out.mono hB)) hn2 HOB.out a1 a2 HTB.out).mono ?_
      rintro e w2 ⟨rfl, hb2⟩
      have HB2 := Lib.hid (HB1.out.trans (hb2.mono HB1.out.size))
      have HC2 := Lib.hid (Blk.below HC1.out hb2 HC1.out.lt)
      have HY2 := Lib.hid (Blk.below HY1.out hb2 HY1.out.lt)
      have z1 : w2.cell? ⟨wr.heap.size, 0, none⟩ = some (.int .i64 q) := HY2.out.cell 0
      clear hb2 c0 y0 y1 k1 k2 hW1
      cases hle : Un.atB T (q, y) b with
      | true =>
        have HE2 := Lib.hid (HE.out.trans (HGO'.out hle))
        clear hle
        go_wp2
        go_roundw
        case rel => exact ⟨k + 1, by omega, by go_num, HE2.out, HB2.out, HC2.out⟩
        case measure => simp [intOf]; omega
      | false =>
        have HE2 := Lib.hid (HE.out.trans (HHI'.out hle))
        have c2 := HC2.out
        have hts := tabA_size T
        clear hle
        go_wp2_with (refine wpList_load_row rfl 85 _ rfl w.heap.size rfl 85 (tabA T) (0, 0) _ c2 Tryz.underlying85 rfl (size_tab T) ?_)
        go_ret
        exact ⟨by rw [HE2.out]; kernel_rfl, HB2.out⟩
    · have hki : ¬ (k : Int) < (n1 : Int) := by omega
      have HE2 : Hid (Un.exL T b a = none) := HE.out.trans (Un.exL_end (by rw [HRA.out.1]; omega))
      go_wp2
      go_ret
      exact ⟨by rw [HE2.out]; rfl, HB.out⟩
end Go.Proofs.YtgebjnoicgmdoaaGreatDoor

namespace Go.Proofs.YtgebjnoicgmdoaaGreatDoor.Un
open Go.Proofs.YtgebjnoicgmdoaaGreatDoor.Nm
open Go.Proofs.YtgebjnoicgmdoaaGreatDoor.Cs (Cn Tb)

/-- the first atom at a sign -/
noncomputable def ex1 (l : List Cn) (a b : List (Int × Int)) (S : Nat) : Option At := if Cs.flat (sgL l (S : Int)) = true then exL (Cs.tab (sgL l (S : Int))) (Dc.rs b (S : Int)) (Dc.rs a (S : Int)) else none
theorem ex1_no {l : List Cn} {a b : List (Int × Int)} {S : Nat} (h : Cs.flat (sgL l (S : Int)) = false) : ex1 l a b S = none := if_neg (by rw [h]; decide)
theorem ex1_yes {l : List Cn} {a b : List (Int × Int)} {S : Nat} (h : Cs.flat (sgL l (S : Int)) = true) : ex1 l a b S = exL (Cs.tab (sgL l (S : Int))) (Dc.rs b (S : Int)) (Dc.rs a (S : Int)) := if_pos h
/-- the first place, from S on, at which a function gives something -/
def findS (f : Nat → Option At) : Nat → Nat → Option (Nat × At)
  | _, 0 => none
  | S, k + 1 =>
    match f S with
    | some x => some (S, x)
    | none => findS f (S + 1) k
section
variable {f : Nat → Option At}
theorem findS_more (S k : Nat) : findS f S (k + 1) = match f S with | some x => some (S, x) | none => findS f (S + 1) k := rfl
theorem findS_hit {S k : Nat} {x : At} (h : f S = some x) : findS f S (k + 1) = some (S, x) := by
  rw [findS_more, h]
theorem findS_go {S k : Nat} (h : f S = none) : findS f S (k + 1) = findS f (S + 1) k := by
  rw [findS_more, h]
theorem findS_reach {N : Nat} : ∀ {M : Nat}, M ≤ N → (∀ T, T < M → f T = none) → findS f 0 N = findS f M (N - M) := by
  intro M
  induction M with
  | zero => exact fun _ _ => rfl
  | succ M ih =>
    intro hM h
    rw [ih (by omega) (fun T hT => h T (by omega)), show N - M = (N - (M + 1)) + 1 by omega]
    exact findS_go (h M (by omega))
theorem findS_at : ∀ {k S : Nat} {S' : Nat} {x : At}, findS f S k = some (S', x) → S ≤ S' ∧ S' < S + k ∧ f S' = some x ∧ ∀ T, S ≤ T → T < S' → f T = none := by
  intro k
  induction k with
  | zero => intro S S' x h; cases h
  | succ k ih =>
    intro S S' x h
    rw [findS_more] at h
    cases h1 : f S with
    | some y =>
      rw [h1] at h
      injection h with h
      injection h with e1 e2
      subst e1; subst e2
      exact ⟨Nat.le_refl _, by omega, h1, fun T h1 h2 => by omega⟩
    | none =>
      rw [h1] at h
      obtain ⟨q1, q2, q3, q4⟩ := ih h
      refine ⟨by omega, by omega, q3, fun T ht1 ht2 => ?_⟩
      by_cases e : T = S
      · rw [e]; exact h1
      · exact q4 T (by omega) ht2
theorem findS_no : ∀ {k S : Nat}, findS f S k = none → ∀ T, S ≤ T → T < S + k → f T = none := by
  intro k
  induction k with
  | zero => intro S _ T h1 h2; omega
  | succ k ih =>
    intro S h T h1 h2
    rw [findS_more] at h
    cases hx : f S with
    | some y => rw [hx] at h; cases h
    | none =>
      rw [hx] at h
      by_cases e : T = S
      · rw [e]; exact hx
      · exact ih h T (by omega) (by omega)
theorem findS_none {N : Nat} (h : ∀ T, T < N → f T = none) : findS f 0 N = none := by
  rw [findS_reach (Nat.le_refl N) h, Nat.sub_self]
  rfl
theorem findS_some {N S : Nat} {x : At} (hS : S < N) (h : ∀ T, T < S → f T = none) (hx : f S = some x) : findS f 0 N = some (S, x) := by
  rw [findS_reach (Nat.le_of_lt hS) h, show N - S = (N - (S + 1)) + 1 by omega]
  exact findS_hit hx
end
/-- the first sign and the first atom -/
noncomputable def exR (l : List Cn) (a b : List (Int × Int)) : Option (Nat × At) := findS (ex1 l a b) 0 32
section
variable {l : List Cn} {a b : List (Int × Int)}
theorem exR_none (h : ∀ T, T < 32 → ex1 l a b T = none) : exR l a b = none := findS_none h
theorem exR_some {S : Nat} {x : At} (hS : S < 32) (h : ∀ T, T < S → ex1 l a b T = none) (hx : ex1 l a b S = some x) : exR l a b = some (S, x) := findS_some hS h hx
theorem exR_at {S : Nat} {x : At} (h : exR l a b = some (S, x)) : S < 32 ∧ ex1 l a b S = some x ∧ ∀ T, T < S → ex1 l a b T = none := by
  obtain ⟨_, h2, h3, h4⟩ := findS_at h
  exact ⟨by omega, h3, fun T hT => h4 T (by omega) hT⟩
theorem exR_no (h : exR l a b = none) : ∀ T, T < 32 → ex1 l a b T = none := fun T hT => findS_no h T (by omega) (by omega)

/-- the signs as they are ranged over -/
theorem pre_none {ys : List (Fin 32)} (hS : ys.map Fin.val = List.range 32) (hno : ∀ y ∈ ys, ex1 l a b y.val = none) : exR l a b = none := exR_none fun T hT => by
  have : T ∈ ys.map Fin.val := by rw [hS]; exact List.mem_range.2 hT
  obtain ⟨y, hy, rfl⟩ := List.mem_map.1 this
  exact hno y hy
theorem pre_found {pre : List (Fin 32)} {x : Fin 32} {p : At} (hSp : ∃ k, k ≤ 32 ∧ (pre ++ [x]).map Fin.val = List.range k) (hno : ∀ y ∈ pre, ex1 l a b y.val = none) (hm : ex1 l a b x.val = some p) : exR l a b = some (x.val, p) := by
  obtain ⟨k, hk, he⟩ := hSp
  have hl := congrArg List.length he
  simp only [List.length_map, List.length_append, List.length_cons, List.length_nil, List.length_range] at hl
  obtain rfl : k = pre.length + 1 := by omega
  rw [List.range_succ, List.map_append] at he
  obtain ⟨h1, h2⟩ := List.append_inj he (by simp)
  have hx : x.val = pre.length := by simpa using h2
  refine exR_some x.isLt (fun T hT => ?_) hm
  have : T ∈ pre.map Fin.val := by rw [h1]; exact List.mem_range.2 (by omega)
  obtain ⟨y, hy, rfl⟩ := List.mem_map.1 this
  exact hno y hy
end

/-- the signs that can hold, one after the other -/
theorem found_lt {N : Nat} {p : Nat → Bool} {i j : Nat} (hj : j < ((List.range N).filter p).length) (h : i < j) : ((List.range N).filter p)[i] < ((List.range N).filter p)[j] :=
  List.pairwise_iff_getElem.1 (List.Pairwise.filter p List.pairwise_lt_range) i j (by omega) hj h
section
variable {f : Nat → Option At} {N : Nat} {p : Nat → Bool}
theorem findF_none (hp : ∀ T, p T = false → f T = none) {F : List Nat} (hF : F = (List.range N).filter p) (h : ∀ i, (hi : i < F.length) → f F[i] = none) : findS f 0 N = none := findS_none fun T hT => by
  cases hf : p T with
  | false => exact hp T hf
  | true =>
    have : T ∈ F := by rw [hF, List.mem_filter, List.mem_range]; exact ⟨hT, hf⟩
    obtain ⟨i, hi, rfl⟩ := List.mem_iff_getElem.1 this
    exact h i hi
theorem findF_some (hp : ∀ T, p T = false → f T = none) {F : List Nat} (hF : F = (List.range N).filter p) {k : Nat} (hk : k < F.length) (h : ∀ i, (hi : i < k) → f (F[i]'(by omega)) = none) {x : At} (hx : f F[k] = some x) : findS f 0 N = some (F[k], x) := by
  have hm : F[k] ∈ (List.range N).filter p := by rw [← hF]; exact List.getElem_mem hk
  rw [List.mem_filter, List.mem_range] at hm
  refine findS_some hm.1 (fun T hT => ?_) hx
  cases hf : p T with
  | false => exact hp T hf
  | true =>
    have hT2 : T ∈ F := by rw [hF, List.mem_filter, List.mem_range]; exact ⟨by omega, hf⟩
    obtain ⟨i, hi, rfl⟩ := List.mem_iff_getElem.1 hT2
    refine h i ?_
    rcases Nat.lt_or_ge i k with h' | h'
    · exact h'
    · rcases Nat.eq_or_lt_of_le h' with e | e
      · subst e; omega
      · subst hF
        have := found_lt hi e
        omega
end
section
variable {l : List Cn} {a b : List (Int × Int)}
/-- the signs that the list allows -/
def okS (l : List Cn) (S : Nat) : Bool := Cs.flat (sgL l (S : Int))
theorem ex1_not (T : Nat) (h : okS l T = false) : ex1 l a b T = none := ex1_no h
/-- all of them have come out none; the first that has not -/
theorem fnd_none {F : List Nat} (hF : F = (List.range 32).filter (okS l)) (h : ∀ i, (hi : i < F.length) → ex1 l a b F[i] = none) : exR l a b = none := findF_none ex1_not hF h
theorem fnd_some {F : List Nat} (hF : F = (List.range 32).filter (okS l)) {k : Nat} (hk : k < F.length) (h : ∀ i, (hi : i < k) → ex1 l a b (F[i]'(by omega)) = none) {x : At} (hx : ex1 l a b F[k] = some x) : exR l a b = some (F[k], x) := findF_some ex1_not hF hk h hx
end
/-- the env that exceeds -/
def witL (T : Tb) (p : Int) : List Int := (List.range 5).map fun j => if 0 ≤ p ∧ 0 ≤ T (Cs.node p) (j + 1) then max (T 0 (j + 1)) (200 + T (Cs.node p) (j + 1)) else T 0 (j + 1)
def witO (l : List Cn) (r : Option (Nat × At)) : Option (List Int) := r.map fun x => witL (Cs.tab (sgL l (x.1 : Int))) x.2.1
end Go.Proofs.YtgebjnoicgmdoaaGreatDoor.Un

namespace Go.Proofs.YtgebjnoicgmdoaaGreatDoor
open Go.RowKit
open Cs (Cn Tb)

/-- a slice value that can be: it lies somewhere, or it is nil -/
def SlOk (A : Option Addr) (n c : Nat) : Prop := (∃ b off, A = some ⟨b, off, none⟩) ∨ (A = none ∧ n = 0 ∧ c = 0)
theorem own_ge {w : World} {base size n : Nat} {e : TypeId} {v : Value} {xs : List Value} (h : w.ownsRow base e size v n xs) {x : Nat} (hx : v.ownBlock = some x) : base ≤ x := (h.lt x hx).1
set_option maxRecDepth 100000 in
set_option maxHeartbeats 800000 in
theorem cloneC_all (w : World) (B : Nat) (A : Option Addr) (n c : Nat) (l : List Cn) (hA : SlOk A n c) (hB : B ≤ w.heap.size) (hl : ConR w B A n l) (hn : n ≤ 1000) :
    Calls Tryz.prog 145 #[.slice A n c] w fun e w' => ∃ A2 c2, e = .returned (.slice A2 n c2) ∧ OwnC w' w.heap.size A2 n c2 l ∧ Below w.heap.size w w' := by
  rcases hA with ⟨b, off, rfl⟩ | ⟨rfl, rfl, rfl⟩
  · refine (cloneC_any w B b off n c l hB hl hn).mono ?_
    rintro e w1 ⟨g2, c2, rfl, ho, hb⟩
    exact ⟨_, c2, rfl, ho, hb⟩
  · have hnil := Lib.run_eql_slice_nil (P := Tryz.prog)
    have hl0 : l = [] := List.eq_nil_of_length_eq_zero hl.1
    subst hl0
    clear hl
    go_enter Tryz.func145, Tryz.ntmps145
    go_wp2
    go_ret
    exact ⟨none, 0, rfl, World.ownsRow_nil _ _ _ _, Below.refl _ _⟩

set_option maxRecDepth 100000 in
set_option maxHeartbeats 1600000 in
theorem signedList_all (w : World) (B : Nat) (A : Option Addr) (n c : Nat) (l : List Cn) (s : Int) (hB : B ≤ w.heap.size) (hA : SlOk A n c) (hl : ConR w B A n l) (hn : n ≤ 900) :
    Calls Tryz.prog 121 #[.slice A n c, .int .i64 s] w (SgnOut w l s n) := by
  obtain ⟨i0, hi, hz0, hz1, hz2⟩ := info_parts info_con
  have HL := Lib.hid hl
  clear hl
  go_enter Tryz.func121, Tryz.ntmps121
  go_wp2_with fail
  refine (cloneC_all w B A n c l hA hB HL.out (by omega)).mono ?_
  rintro e w1 ⟨A1, c1, rfl, ho1, hb1⟩
  have HO1 : Hid (OwnC w1 w.heap.size A1 n c1 (signTo l s 0)) := by show OwnC _ _ _ _ _ _; rw [signTo_zero]; exact ho1
  have HB1 := Lib.hid hb1
  clear ho1 hb1
  go_wp2
  go_loopw [9, 5] (fun i v wr => ∃ (k m : Nat) (A2 : Option Addr) (c2 : Nat), k ≤ 5 ∧ i = .int .i64 k ∧ m = n + k ∧ v = .slice A2 m c2 ∧ Hid (OwnC wr w.heap.size A2 m c2 (signTo l s k)) ∧ Hid (Below w.heap.size w wr)) (fun i _ _ => 5 - (intOf i).toNat)
  case atStart => exact ⟨0, n, A1, c1, by omega, rfl, rfl, rfl, HO1.out, HB1.out⟩
  case round =>
    clear HO1 HB1
    obtain ⟨k, m, A2, c2, hk, rfl, hmk, rfl, HO, HB⟩ := hrel
    have HMK := Lib.hid hmk
    have hm1 : m ≤ 905 := by omega
    have hmn : n ≤ m := by omega
    clear hmk
    have hszr := HB.out.size
    by_cases hlt : k < 5
    · have hki : (k : Int) < 5 := by omega
      have HST := Lib.hid (signTo_succ l s k)
      have hown := HO.out
      go_wp2_with fail
      refine (implSignHas_any wr s k).mono ?_
      rintro e w2 ⟨rfl, hw⟩
      obtain rfl : wr = w2 := hw.symm
      cases hh : Sg.has s (k : Int) with
      | true =>
        rw [hh] at HST
        clear hh
        go_wp2_with (at_builtin; refine wpList_append_own _ rfl (.tmp 15) (.tmp 18) 24 rfl w.heap.size 41 i0 (.agg #[.int .i64 0, .int .i64 0, .int .i64 0]) 3 24 Tryz.underlying24 hi hz0 hz1 hz2 rfl (by decide) (.slice A2 m c2) m (conCells (signTo l s k)) rfl (hown.alloc _) ⟨wr.heap.size, 0, none⟩ 1 1 (conCells [(-1, 1, (k : Int))]) rfl rfl (con_new wr (-1) 1 k) (conCells_one _) (by unfold maxLen; omega) (by omega) (by simp; omega) ?_; intro v' w3 hown' hgrow hnil)
        obtain ⟨g3, c3, rfl⟩ : ∃ g' c', v' = .slice (some ⟨g', 0, none⟩) (m + 1) c' := by
          rcases hown'.2 with ⟨h0, h1⟩ | ⟨g', c', _, h0, _⟩
          · omega
          · exact ⟨g', c', h0⟩
        have HB3 : Hid (Below w.heap.size w w3) := (HB.out.alloc hszr _).grown hgrow (by simp; omega) (fun x h => (own_ge (v := .slice A2 m c2) hown h))
        have HO3 : Hid (OwnC w3 w.heap.size (some ⟨g3, 0, none⟩) (m + 1) c3 (signTo l s (k + 1))) := by
          show OwnC _ _ _ _ _ _
          rw [HST.out]
          unfold OwnC
          rw [conCells_append]
          exact hown'
        clear hown hown' hgrow hnil
        go_wp2
        go_roundw
        case rel => exact ⟨k + 1, m + 1, _, c3, by omega, by go_num, by have := HMK.out; omega, rfl, HO3.out, HB3.out⟩
        case measure => simp [intOf]; omega
      | false =>
        rw [hh] at HST
        clear hh
        go_wp2_with (at_builtin; refine wpList_append_own _ rfl (.tmp 20) (.tmp 23) 24 rfl w.heap.size 41 i0 (.agg #[.int .i64 0, .int .i64 0, .int .i64 0]) 3 24 Tryz.underlying24 hi hz0 hz1 hz2 rfl (by decide) (.slice A2 m c2) m (conCells (signTo l s k)) rfl (hown.alloc _) ⟨wr.heap.size, 0, none⟩ 1 1 (conCells [((k : Int), 0, -1)]) rfl rfl (con_new wr k 0 (-1)) (conCells_one _) (by unfold maxLen; omega) (by omega) (by simp; omega) ?_; intro v' w3 hown' hgrow hnil)
        obtain ⟨g3, c3, rfl⟩ : ∃ g' c', v' = .slice (some ⟨g', 0, none⟩) (m + 1) c' := by
          rcases hown'.2 with ⟨h0, h1⟩ | ⟨g', c', _, h0, _⟩
          · omega
          · exact ⟨g', c', h0⟩
        have HB3 : Hid (Below w.heap.size w w3) := (HB.out.alloc hszr _).grown hgrow (by simp; omega) (fun x h => (own_ge (v := .slice A2 m c2) hown h))
        have HO3 : Hid (OwnC w3 w.heap.size (some ⟨g3, 0, none⟩) (m + 1) c3 (signTo l s (k + 1))) := by
          show OwnC _ _ _ _ _ _
          rw [HST.out]
          unfold OwnC
          rw [conCells_append]
          exact hown'
        clear hown hown' hgrow hnil
        go_wp2
        go_roundw
        case rel => exact ⟨k + 1, m + 1, _, c3, by omega, by go_num, by have := HMK.out; omega, rfl, HO3.out, HB3.out⟩
        case measure => simp [intOf]; omega
    · have hkk : ¬ (k : Int) < 5 := by omega
      obtain rfl : k = 5 := by omega
      rw [signTo_all] at HO
      have hmm := HMK.out
      obtain ⟨g2, hg2⟩ : ∃ g2, A2 = some ⟨g2, 0, none⟩ := by
        rcases HO.out.2 with ⟨h0, h1⟩ | ⟨g', cap, cur, hv, _⟩
        · omega
        · injection hv with e1 e2 e3
          exact ⟨g', e1⟩
      subst hg2
      go_wp2
      go_ret
      subst hmm
      exact ⟨g2, c2, rfl, HO.out, HB.out⟩

set_option maxRecDepth 100000 in
set_option maxHeartbeats 1600000 in
theorem signedPaths_all (w : World) (B : Nat) (A : Option Addr) (n c : Nat) (l : List Cn) (s : Int) (hA : SlOk A n c) (hB : B ≤ w.heap.size) (hl : ConR w B A n l) (hn : (n : Int) ≤ 140737488355328) :
    Calls Tryz.prog 92 #[.slice A n c, .int .i64 s] w fun e w' => e = .returned (.tuple #[tabV (sgnT l s), .bool (sgnB l s)]) ∧ Below w.heap.size w w' := by
  have hz := zeros_tab
  obtain ⟨W0, hW0⟩ : ∃ W, w.alloc (.cells (tabA zeroT) 85) = W := ⟨_, rfl⟩
  have hb0 : Below w.heap.size w W0 := by rw [← hW0]; exact (Below.refl _ _).alloc (Nat.le_refl _) _
  have hs0 : W0.heap.size = w.heap.size + 1 := by rw [← hW0]; simp
  have hk0 : Blk W0 w.heap.size 85 (tabA zeroT) := by rw [← hW0]; exact Blk.made _ _ _
  have HL := Lib.hid (hl.below (hb0.mono hB))
  have HB0 := Lib.hid hb0
  have HK0 := Lib.hid hk0
  clear hl hb0 hk0
  go_enter Tryz.func92, Tryz.ntmps92
  go_wp2_with fail
  refine (implConsOk_any W0 B A n c l (by omega) HL.out hn).mono ?_
  rintro e w1 ⟨rfl, hb1⟩
  have HB1 := Lib.hid (HB0.out.trans (hb1.mono (by omega)))
  have hs1 := hb1.size
  have HK1 := Lib.hid (Blk.below HK0.out hb1 (by omega))
  have HL1 := Lib.hid (HL.out.below (hb1.mono (by omega)))
  clear hb1 hW0
  have hbd := build_tab
  have c0 := HK1.out
  have HB6 : Hid (Below w.heap.size w (w1.setRow w.heap.size (tabA zeroT))) := (Wrote.row _ _ _).below HB1.out HB1.out.size (Nat.le_refl _)
  have HB7 : Hid (Blk (w1.setRow w.heap.size (tabA zeroT)) w.heap.size 85 (tabA zeroT)) := BlkT.lay c0 _
  cases hc : consOkR l with
  | false =>
    have HF := Lib.hid (sgnB_bad (s := s) hc)
    have HT := Lib.hid (sgnT_no (sgnB_bad (s := s) hc))
    clear hc
    go_wp2_with (refine wpList_store_row rfl 85 _ _ rfl w.heap.size (tabA zeroT) rfl rfl 85 (tabA zeroT) c0 (size_tab zeroT) rfl (tabA_one zeroT) ?_)
    refine bodyPost_ret (results_cell_tmp2 (p := 4) (q := 5) rfl _ _ w.heap.size 85 (tabA zeroT) (0, 0) _ rfl HB7.out Tryz.underlying85 rfl (size_tab _)) rfl ⟨?_, HB6.out⟩
    show Ending.returned (.tuple #[tabV zeroT, .bool false]) = _
    rw [HF.out, HT.out]
  | true =>
    have HC := Lib.hid hc
    have HP := Lib.hid (consOk_parts hc)
    have HN : Hid (n ≤ 24) := by
      show n ≤ 24
      have h := (consOkR_ok hc).2
      rw [HL1.out.1] at h
      exact h
    clear hc
    go_wp2_with fail
    refine (signOk_any w1 s).mono ?_
    rintro e w1' ⟨rfl, hw⟩
    obtain rfl : w1 = w1' := hw.symm
    cases hs : Sg.isSign s with
    | false =>
      have HF := Lib.hid (sgnB_not (l := l) hs)
      have HT := Lib.hid (sgnT_no (sgnB_not (l := l) hs))
      clear hs
      go_wp2_with (refine wpList_store_row rfl 85 _ _ rfl w.heap.size (tabA zeroT) rfl rfl 85 (tabA zeroT) c0 (size_tab zeroT) rfl (tabA_one zeroT) ?_)
      refine bodyPost_ret (results_cell_tmp2 (p := 4) (q := 5) rfl _ _ w.heap.size 85 (tabA zeroT) (0, 0) _ rfl HB7.out Tryz.underlying85 rfl (size_tab _)) rfl ⟨?_, HB6.out⟩
      show Ending.returned (.tuple #[tabV zeroT, .bool false]) = _
      rw [HF.out, HT.out]
    | true =>
      have HF := Lib.hid (sgnB_ok HC.out hs)
      have HT := Lib.hid (sgnT_long HC.out hs)
      clear hs c0 HB6 HB7 hbd
      have hn24 := HN.out
      go_wp2_with fail
      refine (signedList_all w1 B A n c l s (by omega) hA HL1.out (by omega)).mono ?_
      rintro e w2 ⟨g2, c2, rfl, ho2, hb2⟩
      have HR2 := Lib.hid (OwnC.reads ho2)
      have HB2 := Lib.hid (HB1.out.trans (hb2.mono (by omega)))
      have HK2 := Lib.hid (Blk.below HK1.out hb2 HK1.out.lt)
      have hs2 := hb2.size
      clear ho2 hb2
      go_wp2_with fail
      refine (longestPaths_any w2 w2.heap.size (some ⟨g2, 0, none⟩) (n + 5) c2 (Un.sgL l s) (Nat.le_refl _) HR2.out (Cs.signed_ok HP.out.1 _) (by omega)).mono ?_
      rintro e w3 ⟨rfl, hb3⟩
      rw [← HT.out, ← HF.out]
      obtain ⟨T, hT⟩ : ∃ T, sgnT l s = T := ⟨_, rfl⟩
      have HT2 := Lib.hid hT
      rw [hT]
      have HB3 := Lib.hid (HB2.out.trans (hb3.mono (by omega)))
      have c3 := Blk.below HK2.out hb3 HK2.out.lt
      clear hb3 hT
      have HB8 : Hid (Below w.heap.size w (w3.setRow w.heap.size (tabA T))) := (Wrote.row _ _ _).below HB3.out HB3.out.size (Nat.le_refl _)
      have HB9 : Hid (Blk (w3.setRow w.heap.size (tabA T)) w.heap.size 85 (tabA T)) := BlkT.lay c3 _
      go_wp2_with (refine wpList_store_row rfl 85 _ _ rfl w.heap.size (tabA T) rfl rfl 85 (tabA zeroT) c3 (size_tab T) rfl (tabA_one T) ?_)
      refine bodyPost_ret (results_cell_tmp2 (p := 4) (q := 5) rfl _ _ w.heap.size 85 (tabA T) (0, 0) _ rfl HB9.out Tryz.underlying85 rfl (size_tab _)) rfl ⟨?_, HB8.out⟩
      show Ending.returned (.tuple #[tabV T, .bool (sgnB l s)]) = _
      rw [HT2.out]

end Go.Proofs.YtgebjnoicgmdoaaGreatDoor

namespace Go.Proofs.YtgebjnoicgmdoaaGreatDoor
open Go.RowKit
open Cs (Cn Tb)

theorem sgnB_flat {l : List Cn} {s : Int} (h : sgnB l s = true) : Cs.flat (Un.sgL l s) = true := by
  unfold sgnB at h
  rw [Bool.and_eq_true] at h
  exact h.2
end Go.Proofs.YtgebjnoicgmdoaaGreatDoor
