/- Words for memory: a table of six rows of six numbers, each row a block of the call's own. -/
/- Constraints of the reference model: l05Node, ConOk, ConsOk, l05Val, ConHolds. -/
/- Plain facts on norms: what a norm holds, that it is the only one with its values, and how values, joins and successors go. -/
/- Plain facts on norms: values, comparison, joins and successors of norms. -/
/- Signs as numbers: which parameters are positive, the sign of an env, the least env. -/
import Derived.Test.YtmbcjddahncocaaDoorCoMem

namespace Go.Proofs.YtmbcjddahncocaaDoor
open Go.RowKit
open Cs (Cn Tb)

theorem own_set {w : World} {base g n c size : Nat} {e : TypeId} {xs : List Value} (h : w.ownsRow base e size (.slice (some ⟨g, 0, none⟩) n c) n xs) (i : Nat) (u : Value) :
    (w.setCell ⟨g, i, none⟩ u).ownsRow base e size (.slice (some ⟨g, 0, none⟩) n c) n (xs.set i u) := by
  refine ⟨by rw [List.length_set]; exact h.1, ?_⟩
  rcases h.2 with ⟨h0, _⟩ | ⟨g', cap, cur, hv, hb, hgg, h1, h2, h3, h4⟩
  · cases h0
  · injection hv with e1 e2 e3
    injection e1 with e1
    injection e1 with e1
    subst e1; subst e3
    refine .inr ⟨g, c, _, rfl, hb, Blk.put (w := w) (t := e) hgg i u, h1, h2, by simp [h3], ?_⟩
    rw [Array.toList_setIfInBounds, List.take_set, h4]
/-- a row of a table -/
def rowL (d : Tb) (i : Nat) : List Int := (List.range 6).map fun j => d i j
theorem rowL_get (d : Tb) (i : Nat) {j : Nat} (hj : j < 6) : (rowL d i).getD j 0 = d i j := by simp [rowL, List.getD_eq_getElem?_getD, hj]
theorem rowL_put (d : Tb) (i j : Nat) (x : Int) : (rowL d i).set j x = rowL (Cs.put d i j x) i := by
  apply List.ext_getElem (by simp [rowL])
  intro k h1 h2
  rw [List.getElem_set]
  by_cases e : j = k
  · subst e
    rw [if_pos rfl]
    simp [rowL, Cs.put]
  · rw [if_neg e]
    simp only [rowL, List.getElem_map, List.getElem_range]
    exact (Cs.put_other d x (fun h => e h.2.symm)).symm
theorem rowL_other (d : Tb) {i a : Nat} (h : a ≠ i) (j : Nat) (x : Int) : rowL (Cs.put d i j x) a = rowL d a := by
  unfold rowL
  apply List.map_congr_left
  intro k _
  exact Cs.put_other d x (fun e => h e.1)
/-- the rows of a table, as values -/
def rowVs (rw cp : Nat → Nat) (n : Nat) : List Value := (List.range n).map fun i => .slice (some ⟨rw i, 0, none⟩) 6 (cp i)
/-- the first n rows of a table -/
structure TabN (w : World) (base g cap n : Nat) (rw cp : Nat → Nat) (d : Tb) : Prop where
  out : w.ownsRow base 28 1 (.slice (some ⟨g, 0, none⟩) n cap) n (rowVs rw cp n)
  row : ∀ i, i < n → OwnI w base (some ⟨rw i, 0, none⟩) 6 (cp i) (rowL d i)
  inj : ∀ i j, i < n → j < n → rw i = rw j → i = j
theorem TabN.below {w w' : World} {base g cap n : Nat} {rw cp : Nat → Nat} {d : Tb} (h : TabN w base g cap n rw cp d) (hb : Below w.heap.size w w') : TabN w' base g cap n rw cp d :=
  ⟨own_below' h.out hb, fun i hi => own_below' (h.row i hi) hb, h.inj⟩
theorem TabN.spot {w : World} {base g cap n : Nat} {rw cp : Nat → Nat} {d : Tb} (h : TabN w base g cap n rw cp d) {i j : Nat} (hi : i < n) (hj : j < 6) : w.cell? ⟨rw i, j, none⟩ = some (.int .i64 (d i j)) ∧ w.frozen? ⟨rw i, j, none⟩ = false := by
  have hr := h.row i hi
  obtain ⟨b, off, hA, _, hc⟩ := (OwnI.reads hr).2 (by omega)
  injection hA with e2
  injection e2 with e2 e3
  subst e2; subst e3
  have := hc j hj
  rw [Nat.zero_add, rowL_get d i hj] at this
  refine ⟨this, ?_⟩
  rcases hr.2 with ⟨h0, _⟩ | ⟨g', cap', cur, hv, _, hgg, _⟩
  · cases h0
  · injection hv with e1
    injection e1 with e1
    injection e1 with e1
    rw [e1]
    exact Blk.thawed (w := w) hgg j
theorem TabN.put {w : World} {base g cap n : Nat} {rw cp : Nat → Nat} {d : Tb} (h : TabN w base g cap n rw cp d) {i : Nat} (hi : i < n) (j : Nat) (x : Int) :
    TabN (w.setCell ⟨rw i, j, none⟩ (.int .i64 x)) base g cap n rw cp (Cs.put d i j x) := by
  have hr := h.row i hi
  obtain ⟨cs, hblk⟩ := own_blk hr (rw i) rfl
  have grown : w.grownBy (w.setCell ⟨rw i, j, none⟩ (.int .i64 x)) (some (rw i)) := ⟨rfl, rfl, rfl, by simp [World.setCell], fun k _ hk => Below.heap_setCell _ _ _ _ (fun e => hk (by rw [e]))⟩
  refine ⟨h.out.kept grown (.inr ?_), fun a ha => ?_, h.inj⟩
  · exact own_apart h.out hblk (by decide)
  · by_cases e : a = i
    · subst e
      have := own_set hr j (.int .i64 x)
      rw [← List.map_set, rowL_put d a j x] at this
      exact this
    · rw [rowL_other d e j x]
      refine (h.row a ha).kept grown (.inr fun e2 => ?_)
      have e3 : rw a = rw i := by simpa [Value.ownBlock] using e2
      exact e (h.inj a i ha hi e3)
theorem TabN.base {w : World} {base g cap n : Nat} {rw cp : Nat → Nat} {d : Tb} (h : TabN w base g cap n rw cp d) {i : Nat} (hi : i < n) : base ≤ rw i ∧ rw i < w.heap.size := (h.row i hi).lt (rw i) rfl
end Go.Proofs.YtmbcjddahncocaaDoor

namespace Go.Proofs.YtmbcjddahncocaaDoor
open Go.RowKit
open Cs (Cn)

/-- a node's number -/
def nodeR (n : Int) : Bool := decide (-1 ≤ n) && decide (n < 5)
set_option maxHeartbeats 800000 in
theorem l05Node_any (w : World) (n : Int) : Calls Tryd.prog 78 #[.int .i64 n] w fun e w' => e = .returned (.bool (nodeR n)) ∧ w' = w := by
  by_cases h1 : -1 ≤ n
  · by_cases h2 : n < 5
    · have HF : Hid (nodeR n = true) := by show _ = _; simp [nodeR, h1, h2]
      go_enter Tryd.func78, Tryd.ntmps78
      go_wp2
      go_ret
      exact ⟨by rw [HF.out]; rfl, rfl⟩
    · have HF : Hid (nodeR n = false) := by show _ = _; simp [nodeR, h2]
      go_enter Tryd.func78, Tryd.ntmps78
      go_wp2
      go_ret
      exact ⟨by rw [HF.out]; rfl, rfl⟩
  · have HF : Hid (nodeR n = false) := by show _ = _; simp [nodeR, h1]
    go_enter Tryd.func78, Tryd.ntmps78
    go_wp2
    go_ret
    exact ⟨by rw [HF.out]; rfl, rfl⟩
theorem cOk_parts (U R V : Int) : Cs.cOk (U, R, V) = (nodeR U && nodeR V && decide (0 ≤ R) && decide (R ≤ 2)) := by
  rw [Bool.eq_iff_iff, Cs.cOk_iff]
  simp [nodeR]
  omega

set_option maxRecDepth 100000 in
set_option maxHeartbeats 1600000 in
theorem specConOk_any (w : World) (U R V : Int) : Calls Tryd.prog 26 #[.agg #[.int .i64 U, .int .i64 R, .int .i64 V]] w fun e w' => e = .returned (.bool (Cs.cOk (U, R, V))) ∧ Below w.heap.size w w' := by
  have HB : Hid (Below w.heap.size w (w.alloc (.cells #[.int .i64 U, .int .i64 R, .int .i64 V] 39))) := (Below.refl _ _).alloc (Nat.le_refl _) _
  have HC := Lib.hid (cOk_parts U R V)
  cases h1 : nodeR U with
  | false =>
    have HF : Hid (Cs.cOk (U, R, V) = false) := by show _ = _; rw [HC.out, h1]; rfl
    have H1 := Lib.hid h1
    clear h1 HC
    go_enter Tryd.func26, Tryd.ntmps26
    go_wp2_with fail
    refine (l05Node_any _ U).mono ?_
    rintro e w1 ⟨rfl, rfl⟩
    rw [H1.out]
    go_wp2
    go_ret
    exact ⟨by rw [HF.out]; rfl, HB.out⟩
  | true =>
    have H1 := Lib.hid h1
    cases h2 : nodeR V with
    | false =>
      have HF : Hid (Cs.cOk (U, R, V) = false) := by show _ = _; rw [HC.out, h1, h2]; rfl
      have H2 := Lib.hid h2
      clear h1 h2 HC
      go_enter Tryd.func26, Tryd.ntmps26
      go_wp2_with fail
      refine (l05Node_any _ U).mono ?_
      rintro e w1 ⟨rfl, rfl⟩
      rw [H1.out]
      go_wp2_with fail
      refine (l05Node_any _ V).mono ?_
      rintro e w1 ⟨rfl, rfl⟩
      rw [H2.out]
      go_wp2
      go_ret
      exact ⟨by rw [HF.out]; rfl, HB.out⟩
    | true =>
      have H2 := Lib.hid h2
      have HF : Hid (Cs.cOk (U, R, V) = (decide (0 ≤ R) && decide (R ≤ 2))) := by show _ = _; rw [HC.out, h1, h2]; rfl
      clear h1 h2 HC
      by_cases h3 : 0 ≤ R
      · have HG : Hid (Cs.cOk (U, R, V) = decide (R ≤ 2)) := by show _ = _; rw [HF.out, decide_eq_true h3]; rfl
        have d3 : decide (0 ≤ R) = true := decide_eq_true h3
        go_enter Tryd.func26, Tryd.ntmps26
        go_wp2_with fail
        refine (l05Node_any _ U).mono ?_
        rintro e w1 ⟨rfl, rfl⟩
        rw [H1.out]
        go_wp2_with fail
        refine (l05Node_any _ V).mono ?_
        rintro e w1 ⟨rfl, rfl⟩
        rw [H2.out]
        go_wp2
        go_ret
        exact ⟨by rw [HG.out]; rfl, HB.out⟩
      · have HG : Hid (Cs.cOk (U, R, V) = false) := by show _ = _; rw [HF.out]; simp [h3]
        have d3 : decide (0 ≤ R) = false := decide_eq_false h3
        go_enter Tryd.func26, Tryd.ntmps26
        go_wp2_with fail
        refine (l05Node_any _ U).mono ?_
        rintro e w1 ⟨rfl, rfl⟩
        rw [H1.out]
        go_wp2_with fail
        refine (l05Node_any _ V).mono ?_
        rintro e w1 ⟨rfl, rfl⟩
        rw [H2.out]
        go_wp2
        go_ret
        exact ⟨by rw [HG.out]; rfl, HB.out⟩

/-- ConsOk's answer -/
def consOkR (l : List Cn) : Bool := l.all Cs.cOk && decide (l.length ≤ 24)
theorem consOkR_ok {l : List Cn} (h : consOkR l = true) : Cs.ok l ∧ l.length ≤ 24 := by
  simp only [consOkR, Bool.and_eq_true, List.all_eq_true, decide_eq_true_eq] at h
  exact h
set_option maxRecDepth 100000 in
set_option maxHeartbeats 1600000 in
theorem specConsOk_any (w : World) (B : Nat) (A : Option Addr) (n c : Nat) (l : List Cn) (hB : B ≤ w.heap.size) (hl : ConR w B A n l) (hn : (n : Int) ≤ 140737488355328) :
    Calls Tryd.prog 35 #[.slice A n c] w fun e w' => e = .returned (.bool (consOkR l)) ∧ Below w.heap.size w w' := by
  go_enter Tryd.func35, Tryd.ntmps35
  go_wp2
  go_loopw [3] (fun i wr => ∃ k : Nat, k ≤ n ∧ i = .int .i64 k ∧ Hid (∀ j, j < k → Cs.cOk (l.getD j (0, 0, 0)) = true) ∧ Hid (Below w.heap.size w wr)) (fun i _ => n - (intOf i).toNat)
  case atStart => exact ⟨0, Nat.zero_le _, rfl, (fun j hj => absurd hj (by omega)), Below.refl _ _⟩
  case round =>
    obtain ⟨k, hk, rfl, HA, HBR⟩ := hrel
    have hszr := HBR.out.size
    by_cases hlt : k < n
    · have hki : (k : Int) < (n : Int) := by omega
      obtain ⟨b, off, hA, hb, hc⟩ := hl.2 (by omega)
      obtain ⟨x1, x2, x3⟩ := hc k hlt
      have HL := Lib.hid hl.1
      obtain ⟨t, ht⟩ : ∃ t, l.getD k (0, 0, 0) = t := ⟨_, rfl⟩
      rw [ht] at x1 x2 x3
      obtain ⟨U, R, V⟩ := t
      have HT := Lib.hid ht
      subst hA
      have k1 := (HBR.out.cell (p := ⟨b, off + k * 3, none⟩) (by show b < _; omega)).trans x1
      have k2 := (HBR.out.cell (p := ⟨b, off + k * 3 + 1, none⟩) (by show b < _; omega)).trans x2
      have k3 := (HBR.out.cell (p := ⟨b, off + k * 3 + 2, none⟩) (by show b < _; omega)).trans x3
      clear hc ht x1 x2 x3 hl
      go_wp2_with fail
      refine (specConOk_any wr U R V).mono ?_
      rintro e w1 ⟨rfl, hb1⟩
      have HB1 := Lib.hid (HBR.out.trans (hb1.mono hszr))
      clear hb1
      cases hok : Cs.cOk (U, R, V) with
      | true =>
        have HA2 : Hid (∀ j, j < k + 1 → Cs.cOk (l.getD j (0, 0, 0)) = true) := fun j hj => by
          by_cases e : j = k
          · subst e; rw [HT.out]; exact hok
          · exact HA.out j (by omega)
        clear hok
        go_wp2
        go_roundw
        case rel => exact ⟨k + 1, by omega, by go_num, HA2.out, HB1.out⟩
        case measure => simp [intOf]; omega
      | false =>
        have HF : Hid (consOkR l = false) := by
          cases e : consOkR l with
          | false => rfl
          | true =>
            have hkl : k < l.length := by rw [HL.out]; exact hlt
            have := (consOkR_ok e).1 (l.getD k (0, 0, 0)) (by rw [List.getD_eq_getElem?_getD, List.getElem?_eq_getElem hkl]; exact List.getElem_mem _)
            rw [HT.out, hok] at this
            cases this
        clear hok
        go_wp2
        go_ret
        exact ⟨by rw [HF.out]; rfl, HB1.out⟩
    · obtain rfl : k = n := by omega
      have hkk : ¬ (k : Int) < (k : Int) := by omega
      have HF : Hid (consOkR l = decide ((k : Int) ≤ 24)) := by
        show _ = _
        rw [Bool.eq_iff_iff]
        simp only [consOkR, Bool.and_eq_true, List.all_eq_true, decide_eq_true_eq, hl.1]
        constructor
        · intro h; omega
        · intro h
          refine ⟨fun c hc => ?_, by omega⟩
          obtain ⟨j, hj, rfl⟩ := List.getElem_of_mem hc
          have := HA.out j (by have := hl.1; omega)
          rw [List.getD_eq_getElem?_getD, List.getElem?_eq_getElem hj] at this
          exact this
      clear hl
      go_wp2
      go_ret
      exact ⟨by rw [HF.out]; rfl, HBR.out⟩
end Go.Proofs.YtmbcjddahncocaaDoor

/- Plain functions on norms as lists of pairs of numbers (Param, Off): validity index by index, the norm of a list of atoms, values. Nothing of the program is imported. -/
namespace Go.Proofs.YtmbcjddahncocaaDoor.Nm

abbrev At := Int × Int

def atOk (a : At) : Bool := decide (-1 ≤ a.1) && decide (a.1 < 5) && decide (0 ≤ a.2) && decide (a.2 ≤ 1000)
theorem atOk_iff (a : At) : atOk a = true ↔ -1 ≤ a.1 ∧ a.1 < 5 ∧ 0 ≤ a.2 ∧ a.2 ≤ 1000 := by simp [atOk, and_assoc]

def AllOk (l : List At) : Prop := ∀ k, k < l.length → atOk (l.getD k (0, 0)) = true
def Incr (l : List At) : Prop := ∀ k, 0 < k → k < l.length → (l.getD (k - 1) (0, 0)).1 < (l.getD k (0, 0)).1
def Exceeds (x : Int) (l : List At) : Prop := ∀ k, k < l.length → (l.getD k (0, 0)).2 < x
def Ok (l : List At) : Prop := 1 ≤ l.length ∧ AllOk l ∧ Incr l ∧ ((l.getD 0 (0, 0)).1 = -1 → Exceeds (l.getD 0 (0, 0)).2 (l.drop 1))

open Classical in
noncomputable def allOk (l : List At) : Bool := decide (AllOk l)
theorem getD_drop1 (l : List At) (k : Nat) : (l.drop 1).getD k (0, 0) = l.getD (k + 1) (0, 0) := by
  simp [List.getD_eq_getElem?_getD]

/-- strictly increasing params: of any two the later one is greater -/
theorem Incr.lt {l : List At} (h : Incr l) {i j : Nat} (hij : i < j) (hj : j < l.length) : (l.getD i (0, 0)).1 < (l.getD j (0, 0)).1 := by
  induction j with
  | zero => omega
  | succ j ih =>
    have h1 := h (j + 1) (by omega) hj
    simp only [Nat.add_sub_cancel] at h1
    by_cases e : i = j
    · subst e; exact h1
    · have := ih (by omega) (by omega); omega
theorem Ok.len {l : List At} (h : Ok l) : l.length ≤ 6 := by
  have H : ∀ k, k < l.length → (k : Int) - 1 ≤ (l.getD k (0, 0)).1 := by
    intro k
    induction k with
    | zero => intro hk; have := (atOk_iff _).1 (h.2.1 0 hk); omega
    | succ k ih =>
      intro hk
      have h1 := ih (by omega)
      have h2 := h.2.2.1 (k + 1) (by omega) hk
      simp only [Nat.add_sub_cancel] at h2
      omega
  by_cases hl : l.length ≤ 6
  · exact hl
  · have h1 := H 6 (by omega)
    have h2 := (atOk_iff _).1 (h.2.1 6 (by omega))
    omega

/-- the greatest Off of the atoms with that Param; -1 if there is none -/
def best (p : Int) : List At → Int
  | [] => -1
  | a :: r => if a.1 = p then max a.2 (best p r) else best p r
theorem best_ge (p : Int) (l : List At) : -1 ≤ best p l := by
  induction l with
  | nil => simp [best]
  | cons a r ih => simp only [best]; split <;> omega
/-- an atom's Off is at most the best one of its Param -/
theorem best_mem {p x : Int} {l : List At} (h : (p, x) ∈ l) : x ≤ best p l := by
  induction l with
  | nil => simp at h
  | cons a r ih =>
    simp only [best]
    rcases List.mem_cons.1 h with rfl | h
    · simp; omega
    · have := ih h; split <;> omega
theorem best_at {p : Int} {l : List At} (h : best p l ≠ -1) : (p, best p l) ∈ l := by
  induction l with
  | nil => simp [best] at h
  | cons a r ih =>
    simp only [best] at h ⊢
    obtain ⟨a1, a2⟩ := a
    by_cases e : a1 = p
    · subst e
      simp only [if_true] at h ⊢
      by_cases hm : best a1 r ≤ a2
      · rw [show max a2 (best a1 r) = a2 by omega]; simp
      · rw [show max a2 (best a1 r) = best a1 r by omega] at h ⊢
        exact List.mem_cons_of_mem _ (ih h)
    · simp only [e, if_false] at h ⊢
      exact List.mem_cons_of_mem _ (ih h)

/-- the atoms with params 0 .. n - 1 of the norm -/
def pars (l : List At) : Nat → List At
  | 0 => []
  | n + 1 => pars l n ++ if 0 ≤ best n l then [((n : Int), best n l)] else []
/-- the greatest Off among params 0 .. n - 1; -1 if there is none -/
def most (l : List At) : Nat → Int
  | 0 => -1
  | n + 1 => max (most l n) (best n l)
theorem most_ge (l : List At) (n : Nat) : -1 ≤ most l n := by
  induction n with
  | zero => simp [most]
  | succ n ih => simp only [most]; omega
/-- the norm -/
def norm (l : List At) : List At := (if most l 5 < best (-1) l then [((-1 : Int), best (-1) l)] else []) ++ pars l 5
def up (k : Int) (l : List At) : List At := l.map fun a => (a.1, a.2 + k)
/-- the value of an atom -/
def val (env : List Int) (a : At) : Int := if a.1 = -1 then a.2 else env.getD a.1.toNat 0 + a.2
def value (env : List Int) : List At → Int
  | [] => 0
  | a :: r => max (val env a) (value env r)
theorem value_ge (env : List Int) (l : List At) : 0 ≤ value env l := by
  induction l with
  | nil => simp [value]
  | cons a r ih => simp only [value]; omega
theorem value_append (env : List Int) (a b : List At) : value env (a ++ b) = max (value env a) (value env b) := by
  induction a with
  | nil => simp only [List.nil_append, value]; have := value_ge env b; omega
  | cons x r ih => simp only [List.cons_append, value, ih]; omega
end Go.Proofs.YtmbcjddahncocaaDoor.Nm

namespace Go.Proofs.YtmbcjddahncocaaDoor.Nm

/-- the atoms at the places 0 .. n - 1 (place i: param i - 1) -/
def readOut (u : Int → Bool) (o : Int → Int) : Nat → List At
  | 0 => []
  | n + 1 => readOut u o n ++ if u ((n : Int) - 1) = true then [((n : Int) - 1, o ((n : Int) - 1))] else []
theorem readOut_succ (u : Int → Bool) (o : Int → Int) (n : Nat) : readOut u o (n + 1) = readOut u o n ++ if u ((n : Int) - 1) = true then [((n : Int) - 1, o ((n : Int) - 1))] else [] := rfl
theorem mem_readOut {u : Int → Bool} {o : Int → Int} {n : Nat} {a : At} : a ∈ readOut u o n ↔ -1 ≤ a.1 ∧ a.1 < (n : Int) - 1 ∧ u a.1 = true ∧ a.2 = o a.1 := by
  induction n with
  | zero => simp [readOut]; omega
  | succ n ih =>
    rw [readOut_succ, List.mem_append, ih]
    obtain ⟨p, x⟩ := a
    constructor
    · rintro (h | h)
      · exact ⟨h.1, by have := h.2.1; simp at this ⊢; omega, h.2.2⟩
      · split at h
        · rename_i hu
          simp only [List.mem_singleton, Prod.mk.injEq] at h
          obtain ⟨rfl, rfl⟩ := h
          exact ⟨by omega, by simp; omega, hu, rfl⟩
        · simp at h
    · rintro ⟨h1, h2, h3, h4⟩
      simp only at h1 h2 h3 h4
      by_cases e : p = (n : Int) - 1
      · subst e; subst h4
        right; rw [if_pos h3]; simp
      · left; exact ⟨h1, by simp only; omega, h3, h4⟩
theorem readOut_sorted (u : Int → Bool) (o : Int → Int) (n : Nat) : (readOut u o n).Pairwise (fun a b => a.1 < b.1) := by
  induction n with
  | zero => simp [readOut]
  | succ n ih =>
    rw [readOut_succ, List.pairwise_append]
    refine ⟨ih, by split <;> simp, ?_⟩
    intro a ha b hb
    have h1 := (mem_readOut.1 ha).2.1
    split at hb
    · simp only [List.mem_singleton] at hb; subst hb; exact h1
    · simp at hb
/-- two rows in strictly increasing order with the same atoms are one -/
theorem sorted_ext : ∀ {a b : List At}, a.Pairwise (fun x y => x.1 < y.1) → b.Pairwise (fun x y => x.1 < y.1) → (∀ x, x ∈ a ↔ x ∈ b) → a = b
  | [], [], _, _, _ => rfl
  | [], y :: t, _, _, h => absurd ((h y).2 (by simp)) (by simp)
  | x :: s, [], _, _, h => absurd ((h x).1 (by simp)) (by simp)
  | x :: s, y :: t, ha, hb, h => by
    rw [List.pairwise_cons] at ha hb
    have e : x = y := by
      rcases List.mem_cons.1 ((h x).1 (by simp)) with e | h1
      · exact e
      · rcases List.mem_cons.1 ((h y).2 (by simp)) with e | h2
        · exact e.symm
        · have := ha.1 y h2; have := hb.1 x h1; omega
    subst e
    congr 1
    refine sorted_ext ha.2 hb.2 fun z => ?_
    constructor
    · intro hz
      rcases List.mem_cons.1 ((h z).1 (List.mem_cons_of_mem _ hz)) with rfl | h1
      · have := ha.1 z hz; omega
      · exact h1
    · intro hz
      rcases List.mem_cons.1 ((h z).2 (List.mem_cons_of_mem _ hz)) with rfl | h1
      · have := hb.1 z hz; omega
      · exact h1

theorem mem_getD {l : List At} {k : Nat} (hk : k < l.length) : l.getD k (0, 0) ∈ l := by
  rw [List.getD_eq_getElem?_getD, List.getElem?_eq_getElem hk]; exact List.getElem_mem hk
theorem getD_of_mem {l : List At} {a : At} (h : a ∈ l) : ∃ k, k < l.length ∧ l.getD k (0, 0) = a := by
  obtain ⟨k, hk, e⟩ := List.mem_iff_getElem.1 h
  exact ⟨k, hk, by rw [List.getD_eq_getElem?_getD, List.getElem?_eq_getElem hk]; exact e⟩
theorem AllOk.mem {l : List At} (h : AllOk l) {a : At} (ha : a ∈ l) : -1 ≤ a.1 ∧ a.1 < 5 ∧ 0 ≤ a.2 ∧ a.2 ≤ 1000 := by
  obtain ⟨k, hk, rfl⟩ := getD_of_mem ha
  exact (atOk_iff _).1 (h k hk)
theorem allOk_of_mem {l : List At} (h : ∀ a ∈ l, atOk a = true) : AllOk l := fun _ hk => h _ (mem_getD hk)
theorem Incr.sorted {l : List At} (h : Incr l) : l.Pairwise (fun a b => a.1 < b.1) := by
  rw [List.pairwise_iff_getElem]
  intro i j hi hj hij
  have := h.lt hij hj
  simpa [List.getD_eq_getElem?_getD, List.getElem?_eq_getElem hi, List.getElem?_eq_getElem hj] using this
theorem incr_of_sorted {l : List At} (h : l.Pairwise (fun a b => a.1 < b.1)) : Incr l := by
  intro k h0 hk
  rw [List.pairwise_iff_getElem] at h
  have := h (k - 1) k (by omega) hk (by omega)
  simpa [List.getD_eq_getElem?_getD, List.getElem?_eq_getElem hk, List.getElem?_eq_getElem (show k - 1 < l.length by omega)] using this

/-- the norm's rule on its number, atom by atom -/
def NumOk (l : List At) : Prop := ∀ x y p, (-1, x) ∈ l → (p, y) ∈ l → p ≠ -1 → y < x
theorem Ok.num {l : List At} (h : Ok l) : NumOk l := by
  intro x y p hx hy hp
  obtain ⟨i, hi, ei⟩ := getD_of_mem hx
  obtain ⟨j, hj, ej⟩ := getD_of_mem hy
  have hi0 : i = 0 := by
    rcases Nat.eq_zero_or_pos i with e | e
    · exact e
    · have h1 := h.2.2.1.lt e hi
      have h2 := (atOk_iff _).1 (h.2.1 0 (by omega))
      rw [ei] at h1; simp only at h1; omega
  subst hi0
  have hj0 : j ≠ 0 := by
    intro e; subst e
    have e := ei.symm.trans ej
    injection e with e1 e2
    exact hp e1.symm
  have h1 := h.2.2.2 (by rw [ei]) (j - 1) (by simp; omega)
  rw [getD_drop1, ei, show j - 1 + 1 = j by omega, ej] at h1
  exact h1
theorem best_nonneg {l : List At} (h : AllOk l) {p : Int} (hb : best p l ≠ -1) : 0 ≤ best p l := (h.mem (best_at hb)).2.2.1
theorem most_at (l : List At) (n : Nat) (h : most l n ≠ -1) : ∃ q : Int, 0 ≤ q ∧ q < n ∧ most l n = best q l := by
  induction n with
  | zero => simp [most] at h
  | succ n ih =>
    simp only [most] at h ⊢
    by_cases hm : most l n ≤ best n l
    · exact ⟨n, by omega, by omega, by omega⟩
    · obtain ⟨q, h1, h2, h3⟩ := ih (by have := best_ge n l; omega)
      exact ⟨q, h1, by omega, by omega⟩
theorem most_le (l : List At) (n : Nat) (q : Int) (h0 : 0 ≤ q) (hq : q < n) : best q l ≤ most l n := by
  induction n with
  | zero => omega
  | succ n ih =>
    simp only [most]
    by_cases e : q = n
    · subst e; omega
    · have := ih (by omega); omega

/-- a norm is its own norm -/
theorem best_of_sorted {l : List At} (hs : l.Pairwise (fun a b => a.1 < b.1)) {p x : Int} (h : (p, x) ∈ l) (hx : -1 ≤ x) : best p l = x := by
  have h1 := best_mem h
  have h2 := best_at (p := p) (l := l)
  by_cases e : best p l = -1
  · omega
  · have h3 := h2 e
    rcases List.mem_iff_getElem.1 h with ⟨i, hi, ei⟩
    rcases List.mem_iff_getElem.1 h3 with ⟨j, hj, ej⟩
    rw [List.pairwise_iff_getElem] at hs
    rcases Nat.lt_trichotomy i j with hij | hij | hij
    · have := hs i j hi hj hij; rw [ei, ej] at this; simp at this
    · subst hij; rw [ei] at ej; injection ej with _ e2; exact e2.symm
    · have := hs j i hj hi hij; rw [ei, ej] at this; simp at this
end Go.Proofs.YtmbcjddahncocaaDoor.Nm

namespace Go.Proofs.YtmbcjddahncocaaDoor.Nm

theorem value_mem {env : List Int} {l : List At} {a : At} (h : a ∈ l) : val env a ≤ value env l := by
  induction l with
  | nil => simp at h
  | cons b r ih =>
    simp only [value]
    rcases List.mem_cons.1 h with rfl | h
    · omega
    · have := ih h; omega
theorem value_le {env : List Int} {l : List At} {v : Int} (h0 : 0 ≤ v) (h : ∀ a ∈ l, val env a ≤ v) : value env l ≤ v := by
  induction l with
  | nil => simpa [value] using h0
  | cons b r ih =>
    simp only [value]
    have := h b (by simp)
    have := ih (fun a ha => h a (List.mem_cons_of_mem _ ha))
    omega
/-- all numbers of an env are 0 or more -/
def Pos (env : List Int) : Prop := ∀ x ∈ env, 0 ≤ x
theorem Pos.get {env : List Int} (h : Pos env) (k : Nat) : 0 ≤ env.getD k 0 := by
  rw [List.getD_eq_getElem?_getD]
  cases hg : env[k]? with
  | none => simp
  | some y => exact h y (List.mem_of_getElem? hg)
theorem val_ge {env : List Int} (hp : Pos env) (a : At) : a.2 ≤ val env a := by
  unfold val
  have := hp.get a.1.toNat
  split <;> omega
theorem value_up {env : List Int} (hp : Pos env) {l : List At} (h0 : l ≠ []) (h : AllOk l) {k : Int} (hk : 0 ≤ k) : value env (up k l) = value env l + k := by
  have hv : ∀ a : At, val env (a.1, a.2 + k) = val env a + k := by
    intro a; unfold val; simp only; split <;> omega
  have hmap : ∀ a ∈ l, (a.1, a.2 + k) ∈ up k l := fun a ha => List.mem_map.2 ⟨a, ha, rfl⟩
  obtain ⟨a0, ha0⟩ := List.exists_mem_of_ne_nil l h0
  have hge0 : k ≤ value env (up k l) := by
    have h1 := value_mem (env := env) (hmap a0 ha0)
    have h2 := hv a0
    have h3 := val_ge hp a0
    have h4 := h.mem ha0
    omega
  apply Int.le_antisymm
  · refine value_le (by have := value_ge env l; omega) fun b hb => ?_
    obtain ⟨a, ha, rfl⟩ := List.mem_map.1 hb
    have h1 := value_mem (env := env) ha
    have h2 := hv a
    omega
  · have : value env l ≤ value env (up k l) - k := value_le (by omega) fun a ha => by
      have h1 := value_mem (env := env) (hmap a ha)
      have h2 := hv a
      omega
    omega

/-- comparison, atom by atom -/
def Le (a b : List At) : Prop := ∀ x ∈ a, ∃ y ∈ b, (x.1 = -1 ∨ x.1 = y.1) ∧ x.2 ≤ y.2
theorem Le.value {env : List Int} (hp : Pos env) {a b : List At} (h : Le a b) : value env a ≤ value env b := by
  refine value_le (value_ge _ _) fun x hx => ?_
  obtain ⟨y, hy, h1, h2⟩ := h x hx
  have h3 := value_mem (env := env) hy
  have h4 := val_ge hp y
  obtain ⟨p, u⟩ := x
  obtain ⟨q, v⟩ := y
  simp only at h1 h2 h4
  by_cases ep : p = -1
  · simp only [val, ep, if_true]; omega
  · rcases h1 with h1 | h1
    · exact absurd h1 ep
    · subst h1
      simp only [val, ep, if_false] at h3 ⊢
      omega
/-- what is at most each other is one -/
theorem le_antisymm {a b : List At} (ha : Ok a) (hb : Ok b) (h1 : Le a b) (h2 : Le b a) : a = b := by
  have H : ∀ {a b : List At}, Ok a → Ok b → Le a b → Le b a → ∀ x ∈ a, x ∈ b := by
    intro a b ha hb h1 h2 x hx
    obtain ⟨p, u⟩ := x
    obtain ⟨⟨q, v⟩, hy, e1, l1⟩ := h1 _ hx
    simp only at e1 l1
    by_cases ep : p = -1
    · subst ep
      by_cases eq : q = -1
      · subst eq
        -- both numbers: the other way round
        obtain ⟨⟨r, z⟩, hz, _, l2⟩ := h2 _ hy
        simp only at l2
        by_cases er : r = -1
        · subst er
          have e := best_of_sorted ha.2.2.1.sorted hz (by have := (ha.2.1.mem hz).2.2.1; simp at this; omega)
          have e' := best_of_sorted ha.2.2.1.sorted hx (by have := (ha.2.1.mem hx).2.2.1; simp at this; omega)
          rw [show u = v by omega]; exact hy
        · have := ha.num u z r hx hz er; omega
      · obtain ⟨⟨r, z⟩, hz, e2, l2⟩ := h2 _ hy
        simp only at e2 l2
        have er : r ≠ -1 := by omega
        have := ha.num u z r hx hz er; omega
    · have eq : p = q := by omega
      subst eq
      obtain ⟨⟨r, z⟩, hz, e2, l2⟩ := h2 _ hy
      simp only at e2 l2
      have er : p = r := by omega
      subst er
      have e := best_of_sorted ha.2.2.1.sorted hz (by have := (ha.2.1.mem hz).2.2.1; simp at this; omega)
      have e' := best_of_sorted ha.2.2.1.sorted hx (by have := (ha.2.1.mem hx).2.2.1; simp at this; omega)
      rw [show u = v by omega]; exact hy
  exact sorted_ext ha.2.2.1.sorted hb.2.2.1.sorted fun x => ⟨H ha hb h1 h2 x, H hb ha h2 h1 x⟩
theorem le_refl (a : List At) : Le a a := fun x hx => ⟨x, hx, .inr rfl, by omega⟩
theorem AllOk.append {a b : List At} (ha : AllOk a) (hb : AllOk b) : AllOk (a ++ b) := by
  refine allOk_of_mem fun x hx => (atOk_iff x).2 ?_
  rcases List.mem_append.1 hx with h | h
  · exact ha.mem h
  · exact hb.mem h
theorem AllOk.up {l : List At} (h : AllOk l) (hu : ∀ a ∈ l, a.2 < 1000) : AllOk (up 1 l) := by
  refine allOk_of_mem fun x hx => ?_
  obtain ⟨a, ha, rfl⟩ := List.mem_map.1 hx
  have h1 := h.mem ha
  have h2 := hu a ha
  exact (atOk_iff _).2 ⟨h1.1, h1.2.1, by simp only; omega, by simp only; omega⟩
end Go.Proofs.YtmbcjddahncocaaDoor.Nm

namespace Go.Proofs.YtmbcjddahncocaaDoor

namespace Sg
/-- a sign, a parameter, and the parameter's bit is 1 -/
def has (s p : Int) : Bool := decide (0 ≤ s ∧ s ≤ 31 ∧ 0 ≤ p ∧ p < 5 ∧ s / 2 ^ p.toNat % 2 = 1)
/-- a sign -/
def isSign (s : Int) : Bool := decide (0 ≤ s ∧ s ≤ 31)
/-- the bits of values, the first one the least -/
def bits : List Int → Int
  | [] => 0
  | v :: l => (if v > 0 then 1 else 0) + 2 * bits l
/-- the value of a parameter in the least env of a sign -/
def bit (s p : Int) : Int := if has s p then 1 else 0
theorem bits_nonneg (l : List Int) : 0 ≤ bits l := by
  induction l with
  | nil => simp [bits]
  | cons v l ih => unfold bits; split <;> omega
theorem bits_lt (l : List Int) : bits l < 2 ^ l.length := by
  induction l with
  | nil => simp [bits]
  | cons v l ih => unfold bits; rw [List.length_cons, Int.pow_succ]; split <;> omega
end Sg
end Go.Proofs.YtmbcjddahncocaaDoor
