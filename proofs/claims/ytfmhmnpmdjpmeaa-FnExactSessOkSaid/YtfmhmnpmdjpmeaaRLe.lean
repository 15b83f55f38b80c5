/- LevelSign of the program and of the model. -/
/- math/bits.Mul at small numbers; slices.Grow, Repeat and Concat over tokens. -/
/- slices.Concat over slices of tokens. -/
/- Residuals as lists of pairs: what is right for a sign, and what is at most what. -/
/- Plain facts on levels without imax as piles of lists of atoms, and on the level of a norm. -/
/- Plain facts on residuals: what is left of a norm where positive parameters are at least 1, how joins and successors go, and levels with imax as piles of lists of atoms. -/
/- A region that draws its order, whose own operations only read and whose callees may make memory but turn none that was there: one walk, in the order of the text, over the class of all later worlds. -/
/- The program's norm, read out of its map. -/
/- slices.Contains over tokens; LevelParams of the program and of the reference model. -/
/- Plain facts: levels without imax that stand for lists of atoms, and how the program's joins for a sign keep to them. -/
/- Whether a level is 0 hangs on the sign of the env alone. -/
/- Plain facts: a residual is right for its sign and has the values of its level for the envs of that sign. -/
/- ResidLe of the program (written by tools/mkrle.py). -/
import Derived.Test.YtfmhmnpmdjpmeaaBase
import Derived.Test.YtfmhmnpmdjpmeaaMarks
import Derived.Test.YtfmhmnpmdjpmeaaAct
import Derived.Laws.IdiomCopy
import Derived.Laws.CopyOwn
import Derived.Defers
import Derived.Lib.AppendZeros
import Derived.Laws.BitsAllLaws
import Derived.Laws.BitsLemmas
import Derived.RegionTactic
import Derived.BigRegion
import Derived.Deep.RegionHeld3
import Derived.Deep.AppendLies
import Derived.Maps.RangeWalk
import Derived.Maps.OwnSet

namespace Go.Proofs.Ytfmhmnpmdjpmeaa
open Go.RowKit

namespace Sg
/-- the cells of the least env, made as far as k -/
def cells (s : Int) (k : Nat) : List Value := (List.range 5).map fun (j : Nat) => .int .i64 (if j < k then bit s j else 0)
end Sg

end Go.Proofs.Ytfmhmnpmdjpmeaa

namespace Go.Proofs.Ytfmhmnpmdjpmeaa
open Go.RowKit

/-- a slice value that is not nil, its cells those of the tokens l, below block B -/
def TokA (w : World) (B : Nat) (ad : Addr) (l : List (Int × Int)) : Prop := ad.block < B ∧ ∀ j u, (tokCells l)[j]? = some u → w.cell? (ad.add j) = some u
theorem TokA.below {w w' : World} {B : Nat} {ad : Addr} {l : List (Int × Int)} (h : TokA w B ad l) (hb : Below B w w') : TokA w' B ad l :=
  ⟨h.1, fun j u hu => by
    have hbl : (ad.add j).block = ad.block := by unfold Addr.add; split <;> rfl
    exact (hb.cell (by rw [hbl]; exact h.1)).trans (h.2 j u hu)⟩
theorem TokA.more {w : World} {B B' : Nat} {ad : Addr} {l : List (Int × Int)} (h : TokA w B ad l) (hB : B ≤ B') : TokA w B' ad l := ⟨by have := h.1; omega, h.2⟩
end Go.Proofs.Ytfmhmnpmdjpmeaa

namespace Go.Proofs.Ytfmhmnpmdjpmeaa
open Go.RowKit

/-- the slices that are joined: their values in a row at block gs, their tokens below B -/
def Parts (w : World) (B gs : Nat) (ad : Nat → Addr) (cp : Nat → Nat) (ls : List (List (Int × Int))) : Prop :=
  gs < B ∧ ∀ i, i < ls.length → w.cell? ⟨gs, i, none⟩ = some (.slice (some (ad i)) (ls.getD i []).length (cp i)) ∧ TokA w B (ad i) (ls.getD i [])
theorem Parts.below {w w' : World} {B gs : Nat} {ad : Nat → Addr} {cp : Nat → Nat} {ls : List (List (Int × Int))} (h : Parts w B gs ad cp ls) (hb : Below B w w') : Parts w' B gs ad cp ls :=
  ⟨h.1, fun i hi => ⟨(hb.cell (p := ⟨gs, i, none⟩) h.1).trans (h.2 i hi).1, (h.2 i hi).2.below hb⟩⟩

end Go.Proofs.Ytfmhmnpmdjpmeaa

namespace Go.Proofs.Ytfmhmnpmdjpmeaa

namespace Nm
/-- a residual for a sign -/
def ROk (s : Int) (l : List At) : Prop := Sg.isSign s = true ∧ 1 ≤ l.length ∧ AllOk l ∧ Incr l ∧ (∀ k, k < l.length → (l.getD k (0, 0)).1 = -1 ∨ Sg.has s (l.getD k (0, 0)).1 = true) ∧ ((l.getD 0 (0, 0)).1 = -1 → Exceeds ((l.getD 0 (0, 0)).2 - 1) (l.drop 1))
end Nm
end Go.Proofs.Ytfmhmnpmdjpmeaa

namespace Go.Proofs.Ytfmhmnpmdjpmeaa.Nm
open Go.Proofs.Ytfmhmnpmdjpmeaa.Lv

/-- one token on a pile of lists of atoms, its top first -/
def pstep (t : Tk) (st : List (List At)) : Option (List (List At)) :=
  if tkOk t = true then
    if t.1 = 0 then some ([(-1, 0)] :: st)
    else if t.1 = 4 then some ([(t.2, 0)] :: st)
    else if t.1 = 1 then
      match st with
      | a :: s => some (up 1 a :: s)
      | [] => none
    else if t.1 = 2 then
      match st with
      | b :: a :: s => some ((a ++ b) :: s)
      | _ => none
    else none
  else none
def prun : List Tk → List (List At) → Option (List (List At))
  | [], st => some st
  | t :: r, st => (pstep t st).bind (prun r)
theorem pstep_height {t : Tk} {st : List (List At)} (h3 : t.1 ≠ 3) :
    (pstep t st).map (fun s => (s.length : Int)) = if tkOk t = true ∧ takes t.1 ≤ st.length then some ((st.length : Int) - takes t.1 + 1) else none := by
  unfold pstep
  by_cases h : tkOk t = true
  · simp only [h, if_true, true_and]
    rcases tk_cases h with e | e | e | e | e
    · simp [e, takes]
    · rcases st with _ | ⟨a, s⟩ <;> simp [e, takes]
      omega
    · rcases st with _ | ⟨b, _ | ⟨a, s⟩⟩ <;> simp [e, takes]
      omega
    · exact absurd e h3
    · simp [e, takes]
  · simp [h]
theorem prun_height {l : List Tk} (h3 : ∀ t ∈ l, t.1 ≠ 3) (st : List (List At)) : (prun l st).map (fun s => (s.length : Int)) = hts l st.length := by
  induction l generalizing st with
  | nil => rfl
  | cons t r ih =>
    simp only [prun, hts]
    have hs := pstep_height (t := t) (st := st) (h3 t (by simp))
    cases hst : pstep t st with
    | none =>
      rw [hst] at hs
      by_cases hc : tkOk t = true ∧ takes t.1 ≤ st.length
      · rw [if_pos hc] at hs; cases hs
      · rw [if_neg hc]; rfl
    | some s =>
      rw [hst] at hs
      by_cases hc : tkOk t = true ∧ takes t.1 ≤ st.length
      · rw [if_pos hc] at hs ⊢
        simp only [Option.map_some, Option.some.injEq] at hs
        simp only [Option.bind_some]
        rw [ih (fun u hu => h3 u (List.mem_cons_of_mem _ hu)), hs]
      · rw [if_neg hc] at hs; cases hs
/-- what holds of a pile behind k tokens -/
def Fine (k : Nat) (st : List (List At)) : Prop := ∀ a ∈ st, a ≠ [] ∧ ∀ x ∈ a, -1 ≤ x.1 ∧ x.1 < 5 ∧ 0 ≤ x.2 ∧ x.2 ≤ k
theorem Fine.allOk {k : Nat} {st : List (List At)} (h : Fine k st) (hk : k ≤ 1000) {a : List At} (ha : a ∈ st) : AllOk a :=
  allOk_of_mem fun x hx => (atOk_iff x).2 (by have := (h a ha).2 x hx; omega)
end Go.Proofs.Ytfmhmnpmdjpmeaa.Nm

namespace Go.Proofs.Ytfmhmnpmdjpmeaa.Nm
open Go.Proofs.Ytfmhmnpmdjpmeaa.Lv

/-- what a number must exceed -/
def mo (l : List At) : Int := if most l 5 = -1 then -1 else most l 5 + 1
/-- the residual of atoms whose params are all positive -/
def rnorm (l : List At) : List At := (if mo l < best (-1) l then [((-1 : Int), best (-1) l)] else []) ++ pars l 5
theorem mo_ge (l : List At) : -1 ≤ mo l ∧ most l 5 ≤ mo l := by have := most_ge l 5; unfold mo; split <;> omega
def keepR (l : List At) (p : Int) : Bool := if p = -1 then decide (mo l < best (-1) l) else decide (0 ≤ best p l)
theorem readOut_rnorm (l : List At) : readOut (keepR l) (fun p => best p l) 6 = rnorm l := by
  simp [readOut, keepR, rnorm, pars, List.append_assoc]
theorem mem_rnorm {l : List At} {a : At} : a ∈ rnorm l ↔ -1 ≤ a.1 ∧ a.1 < 5 ∧ keepR l a.1 = true ∧ a.2 = best a.1 l := by
  rw [← readOut_rnorm, mem_readOut]
  constructor
  · rintro ⟨h1, h2, h3⟩; exact ⟨h1, by simp at h2; omega, h3⟩
  · rintro ⟨h1, h2, h3⟩; exact ⟨h1, by simp; omega, h3⟩
theorem rnorm_sorted (l : List At) : (rnorm l).Pairwise (fun a b => a.1 < b.1) := by rw [← readOut_rnorm]; exact readOut_sorted _ _ _
theorem keepR_cases {l : List At} {p : Int} (h : keepR l p = true) : best p l ≠ -1 := by
  unfold keepR at h
  split at h
  · rename_i e; subst e; simp at h; have := mo_ge l; omega
  · simp at h; omega
theorem rnorm_sub {l : List At} {a : At} (h : a ∈ rnorm l) : a ∈ l := by
  obtain ⟨_, _, h3, h4⟩ := mem_rnorm.1 h
  obtain ⟨p, x⟩ := a
  simp only at h3 h4
  rw [h4]
  exact best_at (keepR_cases h3)
theorem rnorm_ne {l : List At} (h0 : l ≠ []) (h : AllOk l) : rnorm l ≠ [] := by
  obtain ⟨a, ha⟩ := List.exists_mem_of_ne_nil l h0
  have hb := h.mem ha
  obtain ⟨p, x⟩ := a
  have hbm := best_mem ha
  simp only at hb
  intro e
  by_cases ep : p = -1
  · subst ep
    by_cases hm : mo l < best (-1) l
    · have : ((-1 : Int), best (-1) l) ∈ rnorm l := mem_rnorm.2 ⟨by simp, by simp, by simp [keepR, hm], rfl⟩
      rw [e] at this; simp at this
    · by_cases em : most l 5 = -1
      · unfold mo at hm; rw [if_pos em] at hm; omega
      · obtain ⟨q, q1, q2, q3⟩ := most_at l 5 em
        have g := most_ge l 5
        have : (q, best q l) ∈ rnorm l := mem_rnorm.2 ⟨by simp; omega, by simp; omega, by simp [keepR, show q ≠ -1 by omega]; omega, rfl⟩
        rw [e] at this; simp at this
  · have : (p, best p l) ∈ rnorm l := mem_rnorm.2 ⟨by simp; omega, by simp; omega, by simp [keepR, ep]; omega, rfl⟩
    rw [e] at this; simp at this
theorem rnorm_allOk {l : List At} (h : AllOk l) : AllOk (rnorm l) := allOk_of_mem fun a ha => (atOk_iff a).2 (h.mem (rnorm_sub ha))
/-- what is 0 for the sign is a number -/
def pl (s : Int) (a : At) : At := if 0 ≤ a.1 ∧ Sg.has s a.1 = false then (-1, a.2) else a
/-- all params are positive for the sign -/
def Pst (s : Int) (l : List At) : Prop := ∀ a ∈ l, a.1 = -1 ∨ Sg.has s a.1 = true
theorem pl_pst (s : Int) {a : At} (h : -1 ≤ a.1) : (pl s a).1 = -1 ∨ Sg.has s (pl s a).1 = true := by
  unfold pl
  split
  · exact .inl rfl
  · rename_i hh
    by_cases e : a.1 = -1
    · exact .inl e
    · right
      cases hb : Sg.has s a.1 with
      | true => rfl
      | false => exact absurd ⟨by omega, hb⟩ hh
theorem pl_snd (s : Int) (a : At) : (pl s a).2 = a.2 := by unfold pl; split <;> rfl
theorem pl_atOk {s : Int} {a : At} (h : atOk a = true) : atOk (pl s a) = true := by
  have h1 := (atOk_iff a).1 h
  refine (atOk_iff _).2 ?_
  rw [pl_snd]
  unfold pl
  split
  · simp; omega
  · exact h1
theorem AllOk.pl {s : Int} {l : List At} (h : AllOk l) : AllOk (l.map (pl s)) := allOk_of_mem fun a ha => by
  obtain ⟨b, hb, rfl⟩ := List.mem_map.1 ha
  exact pl_atOk ((atOk_iff _).2 (h.mem hb))
theorem Pst.sub {s : Int} {a b : List At} (h : Pst s a) (hs : ∀ x ∈ b, x ∈ a) : Pst s b := fun x hx => h x (hs x hx)
theorem Pst.rnorm {s : Int} {a : List At} (h : Pst s a) : Pst s (Nm.rnorm a) := h.sub fun _ hx => rnorm_sub hx
theorem Pst.up {s : Int} {a : List At} (h : Pst s a) (k : Int) : Pst s (Nm.up k a) := fun x hx => by
  obtain ⟨y, hy, rfl⟩ := List.mem_map.1 hx
  exact h y hy
theorem Pst.append {s : Int} {a b : List At} (h : Pst s a) (h2 : Pst s b) : Pst s (a ++ b) := fun x hx => by
  rcases List.mem_append.1 hx with hx | hx
  · exact h x hx
  · exact h2 x hx
/-- nothing but the number 0 -/
def zeroL (l : List At) : Bool := l.all fun a => a == (-1, 0)
theorem zeroL_iff (l : List At) : zeroL l = true ↔ ∀ a ∈ l, a = (-1, 0) := by simp [zeroL]
theorem exceeds_mem {y : Int} {l : List At} : Exceeds y l ↔ ∀ a ∈ l, a.2 < y := by
  constructor
  · intro h a ha
    obtain ⟨k, hk, rfl⟩ := getD_of_mem ha
    exact h k hk
  · intro h k hk
    exact h _ (mem_getD hk)
/-- one token on a pile of lists of atoms for a sign, its top first -/
def wstep (s : Int) (t : Tk) (st : List (List At)) : Option (List (List At)) :=
  if tkOk t = true then
    if t.1 = 0 then some ([(-1, 0)] :: st)
    else if t.1 = 4 then some ([pl s (t.2, 0)] :: st)
    else if t.1 = 1 then
      match st with
      | a :: r => some (up 1 a :: r)
      | [] => none
    else
      match st with
      | b :: a :: r => some ((if t.1 = 3 ∧ zeroL b = true then [(-1, 0)] else a ++ b) :: r)
      | _ => none
  else none
def wrun (s : Int) : List Tk → List (List At) → Option (List (List At))
  | [], st => some st
  | t :: r, st => (wstep s t st).bind (wrun s r)
theorem wstep_height {s : Int} {t : Tk} {st : List (List At)} :
    (wstep s t st).map (fun s => (s.length : Int)) = if tkOk t = true ∧ takes t.1 ≤ st.length then some ((st.length : Int) - takes t.1 + 1) else none := by
  unfold wstep
  by_cases h : tkOk t = true
  · simp only [h, if_true, true_and]
    rcases tk_cases h with e | e | e | e | e
    · simp [e, takes]
    · rcases st with _ | ⟨a, s⟩ <;> simp [e, takes]
      omega
    · rcases st with _ | ⟨b, _ | ⟨a, s⟩⟩ <;> simp [e, takes]
      omega
    · rcases st with _ | ⟨b, _ | ⟨a, s⟩⟩ <;> simp [e, takes]
      omega
    · simp [e, takes]
  · simp [h]
theorem wrun_height {s : Int} {l : List Tk} (st : List (List At)) : (wrun s l st).map (fun s => (s.length : Int)) = hts l st.length := by
  induction l generalizing st with
  | nil => rfl
  | cons t r ih =>
    simp only [wrun, hts]
    have hs := wstep_height (s := s) (t := t) (st := st)
    cases hst : wstep s t st with
    | none =>
      rw [hst] at hs
      by_cases hc : tkOk t = true ∧ takes t.1 ≤ st.length
      · rw [if_pos hc] at hs; cases hs
      · rw [if_neg hc]; rfl
    | some u =>
      rw [hst] at hs
      by_cases hc : tkOk t = true ∧ takes t.1 ≤ st.length
      · rw [if_pos hc] at hs ⊢
        simp only [Option.map_some, Option.some.injEq] at hs
        rw [Option.bind_some, ih, hs]
      · rw [if_neg hc] at hs; cases hs
theorem wrun_some {s : Int} {l : List Tk} (h : levelOk l = true) (k : Nat) : ∃ st, wrun s (l.take k) [] = some st := by
  cases hc : wrun s (l.take k) [] with
  | some st => exact ⟨st, rfl⟩
  | none =>
    have h1 := wrun_height (s := s) (l := l.take k) []
    rw [hc] at h1
    simp only [levelOk, Bool.and_eq_true, decide_eq_true_eq] at h
    have := hts_none_of_take (k := k) h1.symm
    rw [show ((([] : List (List At)).length : Nat) : Int) = 0 from rfl] at this
    rw [this] at h
    cases h.2
theorem wrun_one {s : Int} {l : List Tk} (h : levelOk l = true) : ∃ a, wrun s l [] = some [a] := by
  obtain ⟨st, hst⟩ := wrun_some (s := s) h l.length
  rw [List.take_of_length_le (Nat.le_refl _)] at hst
  have h1 := wrun_height (s := s) (l := l) []
  simp only [levelOk, Bool.and_eq_true, decide_eq_true_eq] at h
  rw [hst, show ((([] : List (List At)).length : Nat) : Int) = 0 from rfl, h.2] at h1
  simp only [Option.map_some, Option.some.injEq] at h1
  match st, h1 with
  | [a], _ => exact ⟨a, hst⟩
  | [], h1 => simp at h1
  | _ :: _ :: _, h1 => simp at h1; omega
/-- what lies on the pile is right for the sign -/
def WFine (s : Int) (k : Nat) (st : List (List At)) : Prop := ∀ a ∈ st, a ≠ [] ∧ Pst s a ∧ ∀ x ∈ a, -1 ≤ x.1 ∧ x.1 < 5 ∧ 0 ≤ x.2 ∧ x.2 ≤ k
theorem WFine.allOk {s : Int} {k : Nat} {st : List (List At)} (h : WFine s k st) (hk : k ≤ 1000) {a : List At} (ha : a ∈ st) : AllOk a :=
  allOk_of_mem fun x hx => (atOk_iff x).2 (by have := (h a ha).2.2 x hx; omega)
theorem wfine_step {s : Int} {k : Nat} {t : Tk} {st st' : List (List At)} (h : WFine s k st) (hs : wstep s t st = some st') : WFine s (k + 1) st' := by
  have up1 : WFine s (k + 1) st := fun a ha => ⟨(h a ha).1, (h a ha).2.1, fun x hx => by have := (h a ha).2.2 x hx; omega⟩
  have zero : ([(-1, 0)] : List At) ≠ [] ∧ Pst s [(-1, 0)] ∧ ∀ x ∈ ([(-1, 0)] : List At), -1 ≤ x.1 ∧ x.1 < 5 ∧ 0 ≤ x.2 ∧ x.2 ≤ ((k + 1 : Nat) : Int) := by
    refine ⟨by simp, fun a ha => ?_, fun x hx => ?_⟩
    · obtain rfl : a = (-1, 0) := by simpa using ha
      exact .inl rfl
    · obtain rfl : x = (-1, 0) := by simpa using hx
      simp; omega
  unfold wstep at hs
  by_cases hok : tkOk t = true
  · rw [if_pos hok] at hs
    by_cases h0 : t.1 = 0
    · rw [if_pos h0] at hs
      injection hs with hs
      subst hs
      intro a ha
      rcases List.mem_cons.1 ha with rfl | ha
      · exact zero
      · exact up1 a ha
    · rw [if_neg h0] at hs
      by_cases h4 : t.1 = 4
      · rw [if_pos h4] at hs
        injection hs with hs
        subst hs
        have hb : 0 ≤ t.2 ∧ t.2 < 5 := by simp [tkOk] at hok; omega
        intro a ha
        rcases List.mem_cons.1 ha with rfl | ha
        · refine ⟨by simp, fun a ha => ?_, fun x hx => ?_⟩
          · obtain rfl : a = pl s (t.2, 0) := by simpa using ha
            exact pl_pst s (by simp; omega)
          · obtain rfl : x = pl s (t.2, 0) := by simpa using hx
            rw [pl_snd]
            unfold pl
            split <;> simp <;> omega
        · exact up1 a ha
      · rw [if_neg h4] at hs
        by_cases h1 : t.1 = 1
        · rw [if_pos h1] at hs
          match st, hs, h, up1 with
          | a :: r, hs, h, up1 =>
            simp only at hs
            injection hs with hs
            subst hs
            intro b hb
            rcases List.mem_cons.1 hb with rfl | hb
            · have ha := h a (by simp)
              refine ⟨by simpa [up] using ha.1, ha.2.1.up 1, fun x hx => ?_⟩
              obtain ⟨y, hy, rfl⟩ := List.mem_map.1 hx
              have := ha.2.2 y hy
              simp only
              omega
            · exact up1 b (List.mem_cons_of_mem _ hb)
        · rw [if_neg h1] at hs
          match st, hs, h, up1 with
          | b :: a :: r, hs, h, up1 =>
            simp only at hs
            injection hs with hs
            subst hs
            intro x hx
            rcases List.mem_cons.1 hx with rfl | hx
            · split
              · exact zero
              · have ha := up1 a (by simp)
                have hb := up1 b (by simp)
                refine ⟨by simp [ha.1], ha.2.1.append hb.2.1, fun y hy => ?_⟩
                rcases List.mem_append.1 hy with hy | hy
                · exact ha.2.2 y hy
                · exact hb.2.2 y hy
            · exact up1 x (by simp [hx])
          | [b], hs, h, up1 => simp at hs
          | [], hs, h, up1 => simp at hs
  · rw [if_neg hok] at hs; cases hs
theorem wfine_run {s : Int} {l : List Tk} {st : List (List At)} : ∀ {k : Nat} {u : List (List At)}, WFine s k u → wrun s l u = some st → WFine s (k + l.length) st := by
  induction l with
  | nil => intro k u hu h; simp only [wrun] at h; injection h with h; subst h; exact hu
  | cons t r ih =>
    intro k u hu h
    simp only [wrun] at h
    cases hq : wstep s t u with
    | none => rw [hq] at h; cases h
    | some u1 =>
      rw [hq, Option.bind_some] at h
      have := ih (wfine_step hu hq) h
      rw [List.length_cons, show k + (r.length + 1) = k + 1 + r.length by omega]
      exact this
/-- the atoms of a level for a sign -/
def wl (s : Int) (l : List Tk) : List At := ((wrun s l []).getD []).headD []
theorem wl_of {s : Int} {l : List Tk} {a : List At} (h : wrun s l [] = some [a]) : wl s l = a := by unfold wl; rw [h]; rfl
end Go.Proofs.Ytfmhmnpmdjpmeaa.Nm

namespace Go.Proofs.Ytfmhmnpmdjpmeaa
open Go.RowKit

/-- a world in which all that w holds is as it was -/
structure Later (w : World) : Type where
  out : World
  bel : Below w.heap.size w out
instance (w : World) : Nonempty (Later w) := ⟨⟨w, Below.refl _ _⟩⟩
theorem Later.cell {w : World} (d : Later w) {p : Addr} {v : Value} (hp : p.block < w.heap.size) (h : w.cell? p = some v) : d.out.cell? p = some v := (d.bel.cell hp).trans h

end Go.Proofs.Ytfmhmnpmdjpmeaa

namespace Go.Proofs.Ytfmhmnpmdjpmeaa
open Go.RowKit Go.Maps

theorem six {k : Nat} (h : k < 6) : k = 0 ∨ k = 1 ∨ k = 2 ∨ k = 3 ∨ k = 4 ∨ k = 5 := by omega
end Go.Proofs.Ytfmhmnpmdjpmeaa

namespace Go.Proofs.Ytfmhmnpmdjpmeaa
open Go.RowKit

theorem mem_getD {l : List (Int × Int)} {t : Int × Int} {k : Nat} (hk : k < l.length) (h : l.getD k (0, 0) = t) : t ∈ l := by
  rw [List.getD_eq_getElem?_getD, List.getElem?_eq_getElem hk, Option.getD_some] at h
  rw [← h]; exact List.getElem_mem hk
end Go.Proofs.Ytfmhmnpmdjpmeaa

namespace Go.Proofs.Ytfmhmnpmdjpmeaa
open Go.Proofs.Ytfmhmnpmdjpmeaa.Lv

namespace Nm
/-- a level without imax whose leaves are these atoms -/
def TRel (ts : List Tk) (a : List At) : Prop := prun ts [] = some [a] ∧ ∀ t ∈ ts, t.1 ≠ 3
theorem TRel.ok {ts : List Tk} {a : List At} (h : TRel ts a) (hl : ts.length ≤ 24) : levelOk ts = true := by
  have h1 := prun_height h.2 []
  rw [h.1] at h1
  have hn : 1 ≤ ts.length := by
    cases ts with
    | nil => have := h.1; simp [prun] at this
    | cons => simp
  simp only [levelOk, Bool.and_eq_true, decide_eq_true_eq]
  exact ⟨⟨hn, hl⟩, by simpa using h1.symm⟩
/-- rows of tokens that stand for the pile, both with their tops first -/
def TS : List (List Tk) → List (List At) → Prop
  | [], [] => True
  | t :: ts, a :: st => TRel t a ∧ TS ts st
  | _, _ => False
theorem TS.len : ∀ {ts : List (List Tk)} {st : List (List At)}, TS ts st → ts.length = st.length
  | [], [], _ => rfl
  | _ :: ts, _ :: st, h => by rw [List.length_cons, List.length_cons, TS.len h.2]
  | [], _ :: _, h => h.elim
  | _ :: _, [], h => h.elim
end Nm
end Go.Proofs.Ytfmhmnpmdjpmeaa

namespace Go.Proofs.Ytfmhmnpmdjpmeaa
open Go.RowKit

namespace Sg
theorem bits_has {env : List Int} (h5 : env.length = 5) (k : Nat) (hk : k < 5) : has (bits env) k = decide (0 < env.getD k 0) := by
  match env, h5 with
  | [a, b, c, d, e], _ =>
    have key : ∀ x0 x1 x2 x3 x4 : Bool, ∀ k : Fin 5, has (((if x0 then 1 else 0) + 2 * ((if x1 then 1 else 0) + 2 * ((if x2 then 1 else 0) + 2 * ((if x3 then 1 else 0) + 2 * ((if x4 then 1 else 0) + 2 * 0))))) : Int) (k : Nat) = [x0, x1, x2, x3, x4].getD k false := by decide +kernel
    have := key (decide (a > 0)) (decide (b > 0)) (decide (c > 0)) (decide (d > 0)) (decide (e > 0)) ⟨k, hk⟩
    simp only [decide_eq_true_eq] at this
    simp only [bits]
    rw [this]
    rcases (show k = 0 ∨ k = 1 ∨ k = 2 ∨ k = 3 ∨ k = 4 by omega) with rfl | rfl | rfl | rfl | rfl <;> rfl
theorem bits_sign {env : List Int} (h5 : env.length = 5) : isSign (bits env) = true := by
  have h1 := bits_nonneg env
  have h2 := bits_lt env
  rw [h5] at h2
  simp [isSign]; omega
end Sg

end Go.Proofs.Ytfmhmnpmdjpmeaa

namespace Go.Proofs.Ytfmhmnpmdjpmeaa.Nm
open Go.Proofs.Ytfmhmnpmdjpmeaa.Lv

/-- the residual of atoms for a sign is one -/
theorem rnorm_rok {s : Int} {a : List At} (hs : Sg.isSign s = true) (h0 : a ≠ []) (hp : Pst s a) (h : AllOk a) : ROk s (rnorm a) := by
  refine ⟨hs, List.length_pos_iff.2 (rnorm_ne h0 h), rnorm_allOk h, incr_of_sorted (rnorm_sorted a), fun k hk => hp.rnorm _ (mem_getD hk), fun e => ?_⟩
  have hs := rnorm_sorted a
  rw [exceeds_mem]
  match hr : rnorm a, hs, e with
  | [], _, _ => intro x hx; simp at hx
  | q :: r, hs, e =>
    intro x hx
    simp only [List.drop_one, List.tail_cons] at hx
    have e' : q.1 = -1 := e
    have hq : q ∈ rnorm a := by rw [hr]; simp
    have hx' : x ∈ rnorm a := by rw [hr]; simp [hx]
    have hlt : q.1 < x.1 := (List.pairwise_cons.1 hs).1 x hx
    obtain ⟨_, _, q3, q4⟩ := mem_rnorm.1 hq
    obtain ⟨_, x2, x3, x4⟩ := mem_rnorm.1 hx'
    rw [e'] at q3 q4
    simp [keepR] at q3
    have hm := most_le a 5 x.1 (by omega) (by simpa using x2)
    have hc := keepR_cases x3
    have hn := best_nonneg h hc
    show x.2 < q.2 - 1
    have hmo : mo a = most a 5 + 1 := by unfold mo; rw [if_neg (by omega)]
    omega

/-- an env of a sign -/
def EnvOf (s : Int) (env : List Int) : Prop := Pos env ∧ (∀ p : Int, Sg.has s p = true → 1 ≤ env.getD p.toNat 0) ∧ (∀ p : Int, 0 ≤ p → p < 5 → Sg.has s p = false → env.getD p.toNat 0 = 0)
theorem has_bd {s p : Int} (h : Sg.has s p = true) : 0 ≤ p ∧ p < 5 := by unfold Sg.has at h; simp at h; omega
theorem value_rnorm {s : Int} {env : List Int} (he : EnvOf s env) {l : List At} (hp : Pst s l) (h : AllOk l) : value env (rnorm l) = value env l := by
  apply Int.le_antisymm
  · exact value_le (value_ge _ _) fun a ha => value_mem (rnorm_sub ha)
  · refine value_le (value_ge _ _) fun a ha => ?_
    obtain ⟨p, x⟩ := a
    have hb := h.mem ha
    have hbm := best_mem ha
    simp only at hb
    by_cases ep : p = -1
    · subst ep
      by_cases hm : mo l < best (-1) l
      · have h1 : ((-1 : Int), best (-1) l) ∈ rnorm l := mem_rnorm.2 ⟨by simp, by simp, by simp [keepR, hm], rfl⟩
        have h2 := value_mem (env := env) h1
        simp [val] at h2 ⊢
        omega
      · have hne : most l 5 ≠ -1 := by intro e; unfold mo at hm; rw [if_pos e] at hm; omega
        have hmo : mo l = most l 5 + 1 := by unfold mo; rw [if_neg hne]
        obtain ⟨q, q1, q2, q3⟩ := most_at l 5 hne
        have g := most_ge l 5
        have h1 : (q, best q l) ∈ rnorm l := mem_rnorm.2 ⟨by simp; omega, by simp; omega, by simp [keepR, show q ≠ -1 by omega]; omega, rfl⟩
        have h2 := value_mem (env := env) h1
        have hq := hp _ (rnorm_sub h1)
        simp only at hq
        have h4 : 1 ≤ env.getD q.toNat 0 := by
          rcases hq with e | e
          · omega
          · exact he.2.1 q e
        simp only [val, if_true] at h2 ⊢
        simp only [show ¬ q = -1 by omega, if_false] at h2
        omega
    · have h1 : (p, best p l) ∈ rnorm l := mem_rnorm.2 ⟨by simp; omega, by simp; omega, by simp [keepR, ep]; omega, rfl⟩
      have h2 := value_mem (env := env) h1
      simp only [val, ep, if_false] at h2 ⊢
      omega
theorem value_zero' {s : Int} {env : List Int} (he : EnvOf s env) {a : List At} (hp : Pst s a) (hok : AllOk a) : value env a = 0 ↔ zeroL a = true := by
  rw [zeroL_iff]
  constructor
  · intro h x hx
    have hv := value_mem (env := env) hx
    have hm := hok.mem hx
    rw [h] at hv
    obtain ⟨p, y⟩ := x
    unfold val at hv
    simp only at hv hm
    rcases hp _ hx with e | e
    · simp only at e
      subst e
      rw [if_pos rfl] at hv
      have : y = 0 := by omega
      rw [this]
    · simp only at e
      have hl := he.2.1 p e
      have hb := has_bd e
      rw [if_neg (by omega)] at hv
      omega
  · intro h
    have h1 := value_ge env a
    have h2 := value_le (env := env) (l := a) (v := 0) (by omega) (fun x hx => by rw [h x hx]; simp [val])
    omega
theorem wstep_val {s : Int} {env : List Int} (he : EnvOf s env) {t : Tk} {k : Nat} {st st' : List (List At)} (hk : k ≤ 999) (hf : WFine s k st) (h : wstep s t st = some st') : Lv.step env t (st.map (value env)) = some (st'.map (value env)) := by
  have hok : tkOk t = true := by
    unfold wstep at h
    split at h
    · assumption
    · cases h
  unfold wstep at h
  unfold Lv.step
  rw [if_pos hok] at h ⊢
  split at h
  · rename_i e
    cases h
    rw [if_pos e]
    simp [value, val]
  · rename_i e
    rw [if_neg e]
    split at h
    · rename_i e4
      cases h
      rw [if_pos e4]
      have h2 : 0 ≤ t.2 ∧ t.2 < 5 := by simp [tkOk] at hok; omega
      have hg := he.1.get t.2.toNat
      simp only [List.map_cons, Option.some.injEq, List.cons.injEq, and_true]
      unfold pl
      cases hh : Sg.has s t.2 with
      | true =>
        simp only [Bool.true_eq_false, and_false, if_false, value, val, show ¬ t.2 = -1 by omega]
        omega
      | false =>
        simp only [h2.1, and_self, if_true, value, val, he.2.2 t.2 h2.1 h2.2 hh]
        rfl
    · rename_i e4
      rw [if_neg e4]
      split at h
      · rename_i e1
        rw [if_pos e1]
        split at h
        · cases h
          rename_i a r
          have ha := hf a (by simp)
          simp only [List.map_cons]
          rw [value_up he.1 ha.1 (hf.allOk (by omega) (by simp)) (by omega)]
        · cases h
      · rename_i e1
        rw [if_neg e1]
        split at h
        · cases h
          rename_i b a r
          have hb := hf b (by simp)
          have hz := value_zero' he hb.2.1 (hf.allOk (by omega) (by simp))
          simp only [List.map_cons, Option.some.injEq, List.cons.injEq, and_true]
          by_cases hc : t.1 = 3 ∧ zeroL b = true
          · rw [if_pos hc, if_pos ⟨hc.1, hz.2 hc.2⟩]
            simp [value, val]
          · rw [if_neg hc, if_neg (fun hh => hc ⟨hh.1, hz.1 hh.2⟩), value_append]
        · cases h
theorem wrun_val {s : Int} {env : List Int} (he : EnvOf s env) {l : List Tk} {st : List (List At)} (hl : l.length ≤ 24) (h : wrun s l [] = some st) : Lv.run env l [] = some (st.map (value env)) := by
  have H : ∀ (l : List Tk) (k : Nat) (u st : List (List At)), k + l.length ≤ 999 → WFine s k u → wrun s l u = some st → Lv.run env l (u.map (value env)) = some (st.map (value env)) := by
    intro l
    induction l with
    | nil => intro k u st _ _ h; cases h; rfl
    | cons t r ih =>
      intro k u st hk hf h
      simp only [wrun] at h
      simp only [List.length_cons] at hk
      cases hs : wstep s t u with
      | none => rw [hs] at h; cases h
      | some u' =>
        rw [hs] at h
        simp only [Lv.run]
        rw [wstep_val he (k := k) (by omega) hf hs, Option.bind_some]
        exact ih (k + 1) u' st (by omega) (wfine_step hf hs) h
  exact H l 0 [] st (by omega) (by intro a ha; simp at ha) h
/-- the residual has the values of the level -/
theorem eval_resid {s : Int} {env : List Int} (he : EnvOf s env) {l : List Tk} (h : levelOk l = true) : Lv.eval env l = some (value env (rnorm (wl s l))) := by
  obtain ⟨a, ha⟩ := wrun_one (s := s) h
  have h' := h
  simp only [levelOk, Bool.and_eq_true, decide_eq_true_eq] at h'
  have hr := wrun_val he (by omega) ha
  have hf := wfine_run (k := 0) (fun a ha => by simp at ha) ha
  have hfa := hf a (by simp)
  have e := Lv.eval_of_run (env := env) (l := l) (v := value env a) (by omega) (by omega) (by simpa using hr)
  rw [e, wl_of ha, value_rnorm he hfa.2.1 (hf.allOk (by omega) (by simp))]
end Go.Proofs.Ytfmhmnpmdjpmeaa.Nm

namespace Go.Proofs.Ytfmhmnpmdjpmeaa
open Go.RowKit

namespace Nm
/-- the atom y serves for x where positive parameters are at least 1 -/
def RFits (x y : At) : Prop := x.1 = y.1 ∧ x.2 ≤ y.2 ∨ x.1 = -1 ∧ 0 ≤ y.1 ∧ x.2 ≤ y.2 + 1
/-- some atom of b serves for x -/
def ratomLe (x : At) (b : List At) : Prop := ∃ k, k < b.length ∧ RFits x (b.getD k (0, 0))
open Classical in
noncomputable def residLe (s : Int) (a b : List At) : Bool := decide (ROk s a ∧ ROk s b ∧ ∀ k, k < a.length → ratomLe (a.getD k (0, 0)) b)
theorem residLe_iff (s : Int) (a b : List At) : residLe s a b = true ↔ ROk s a ∧ ROk s b ∧ ∀ k, k < a.length → ratomLe (a.getD k (0, 0)) b := by simp [residLe]
end Nm

end Go.Proofs.Ytfmhmnpmdjpmeaa
