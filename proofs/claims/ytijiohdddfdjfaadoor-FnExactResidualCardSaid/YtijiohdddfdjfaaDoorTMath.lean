/- Plain facts: levels without imax that stand for lists of atoms, and how the program's joins for a sign keep to them. -/
import Derived.Test.YtijiohdddfdjfaaDoorIRes
namespace Go.Proofs.YtijiohdddfdjfaaDoor
open Go.Proofs.YtijiohdddfdjfaaDoor.Lv

namespace Nm
theorem pstep_frame {t : Tk} {u x st : List (List At)} (h : pstep t u = some x) : pstep t (u ++ st) = some (x ++ st) := by
  unfold pstep at h ⊢
  by_cases hok : tkOk t = true
  · rw [if_pos hok] at h ⊢
    by_cases h0 : t.1 = 0
    · rw [if_pos h0] at h ⊢; injection h with h; subst h; rfl
    · rw [if_neg h0] at h ⊢
      by_cases h4 : t.1 = 4
      · rw [if_pos h4] at h ⊢; injection h with h; subst h; rfl
      · rw [if_neg h4] at h ⊢
        by_cases h1 : t.1 = 1
        · rw [if_pos h1] at h ⊢
          match u, h with
          | a :: r, h => simp only at h; injection h with h; subst h; rfl
          | [], h => simp at h
        · rw [if_neg h1] at h ⊢
          by_cases h2 : t.1 = 2
          · rw [if_pos h2] at h ⊢
            match u, h with
            | b :: a :: r, h => simp only at h; injection h with h; subst h; rfl
            | [b], h => simp at h
            | [], h => simp at h
          · rw [if_neg h2] at h; cases h
  · rw [if_neg hok] at h; cases h
theorem prun_frame {l : List Tk} (st : List (List At)) : ∀ {u x : List (List At)}, prun l u = some x → prun l (u ++ st) = some (x ++ st) := by
  induction l with
  | nil => intro u x h; simp only [prun] at h ⊢; injection h with h; subst h; rfl
  | cons t r ih =>
    intro u x h
    simp only [prun] at h ⊢
    cases hq : pstep t u with
    | none => rw [hq] at h; cases h
    | some y =>
      rw [hq, Option.bind_some] at h
      rw [pstep_frame hq, Option.bind_some]
      exact ih h
/-- a level without imax whose leaves are these atoms -/
def TRel (ts : List Tk) (a : List At) : Prop := prun ts [] = some [a] ∧ ∀ t ∈ ts, t.1 ≠ 3
theorem TRel.ok {ts : List Tk} {a : List At} (h : TRel ts a) (hl : ts.length ≤ 24) : levelOk ts = true := by
  have h1 := prun_height h.2 []
  rw [h.1] at h1
  have hn : 1 ≤ ts.length := by
    cases ts with
    | nil => have := h.1; simp [prun] at this
    | cons => simp
  simp only [levelOk, Bool.and_eq_true, decide_eq_true_eq]
  exact ⟨⟨hn, hl⟩, by simpa using h1.symm⟩
theorem TRel.pos {ts : List Tk} {a : List At} (h : TRel ts a) : 1 ≤ ts.length := by
  cases ts with
  | nil => have := h.1; simp [prun] at this
  | cons => simp
theorem trel_zero : TRel [(0, 0)] [(-1, 0)] := ⟨by decide, by simp⟩
theorem trel_leaf {s y : Int} (h0 : 0 ≤ y) (h5 : y < 5) : TRel [leafT s (4, y)] [pl s (y, 0)] := by
  unfold leafT pl
  cases hh : Sg.has s y with
  | true =>
    simp only [Bool.true_eq_false, and_false, if_false]
    refine ⟨?_, by simp⟩
    simp [prun, pstep, tkOk, h0, h5]
  | false =>
    simp only [and_self, if_true, h0]
    exact trel_zero
theorem trel_succ {ts : List Tk} {a : List At} (h : TRel ts a) : TRel (ts ++ [(1, 0)]) (up 1 a) := by
  refine ⟨?_, fun t ht => ?_⟩
  · rw [prun_append, h.1]; rfl
  · rcases List.mem_append.1 ht with ht | ht
    · exact h.2 t ht
    · obtain rfl : t = (1, 0) := by simpa using ht
      simp
theorem trel_join {ta tb : List Tk} {a b : List At} (ha : TRel ta a) (hb : TRel tb b) : TRel (ta ++ (tb ++ [(2, 0)])) (a ++ b) := by
  refine ⟨?_, fun t ht => ?_⟩
  · rw [prun_append, ha.1, Option.bind_some, prun_append]
    have := prun_frame [a] hb.1
    rw [List.nil_append] at this
    rw [this]; rfl
  · rcases List.mem_append.1 ht with ht | ht
    · exact ha.2 t ht
    · rcases List.mem_append.1 ht with ht | ht
      · exact hb.2 t ht
      · obtain rfl : t = (2, 0) := by simpa using ht
        simp
theorem least_pos (s : Int) : Pos (Sg.least s) := fun x hx => ((envOk_mem (Sg.least_ok s)).2 x hx).1
theorem least_has {s p : Int} (h : Sg.has s p = true) : (Sg.least s).getD p.toNat 0 = 1 := by
  have hp : 0 ≤ p ∧ p < 5 := by unfold Sg.has at h; simp at h; omega
  rw [Sg.least_get s p.toNat (by omega)]
  unfold Sg.bit
  rw [show ((p.toNat : Nat) : Int) = p by omega, h, if_pos rfl]
theorem value_zero {s : Int} {a : List At} (hp : Pst s a) (hok : AllOk a) : value (Sg.least s) a = 0 ↔ zeroL a = true := by
  rw [zeroL_iff]
  constructor
  · intro h x hx
    have hv := value_mem (env := Sg.least s) hx
    have hm := hok.mem hx
    rw [h] at hv
    obtain ⟨p, y⟩ := x
    unfold val at hv
    simp only at hv hm
    rcases hp _ hx with e | e
    · simp only at e
      subst e
      rw [if_pos rfl] at hv
      have : y = 0 := by omega
      rw [this]
    · simp only at e
      have hl := least_has e
      have hpp : p ≠ -1 := by intro h; subst h; simp [Sg.has] at e
      rw [if_neg hpp, hl] at hv
      omega
  · intro h
    have h1 := value_ge (Sg.least s) a
    have h2 := value_le (env := Sg.least s) (l := a) (v := 0) (by omega) (fun x hx => by rw [h x hx]; simp [val])
    omega
theorem lsg_zero {s : Int} {ts : List Tk} {a : List At} (h : TRel ts a) (hl : ts.length ≤ 24) (hs : Sg.isSign s = true) (hp : Pst s a) (hok : AllOk a) : lsgR ts s = 0 ↔ zeroL a = true := by
  have hlo := h.ok hl
  have he := eval_leafs (least_pos s) hlo h.2
  rw [leafs_of h.1, value_norm (least_pos s) hok] at he
  rw [lsgR_some hs (v := value (Sg.least s) a) (by simp [evalR, Sg.least_ok, he]), ← value_zero hp hok]
  have := value_ge (Sg.least s) a
  omega
/-- rows of tokens that stand for the pile, both with their tops first -/
def TS : List (List Tk) → List (List At) → Prop
  | [], [] => True
  | t :: ts, a :: st => TRel t a ∧ TS ts st
  | _, _ => False
theorem TS.len : ∀ {ts : List (List Tk)} {st : List (List At)}, TS ts st → ts.length = st.length
  | [], [], _ => rfl
  | _ :: ts, _ :: st, h => by rw [List.length_cons, List.length_cons, TS.len h.2]
  | [], _ :: _, h => h.elim
  | _ :: _, [], h => h.elim
/-- the program's pile behind a token -/
theorem ts_join {s op : Int} {ta tb : List Tk} {a b : List At} (ha : TRel ta a) (hb : TRel tb b) (hl : tb.length ≤ 24) (hs : Sg.isSign s = true) (hp : Pst s b) (hok : AllOk b) : TRel (joinT s op ta tb) (if op = 3 ∧ zeroL b = true then [(-1, 0)] else a ++ b) := by
  unfold joinT
  have hz := lsg_zero hb hl hs hp hok
  by_cases h : op = 3 ∧ zeroL b = true
  · rw [if_pos h, if_pos ⟨h.1, hz.2 h.2⟩]; exact trel_zero
  · rw [if_neg h, if_neg (fun hh => h ⟨hh.1, hz.1 hh.2⟩)]; exact trel_join ha hb
theorem joinT_len (s op : Int) (ta tb : List Tk) : (joinT s op ta tb).length ≤ ta.length + tb.length + 1 := by
  unfold joinT
  split <;> simp <;> omega
theorem joinT_pos (s op : Int) (ta tb : List Tk) : 1 ≤ (joinT s op ta tb).length := by
  unfold joinT
  split <;> simp <;> omega
end Nm
end Go.Proofs.YtijiohdddfdjfaaDoor
