/- The program's leaf and join for a sign. -/
/- Plain facts: levels without imax that stand for lists of atoms, and how the program's joins for a sign keep to them. -/
/- Whether a level is 0 hangs on the sign of the env alone. -/
/- Plain facts: a residual is right for its sign and has the values of its level for the envs of that sign. -/
/- ResidOk of the program. -/
/- ResidLe of the program (written by tools/mkrle.py). -/
/- Plain facts on ResidLe: it holds for every env of the sign, and else an env of the sign with one great parameter tells. -/
/- Slices of levels: how they are read, substitution in plain lists, levelsOk of the program. -/
/- Plain facts on levels: evaluation of a join and of successors. -/
import Derived.Test.YtgebjnoicgmdoaaGreatDoorRsMath
import Derived.Test.YtgebjnoicgmdoaaGreatDoorJoin
import Derived.Test.YtgebjnoicgmdoaaGreatDoorParams
import Derived.Test.YtgebjnoicgmdoaaGreatDoorNFree2
import Derived.Test.YtgebjnoicgmdoaaGreatDoorCls
import Derived.Test.YtgebjnoicgmdoaaGreatDoorSigned
import Derived.Test.YtgebjnoicgmdoaaGreatDoorMarks
import Derived.Test.YtgebjnoicgmdoaaGreatDoorSpec

namespace Go.Proofs.YtgebjnoicgmdoaaGreatDoor
open Go.RowKit

/-- a leaf for a sign -/
def leafT (s : Int) (t : Int × Int) : Int × Int := if t.1 = 4 ∧ Sg.has s t.2 = false then (0, 0) else t
/-- a join for a sign -/
def joinT (s op : Int) (a b : List (Int × Int)) : List (Int × Int) := if op = 3 ∧ lsgR b s = 0 then [(0, 0)] else a ++ (b ++ [(2, 0)])

set_option maxHeartbeats 800000 in
theorem leafFor_any (w : World) (op y s : Int) :
    Calls Tryz.prog 150 #[.agg #[.int .i64 op, .int .i64 y], .int .i64 s] w fun e w' => e = .returned (.agg #[.int .i64 (leafT s (op, y)).1, .int .i64 (leafT s (op, y)).2]) ∧ Below w.heap.size w w' := by
  have HB : ∀ o : Obj, Below w.heap.size w ((w.alloc (.cells #[.int .i64 op, .int .i64 y] 51)).alloc o) := fun o => ((Below.refl _ _).alloc (Nat.le_refl _) _).alloc (by simp) _
  by_cases h4 : op = 4
  · subst h4
    cases hh : Sg.has s y with
    | true =>
      have HL : Hid (leafT s (4, y) = (4, y)) := by unfold Hid leafT; simp [hh]
      go_enter Tryz.func150, Tryz.ntmps150
      go_wp2_with fail
      refine (implSignHas_any _ s y).mono ?_
      rintro e w1 ⟨rfl, rfl⟩
      rw [hh]
      go_wp2
      exact bodyPost_ret (v := .agg #[.int .i64 4, .int .i64 y]) (by simp [results, Tryz.results150, go_sem]) rfl ⟨by rw [HL.out], HB _⟩
    | false =>
      have HL : Hid (leafT s (4, y) = (0, 0)) := by unfold Hid leafT; simp [hh]
      go_enter Tryz.func150, Tryz.ntmps150
      go_wp2_with fail
      refine (implSignHas_any _ s y).mono ?_
      rintro e w1 ⟨rfl, rfl⟩
      rw [hh]
      go_wp2
      exact bodyPost_ret (v := .agg #[.int .i64 0, .int .i64 0]) (by simp [results, Tryz.results150, go_sem]) rfl ⟨by rw [HL.out], HB _⟩
  · have HL : Hid (leafT s (op, y) = (op, y)) := by unfold Hid leafT; simp [h4]
    have d4 : (op == 4) = false := by simpa using h4
    clear h4
    go_enter Tryz.func150, Tryz.ntmps150
    go_wp2
    exact bodyPost_ret (v := .agg #[.int .i64 op, .int .i64 y]) (by simp [results, Tryz.results150, go_sem]) rfl ⟨by rw [HL.out], HB _⟩

theorem own_litJ {w : World} {g base : Nat} {a b : Int} (h : Blk w g 51 #[.int .i64 a, .int .i64 b]) (hb : base ≤ g) : OwnT w base (some ⟨g, 0, none⟩) 1 1 [(a, b)] :=
  ⟨rfl, .inr ⟨g, 1, #[.int .i64 a, .int .i64 b], rfl, hb, h, Nat.le_refl _, by simp [maxLen], rfl, rfl⟩⟩

set_option maxRecDepth 100000 in
set_option maxHeartbeats 1600000 in
theorem joinFor_any (w : World) (B : Nat) (op s : Int) (A0 : Option Addr) (n0 c0 : Nat) (l0 : List (Int × Int)) (A1 : Option Addr) (n1 c1 : Nat) (l1 : List (Int × Int)) (T : TypeId) (pv : Value) (h0 : 1 < B) (hB : B ≤ w.heap.size)
    (hl0 : TokR w B A0 n0 l0) (hn0 : n0 ≤ 100) (h10 : 1 ≤ n0) (hl1 : TokR w B A1 n1 l1) (hn1 : n1 ≤ 100) (h11 : 1 ≤ n1) (hE : ErrAt w T pv) :
    Calls Tryz.prog 151 #[.int .i64 op, .slice A0 n0 c0, .slice A1 n1 c1, .int .i64 s] w (ResT w (joinT s op l0 l1)) := by
  by_cases hz : op = 3 ∧ lsgR l1 s = 0
  · obtain ⟨rfl, hz⟩ := hz
    have HJ : Hid (joinT s 3 l0 l1 = [(0, 0)]) := by unfold Hid joinT; rw [if_pos ⟨rfl, hz⟩]
    have HZ := Lib.hid hz
    clear hz
    go_enter Tryz.func151, Tryz.ntmps151
    go_wp2_with fail
    refine (implLevelSign_any w B A1 n1 c1 l1 s T pv h0 hB hl1 (by omega) hE).mono ?_
    rintro e w1 ⟨rfl, hb1⟩
    rw [HZ.out]
    have HO : Hid (OwnT (w1.alloc (.cells #[.int .i64 0, .int .i64 0] 51)) w.heap.size (some ⟨w1.heap.size, 0, none⟩) 1 1 [(0, 0)]) := own_litJ (Blk.made w1 _ _) hb1.size
    have HB1 := Lib.hid (hb1.alloc hb1.size (.cells #[.int .i64 0, .int .i64 0] 51))
    clear hb1
    go_wp2
    go_ret
    rw [HJ.out]
    exact ⟨_, _, rfl, HO.out, HB1.out⟩
  · have HJ : Hid (joinT s op l0 l1 = l0 ++ (l1 ++ [(2, 0)])) := by unfold Hid joinT; rw [if_neg hz]
    have HFn : Hid ([l0, l1, [((2 : Int), (0 : Int))]].flatten.length = n0 + n1 + 1) := by show _ = _; simp [hl0.1, hl1.1]; omega
    have HFL : Hid ([l0, l1, [((2 : Int), (0 : Int))]].flatten = l0 ++ (l1 ++ [(2, 0)])) := by show _ = _; simp
    have HFN2 : Hid ((l0 ++ (l1 ++ [((2 : Int), (0 : Int))])).length = n0 + n1 + 1) := by show _ = _; simp [hl0.1, hl1.1]; omega
    by_cases h3 : op = 3
    · subst h3
      have hz' : (lsgR l1 s == 0) = false := by simp; exact fun h => hz ⟨rfl, h⟩
      obtain ⟨v, hv⟩ : ∃ v, lsgR l1 s = v := ⟨_, rfl⟩
      rw [hv] at hz'
      have HV := Lib.hid hv
      clear hz hv
      go_enter Tryz.func151, Tryz.ntmps151
      go_wp2_with fail
      refine (implLevelSign_any w B A1 n1 c1 l1 s T pv h0 hB hl1 (by omega) hE).mono ?_
      rintro e w2 ⟨rfl, hb12⟩
      rw [HV.out]
      have HS2 := Lib.hid hb12.size
      obtain ⟨q0, rfl, hq0⟩ := (hl0.below (hb12.mono hB)).tokA (by omega)
      obtain ⟨q1, rfl, hq1⟩ := (hl1.below (hb12.mono hB)).tokA (by omega)
      have HPt := Lib.hid (parts3 (c0 := c0) (c1 := c1) 2 (Nat.le_trans hB hb12.size) hq0 hq1 hl0.1 hl1.1)
      have HBA := Lib.hid ((hb12.alloc hb12.size (.cells #[.int .i64 2, .int .i64 0] 51)).alloc (by simp; exact Nat.le_succ_of_le hb12.size) (.cells #[.slice (some q0) n0 c0, .slice (some q1) n1 c1, .slice (some ⟨w2.heap.size, 0, none⟩) 1 1] 25))
      clear hq0 hq1 hb12
      go_wp2_with fail
      refine (concat_any _ (w2.heap.size + 2) (w2.heap.size + 1) 3 _ _ [l0, l1, [(2, 0)]] (by simp) HPt.out (by simp) (by rw [HFn.out]; omega) (by rw [HFn.out]; omega)).mono ?_
      rintro e w3 ⟨g3, c3, rfl, ho3, hb3⟩
      rw [HFn.out] at ho3 ⊢
      rw [HFL.out] at ho3
      have HO3 := Lib.hid (own_base (base' := w.heap.size) ho3 (by have := HS2.out; simp; omega))
      have HB3 := Lib.hid (HBA.out.trans (hb3.mono (by have := HS2.out; simp; omega)))
      clear ho3 hb3 HBA HPt
      go_wp2
      go_ret
      rw [HJ.out]
      exact ⟨_, _, by rw [HFN2.out]; rfl, by rw [HFN2.out]; exact HO3.out, HB3.out⟩
    · have d3 : (op == 3) = false := by simpa using h3
      have HS2 : Hid (w.heap.size ≤ w.heap.size) := Nat.le_refl _
      obtain ⟨q0, rfl, hq0⟩ := hl0.tokA (by omega)
      obtain ⟨q1, rfl, hq1⟩ := hl1.tokA (by omega)
      have HPt := Lib.hid (parts3 (c0 := c0) (c1 := c1) 2 hB hq0 hq1 hl0.1 hl1.1)
      have HBA := Lib.hid (((Below.refl w.heap.size w).alloc (Nat.le_refl _) (.cells #[.int .i64 2, .int .i64 0] 51)).alloc (by simp) (.cells #[.slice (some q0) n0 c0, .slice (some q1) n1 c1, .slice (some ⟨w.heap.size, 0, none⟩) 1 1] 25))
      clear hq0 hq1 hz h3
      go_enter Tryz.func151, Tryz.ntmps151
      go_wp2_with fail
      refine (concat_any _ (w.heap.size + 2) (w.heap.size + 1) 3 _ _ [l0, l1, [(2, 0)]] (by simp) HPt.out (by simp) (by rw [HFn.out]; omega) (by rw [HFn.out]; omega)).mono ?_
      rintro e w3 ⟨g3, c3, rfl, ho3, hb3⟩
      rw [HFn.out] at ho3 ⊢
      rw [HFL.out] at ho3
      have HO3 := Lib.hid (own_base (base' := w.heap.size) ho3 (by simp; omega))
      have HB3 := Lib.hid (HBA.out.trans (hb3.mono (by simp; omega)))
      clear ho3 hb3 HBA HPt HS2
      go_wp2
      go_ret
      rw [HJ.out]
      exact ⟨_, _, by rw [HFN2.out]; rfl, by rw [HFN2.out]; exact HO3.out, HB3.out⟩
end Go.Proofs.YtgebjnoicgmdoaaGreatDoor

namespace Go.Proofs.YtgebjnoicgmdoaaGreatDoor
open Go.Proofs.YtgebjnoicgmdoaaGreatDoor.Lv

namespace Nm
theorem pstep_frame {t : Tk} {u x st : List (List At)} (h : pstep t u = some x) : pstep t (u ++ st) = some (x ++ st) := by
  unfold pstep at h ⊢
  by_cases hok : tkOk t = true
  · rw [if_pos hok] at h ⊢
    by_cases h0 : t.1 = 0
    · rw [if_pos h0] at h ⊢; injection h with h; subst h; rfl
    · rw [if_neg h0] at h ⊢
      by_cases h4 : t.1 = 4
      · rw [if_pos h4] at h ⊢; injection h with h; subst h; rfl
      · rw [if_neg h4] at h ⊢
        by_cases h1 : t.1 = 1
        · rw [if_pos h1] at h ⊢
          match u, h with
          | a :: r, h => simp only at h; injection h with h; subst h; rfl
          | [], h => simp at h
        · rw [if_neg h1] at h ⊢
          by_cases h2 : t.1 = 2
          · rw [if_pos h2] at h ⊢
            match u, h with
            | b :: a :: r, h => simp only at h; injection h with h; subst h; rfl
            | [b], h => simp at h
            | [], h => simp at h
          · rw [if_neg h2] at h; cases h
  · rw [if_neg hok] at h; cases h
theorem prun_frame {l : List Tk} (st : List (List At)) : ∀ {u x : List (List At)}, prun l u = some x → prun l (u ++ st) = some (x ++ st) := by
  induction l with
  | nil => intro u x h; simp only [prun] at h ⊢; injection h with h; subst h; rfl
  | cons t r ih =>
    intro u x h
    simp only [prun] at h ⊢
    cases hq : pstep t u with
    | none => rw [hq] at h; cases h
    | some y =>
      rw [hq, Option.bind_some] at h
      rw [pstep_frame hq, Option.bind_some]
      exact ih h
/-- a level without imax whose leaves are these atoms -/
def TRel (ts : List Tk) (a : List At) : Prop := prun ts [] = some [a] ∧ ∀ t ∈ ts, t.1 ≠ 3
theorem TRel.ok {ts : List Tk} {a : List At} (h : TRel ts a) (hl : ts.length ≤ 24) : levelOk ts = true := by
  have h1 := prun_height h.2 []
  rw [h.1] at h1
  have hn : 1 ≤ ts.length := by
    cases ts with
    | nil => have := h.1; simp [prun] at this
    | cons => simp
  simp only [levelOk, Bool.and_eq_true, decide_eq_true_eq]
  exact ⟨⟨hn, hl⟩, by simpa using h1.symm⟩
theorem TRel.pos {ts : List Tk} {a : List At} (h : TRel ts a) : 1 ≤ ts.length := by
  cases ts with
  | nil => have := h.1; simp [prun] at this
  | cons => simp
theorem trel_zero : TRel [(0, 0)] [(-1, 0)] := ⟨by decide, by simp⟩
theorem trel_leaf {s y : Int} (h0 : 0 ≤ y) (h5 : y < 5) : TRel [leafT s (4, y)] [pl s (y, 0)] := by
  unfold leafT pl
  cases hh : Sg.has s y with
  | true =>
    simp only [Bool.true_eq_false, and_false, if_false]
    refine ⟨?_, by simp⟩
    simp [prun, pstep, tkOk, h0, h5]
  | false =>
    simp only [and_self, if_true, h0]
    exact trel_zero
theorem trel_succ {ts : List Tk} {a : List At} (h : TRel ts a) : TRel (ts ++ [(1, 0)]) (up 1 a) := by
  refine ⟨?_, fun t ht => ?_⟩
  · rw [prun_append, h.1]; rfl
  · rcases List.mem_append.1 ht with ht | ht
    · exact h.2 t ht
    · obtain rfl : t = (1, 0) := by simpa using ht
      simp
theorem trel_join {ta tb : List Tk} {a b : List At} (ha : TRel ta a) (hb : TRel tb b) : TRel (ta ++ (tb ++ [(2, 0)])) (a ++ b) := by
  refine ⟨?_, fun t ht => ?_⟩
  · rw [prun_append, ha.1, Option.bind_some, prun_append]
    have := prun_frame [a] hb.1
    rw [List.nil_append] at this
    rw [this]; rfl
  · rcases List.mem_append.1 ht with ht | ht
    · exact ha.2 t ht
    · rcases List.mem_append.1 ht with ht | ht
      · exact hb.2 t ht
      · obtain rfl : t = (2, 0) := by simpa using ht
        simp
theorem least_pos (s : Int) : Pos (Sg.least s) := fun x hx => ((envOk_mem (Sg.least_ok s)).2 x hx).1
theorem least_has {s p : Int} (h : Sg.has s p = true) : (Sg.least s).getD p.toNat 0 = 1 := by
  have hp : 0 ≤ p ∧ p < 5 := by unfold Sg.has at h; simp at h; omega
  rw [Sg.least_get s p.toNat (by omega)]
  unfold Sg.bit
  rw [show ((p.toNat : Nat) : Int) = p by omega, h, if_pos rfl]
theorem value_zero {s : Int} {a : List At} (hp : Pst s a) (hok : AllOk a) : value (Sg.least s) a = 0 ↔ zeroL a = true := by
  rw [zeroL_iff]
  constructor
  · intro h x hx
    have hv := value_mem (env := Sg.least s) hx
    have hm := hok.mem hx
    rw [h] at hv
    obtain ⟨p, y⟩ := x
    unfold val at hv
    simp only at hv hm
    rcases hp _ hx with e | e
    · simp only at e
      subst e
      rw [if_pos rfl] at hv
      have : y = 0 := by omega
      rw [this]
    · simp only at e
      have hl := least_has e
      have hpp : p ≠ -1 := by intro h; subst h; simp [Sg.has] at e
      rw [if_neg hpp, hl] at hv
      omega
  · intro h
    have h1 := value_ge (Sg.least s) a
    have h2 := value_le (env := Sg.least s) (l := a) (v := 0) (by omega) (fun x hx => by rw [h x hx]; simp [val])
    omega
theorem lsg_zero {s : Int} {ts : List Tk} {a : List At} (h : TRel ts a) (hl : ts.length ≤ 24) (hs : Sg.isSign s = true) (hp : Pst s a) (hok : AllOk a) : lsgR ts s = 0 ↔ zeroL a = true := by
  have hlo := h.ok hl
  have he := eval_leafs (least_pos s) hlo h.2
  rw [leafs_of h.1, value_norm (least_pos s) hok] at he
  rw [lsgR_some hs (v := value (Sg.least s) a) (by simp [evalR, Sg.least_ok, he]), ← value_zero hp hok]
  have := value_ge (Sg.least s) a
  omega
/-- rows of tokens that stand for the pile, both with their tops first -/
def TS : List (List Tk) → List (List At) → Prop
  | [], [] => True
  | t :: ts, a :: st => TRel t a ∧ TS ts st
  | _, _ => False
theorem TS.len : ∀ {ts : List (List Tk)} {st : List (List At)}, TS ts st → ts.length = st.length
  | [], [], _ => rfl
  | _ :: ts, _ :: st, h => by rw [List.length_cons, List.length_cons, TS.len h.2]
  | [], _ :: _, h => h.elim
  | _ :: _, [], h => h.elim
/-- the program's pile behind a token -/
theorem ts_join {s op : Int} {ta tb : List Tk} {a b : List At} (ha : TRel ta a) (hb : TRel tb b) (hl : tb.length ≤ 24) (hs : Sg.isSign s = true) (hp : Pst s b) (hok : AllOk b) : TRel (joinT s op ta tb) (if op = 3 ∧ zeroL b = true then [(-1, 0)] else a ++ b) := by
  unfold joinT
  have hz := lsg_zero hb hl hs hp hok
  by_cases h : op = 3 ∧ zeroL b = true
  · rw [if_pos h, if_pos ⟨h.1, hz.2 h.2⟩]; exact trel_zero
  · rw [if_neg h, if_neg (fun hh => h ⟨hh.1, hz.1 hh.2⟩)]; exact trel_join ha hb
theorem joinT_len (s op : Int) (ta tb : List Tk) : (joinT s op ta tb).length ≤ ta.length + tb.length + 1 := by
  unfold joinT
  split <;> simp <;> omega
end Nm
end Go.Proofs.YtgebjnoicgmdoaaGreatDoor

namespace Go.Proofs.YtgebjnoicgmdoaaGreatDoor
open Go.RowKit

namespace Sg
theorem bits_has {env : List Int} (h5 : env.length = 5) (k : Nat) (hk : k < 5) : has (bits env) k = decide (0 < env.getD k 0) := by
  match env, h5 with
  | [a, b, c, d, e], _ =>
    have key : ∀ x0 x1 x2 x3 x4 : Bool, ∀ k : Fin 5, has (((if x0 then 1 else 0) + 2 * ((if x1 then 1 else 0) + 2 * ((if x2 then 1 else 0) + 2 * ((if x3 then 1 else 0) + 2 * ((if x4 then 1 else 0) + 2 * 0))))) : Int) (k : Nat) = [x0, x1, x2, x3, x4].getD k false := by decide +kernel
    have := key (decide (a > 0)) (decide (b > 0)) (decide (c > 0)) (decide (d > 0)) (decide (e > 0)) ⟨k, hk⟩
    simp only [decide_eq_true_eq] at this
    simp only [bits]
    rw [this]
    rcases (show k = 0 ∨ k = 1 ∨ k = 2 ∨ k = 3 ∨ k = 4 by omega) with rfl | rfl | rfl | rfl | rfl <;> rfl
theorem bits_sign {env : List Int} (h5 : env.length = 5) : isSign (bits env) = true := by
  have h1 := bits_nonneg env
  have h2 := bits_lt env
  rw [h5] at h2
  simp [isSign]; omega
end Sg

end Go.Proofs.YtgebjnoicgmdoaaGreatDoor

namespace Go.Proofs.YtgebjnoicgmdoaaGreatDoor.Nm
open Go.Proofs.YtgebjnoicgmdoaaGreatDoor.Lv

/-- the residual of atoms for a sign is one -/
theorem rnorm_rok {s : Int} {a : List At} (hs : Sg.isSign s = true) (h0 : a ≠ []) (hp : Pst s a) (h : AllOk a) : ROk s (rnorm a) := by
  refine ⟨hs, List.length_pos_iff.2 (rnorm_ne h0 h), rnorm_allOk h, incr_of_sorted (rnorm_sorted a), fun k hk => hp.rnorm _ (mem_getD hk), fun e => ?_⟩
  have hs := rnorm_sorted a
  rw [exceeds_mem]
  match hr : rnorm a, hs, e with
  | [], _, _ => intro x hx; simp at hx
  | q :: r, hs, e =>
    intro x hx
    simp only [List.drop_one, List.tail_cons] at hx
    have e' : q.1 = -1 := e
    have hq : q ∈ rnorm a := by rw [hr]; simp
    have hx' : x ∈ rnorm a := by rw [hr]; simp [hx]
    have hlt : q.1 < x.1 := (List.pairwise_cons.1 hs).1 x hx
    obtain ⟨_, _, q3, q4⟩ := mem_rnorm.1 hq
    obtain ⟨_, x2, x3, x4⟩ := mem_rnorm.1 hx'
    rw [e'] at q3 q4
    simp [keepR] at q3
    have hm := most_le a 5 x.1 (by omega) (by simpa using x2)
    have hc := keepR_cases x3
    have hn := best_nonneg h hc
    show x.2 < q.2 - 1
    have hmo : mo a = most a 5 + 1 := by unfold mo; rw [if_neg (by omega)]
    omega

/-- an env of a sign -/
def EnvOf (s : Int) (env : List Int) : Prop := Pos env ∧ (∀ p : Int, Sg.has s p = true → 1 ≤ env.getD p.toNat 0) ∧ (∀ p : Int, 0 ≤ p → p < 5 → Sg.has s p = false → env.getD p.toNat 0 = 0)
theorem has_bd {s p : Int} (h : Sg.has s p = true) : 0 ≤ p ∧ p < 5 := by unfold Sg.has at h; simp at h; omega
theorem value_rnorm {s : Int} {env : List Int} (he : EnvOf s env) {l : List At} (hp : Pst s l) (h : AllOk l) : value env (rnorm l) = value env l := by
  apply Int.le_antisymm
  · exact value_le (value_ge _ _) fun a ha => value_mem (rnorm_sub ha)
  · refine value_le (value_ge _ _) fun a ha => ?_
    obtain ⟨p, x⟩ := a
    have hb := h.mem ha
    have hbm := best_mem ha
    simp only at hb
    by_cases ep : p = -1
    · subst ep
      by_cases hm : mo l < best (-1) l
      · have h1 : ((-1 : Int), best (-1) l) ∈ rnorm l := mem_rnorm.2 ⟨by simp, by simp, by simp [keepR, hm], rfl⟩
        have h2 := value_mem (env := env) h1
        simp [val] at h2 ⊢
        omega
      · have hne : most l 5 ≠ -1 := by intro e; unfold mo at hm; rw [if_pos e] at hm; omega
        have hmo : mo l = most l 5 + 1 := by unfold mo; rw [if_neg hne]
        obtain ⟨q, q1, q2, q3⟩ := most_at l 5 hne
        have g := most_ge l 5
        have h1 : (q, best q l) ∈ rnorm l := mem_rnorm.2 ⟨by simp; omega, by simp; omega, by simp [keepR, show q ≠ -1 by omega]; omega, rfl⟩
        have h2 := value_mem (env := env) h1
        have hq := hp _ (rnorm_sub h1)
        simp only at hq
        have h4 : 1 ≤ env.getD q.toNat 0 := by
          rcases hq with e | e
          · omega
          · exact he.2.1 q e
        simp only [val, if_true] at h2 ⊢
        simp only [show ¬ q = -1 by omega, if_false] at h2
        omega
    · have h1 : (p, best p l) ∈ rnorm l := mem_rnorm.2 ⟨by simp; omega, by simp; omega, by simp [keepR, ep]; omega, rfl⟩
      have h2 := value_mem (env := env) h1
      simp only [val, ep, if_false] at h2 ⊢
      omega
theorem value_zero' {s : Int} {env : List Int} (he : EnvOf s env) {a : List At} (hp : Pst s a) (hok : AllOk a) : value env a = 0 ↔ zeroL a = true := by
  rw [zeroL_iff]
  constructor
  · intro h x hx
    have hv := value_mem (env := env) hx
    have hm := hok.mem hx
    rw [h] at hv
    obtain ⟨p, y⟩ := x
    unfold val at hv
    simp only at hv hm
    rcases hp _ hx with e | e
    · simp only at e
      subst e
      rw [if_pos rfl] at hv
      have : y = 0 := by omega
      rw [this]
    · simp only at e
      have hl := he.2.1 p e
      have hb := has_bd e
      rw [if_neg (by omega)] at hv
      omega
  · intro h
    have h1 := value_ge env a
    have h2 := value_le (env := env) (l := a) (v := 0) (by omega) (fun x hx => by rw [h x hx]; simp [val])
    omega
theorem wstep_val {s : Int} {env : List Int} (he : EnvOf s env) {t : Tk} {k : Nat} {st st' : List (List At)} (hk : k ≤ 999) (hf : WFine s k st) (h : wstep s t st = some st') : Lv.step env t (st.map (value env)) = some (st'.map (value env)) := by
  have hok : tkOk t = true := by
    unfold wstep at h
    split at h
    · assumption
    · cases h
  unfold wstep at h
  unfold Lv.step
  rw [if_pos hok] at h ⊢
  split at h
  · rename_i e
    cases h
    rw [if_pos e]
    simp [value, val]
  · rename_i e
    rw [if_neg e]
    split at h
    · rename_i e4
      cases h
      rw [if_pos e4]
      have h2 : 0 ≤ t.2 ∧ t.2 < 5 := by simp [tkOk] at hok; omega
      have hg := he.1.get t.2.toNat
      simp only [List.map_cons, Option.some.injEq, List.cons.injEq, and_true]
      unfold pl
      cases hh : Sg.has s t.2 with
      | true =>
        simp only [Bool.true_eq_false, and_false, if_false, value, val, show ¬ t.2 = -1 by omega]
        omega
      | false =>
        simp only [h2.1, and_self, if_true, value, val, he.2.2 t.2 h2.1 h2.2 hh]
        rfl
    · rename_i e4
      rw [if_neg e4]
      split at h
      · rename_i e1
        rw [if_pos e1]
        split at h
        · cases h
          rename_i a r
          have ha := hf a (by simp)
          simp only [List.map_cons]
          rw [value_up he.1 ha.1 (hf.allOk (by omega) (by simp)) (by omega)]
        · cases h
      · rename_i e1
        rw [if_neg e1]
        split at h
        · cases h
          rename_i b a r
          have hb := hf b (by simp)
          have hz := value_zero' he hb.2.1 (hf.allOk (by omega) (by simp))
          simp only [List.map_cons, Option.some.injEq, List.cons.injEq, and_true]
          by_cases hc : t.1 = 3 ∧ zeroL b = true
          · rw [if_pos hc, if_pos ⟨hc.1, hz.2 hc.2⟩]
            simp [value, val]
          · rw [if_neg hc, if_neg (fun hh => hc ⟨hh.1, hz.1 hh.2⟩), value_append]
        · cases h
theorem wrun_val {s : Int} {env : List Int} (he : EnvOf s env) {l : List Tk} {st : List (List At)} (hl : l.length ≤ 24) (h : wrun s l [] = some st) : Lv.run env l [] = some (st.map (value env)) := by
  have H : ∀ (l : List Tk) (k : Nat) (u st : List (List At)), k + l.length ≤ 999 → WFine s k u → wrun s l u = some st → Lv.run env l (u.map (value env)) = some (st.map (value env)) := by
    intro l
    induction l with
    | nil => intro k u st _ _ h; cases h; rfl
    | cons t r ih =>
      intro k u st hk hf h
      simp only [wrun] at h
      simp only [List.length_cons] at hk
      cases hs : wstep s t u with
      | none => rw [hs] at h; cases h
      | some u' =>
        rw [hs] at h
        simp only [Lv.run]
        rw [wstep_val he (k := k) (by omega) hf hs, Option.bind_some]
        exact ih (k + 1) u' st (by omega) (wfine_step hf hs) h
  exact H l 0 [] st (by omega) (by intro a ha; simp at ha) h
/-- the residual has the values of the level -/
theorem eval_resid {s : Int} {env : List Int} (he : EnvOf s env) {l : List Tk} (h : levelOk l = true) : Lv.eval env l = some (value env (rnorm (wl s l))) := by
  obtain ⟨a, ha⟩ := wrun_one (s := s) h
  have h' := h
  simp only [levelOk, Bool.and_eq_true, decide_eq_true_eq] at h'
  have hr := wrun_val he (by omega) ha
  have hf := wfine_run (k := 0) (fun a ha => by simp at ha) ha
  have hfa := hf a (by simp)
  have e := Lv.eval_of_run (env := env) (l := l) (v := value env a) (by omega) (by omega) (by simpa using hr)
  rw [e, wl_of ha, value_rnorm he hfa.2.1 (hf.allOk (by omega) (by simp))]
end Go.Proofs.YtgebjnoicgmdoaaGreatDoor.Nm

namespace Go.Proofs.YtgebjnoicgmdoaaGreatDoor
open Go.RowKit

set_option maxRecDepth 100000 in
set_option maxHeartbeats 800000 in
theorem numberIsNeeded_any (w : World) (B : Nat) (b off n c : Nat) (l : List (Int × Int)) (hB : B ≤ w.heap.size) (hl : TokR w B (some ⟨b, off, none⟩) n l) (hn : (n : Int) ≤ 140737488355328) (h1 : 1 ≤ n) (hnc : n ≤ c) (hok : Nm.AllOk l) :
    Calls Tryz.prog 125 #[.slice (some ⟨b, off, none⟩) n c] w fun e w' => e = .returned (.bool (Nm.exceeds ((l.getD 0 (0, 0)).2 - 1) (l.drop 1))) ∧ Below w.heap.size w w' := by
  obtain ⟨b', off', e, hb, hc⟩ := hl.2 (by omega)
  injection e with e
  injection e with e1 e2
  subst e1; subst e2
  obtain ⟨c1, c2⟩ := hc 0 (by omega)
  have h2 := (Nm.atOk_iff _).1 (hok 0 (by have := hl.1; omega))
  obtain ⟨x, hx⟩ : ∃ x, (l.getD 0 (0, 0)).2 = x := ⟨_, rfl⟩
  rw [hx] at c2 h2 ⊢
  obtain ⟨_, _, h3, h4⟩ := h2
  rw [Nat.zero_mul, Nat.add_zero] at c2
  obtain ⟨A', hsl, hA'⟩ := run_tail b off n c h1 hnc
  have HR := Lib.hid (hA' _ _ _ hl)
  have HNE := numberExceeds_any w.drew B (x - 1) A' (n - 1) (c - 1) (l.drop 1) hB HR.out (by omega)
  have HN := Lib.hid HNE
  have hi0 : 0 < n := by omega
  clear hc c1 hl hA' hx hok HNE
  go_enter Tryz.func125, Tryz.ntmps125
  go_wp2_with fail
  refine region_tail 7 (by kernel_rfl) (by kernel_rfl) ?_
  simp only [List.take_succ_cons, List.take_zero, List.drop_succ_cons, List.drop_zero]
  repeat still_step
  refine wpStill_nil ?_
  go_wp2_with fail
  refine (HN.out).mono ?_
  rintro e w3 ⟨rfl, hb3⟩
  have HB3 := Lib.hid ((Below.refl w.heap.size w).drew.trans hb3)
  go_wp2
  go_ret
  exact ⟨by rw [List.drop_one]; rfl, HB3.out⟩

end Go.Proofs.YtgebjnoicgmdoaaGreatDoor

namespace Go.Proofs.YtgebjnoicgmdoaaGreatDoor
open Go.RowKit

namespace Nm
/-- the atom y serves for x where positive parameters are at least 1 -/
def RFits (x y : At) : Prop := x.1 = y.1 ∧ x.2 ≤ y.2 ∨ x.1 = -1 ∧ 0 ≤ y.1 ∧ x.2 ≤ y.2 + 1
/-- some atom of b serves for x -/
def ratomLe (x : At) (b : List At) : Prop := ∃ k, k < b.length ∧ RFits x (b.getD k (0, 0))
open Classical in
noncomputable def residLe (s : Int) (a b : List At) : Bool := decide (ROk s a ∧ ROk s b ∧ ∀ k, k < a.length → ratomLe (a.getD k (0, 0)) b)
theorem residLe_iff (s : Int) (a b : List At) : residLe s a b = true ↔ ROk s a ∧ ROk s b ∧ ∀ k, k < a.length → ratomLe (a.getD k (0, 0)) b := by simp [residLe]
end Nm

end Go.Proofs.YtgebjnoicgmdoaaGreatDoor

namespace Go.Proofs.YtgebjnoicgmdoaaGreatDoor
namespace Nm

theorem rle_value {s : Int} {env : List Int} (he : EnvOf s env) {a b : List At} (hb : ROk s b) (h : ∀ k, k < a.length → ratomLe (a.getD k (0, 0)) b) : value env a ≤ value env b := by
  refine value_le (value_ge _ _) fun x hx => ?_
  obtain ⟨k, hk, rfl⟩ := getD_of_mem hx
  obtain ⟨j, hj, hf⟩ := h k hk
  have h3 := value_mem (env := env) (mem_getD hj)
  have h4 := hb.2.2.2.2.1 j hj
  generalize a.getD k (0, 0) = x at hf ⊢
  generalize b.getD j (0, 0) = y at hf h3 h4
  obtain ⟨p, u⟩ := x
  obtain ⟨q, v⟩ := y
  simp only [RFits] at hf h4
  rcases hf with ⟨rfl, h1⟩ | ⟨rfl, h1, h2⟩
  · by_cases ep : p = -1
    · simp only [val, ep, if_true] at h3 ⊢; omega
    · simp only [val, ep, if_false] at h3 ⊢; omega
  · rcases h4 with e | e
    · omega
    · have := he.2.1 q e
      simp only [val, if_true, show ¬ q = -1 by omega, if_false] at h3 ⊢
      omega

/-- the env of a sign that is great at p -/
def rpeak (s p : Int) : List Int := (List.range 5).map fun (i : Nat) => if Sg.has s i = true then (if (i : Int) = p then 1000 else 1) else 0
/-- the first k values of an env of a sign; where the answer is no, of the one that is great at p -/
def Part (s p : Int) (yes : Bool) (k : Nat) (env : List Int) : Prop := env.length = k ∧ ∀ j, j < k → (Sg.has s j = true → 1 ≤ env.getD j 0 ∧ env.getD j 0 ≤ 1000) ∧ (Sg.has s j = false → env.getD j 0 = 0) ∧ (yes = false → env.getD j 0 = (rpeak s p).getD j 0)
theorem Part.nil (s p : Int) (yes : Bool) : Part s p yes 0 [] := ⟨rfl, fun j hj => absurd hj (by omega)⟩
theorem Part.env {s p : Int} {yes : Bool} {env : List Int} (h : Part s p yes 5 env) : EnvOf s env ∧ envOk env = true := by
  have hall : ∀ x ∈ env, 0 ≤ x ∧ x ≤ 1000 := by
    intro x hx
    obtain ⟨j, hj, rfl⟩ := List.mem_iff_getElem.1 hx
    have h1 := h.2 j (by rw [← h.1]; exact hj)
    rw [List.getD_eq_getElem?_getD, List.getElem?_eq_getElem hj, Option.getD_some] at h1
    cases hh : Sg.has s j with
    | true => have := h1.1 hh; omega
    | false => have := h1.2.1 hh; omega
  refine ⟨⟨fun x hx => (hall x hx).1, fun p hp => ?_, fun p h0 h5' hp => ?_⟩, ?_⟩
  · have hb := has_bd hp
    exact ((h.2 p.toNat (by omega)).1 (by rw [show ((p.toNat : Nat) : Int) = p by omega]; exact hp)).1
  · exact (h.2 p.toNat (by omega)).2.1 (by rw [show ((p.toNat : Nat) : Int) = p by omega]; exact hp)
  · simp only [envOk, Bool.and_eq_true, decide_eq_true_eq, List.all_eq_true]
    exact ⟨h.1, fun x hx => hall x hx⟩
end Nm
end Go.Proofs.YtgebjnoicgmdoaaGreatDoor

namespace Go.Proofs.YtgebjnoicgmdoaaGreatDoor
open Go.RowKit

/-- a slice of levels: n cells below block B, each a slice of tokens that lie below B -/
def LvlR (w : World) (B : Nat) (A : Option Addr) (n : Nat) (ls : List (List (Int × Int))) : Prop :=
  ls.length = n ∧ (0 < n → ∃ b off, A = some ⟨b, off, none⟩ ∧ b < B ∧ ∀ k, k < n → ∃ Ak nk ck, w.cell? ⟨b, off + k, none⟩ = some (.slice Ak nk ck) ∧ TokR w B Ak nk (ls.getD k []) ∧ (nk : Int) ≤ 9223372036854775807)

theorem LvlR.below {w w' : World} {B : Nat} {A : Option Addr} {n : Nat} {ls : List (List (Int × Int))} (h : LvlR w B A n ls) (hb : Below B w w') : LvlR w' B A n ls :=
  ⟨h.1, fun h0 => by
    obtain ⟨b, off, rfl, hB, hc⟩ := h.2 h0
    refine ⟨b, off, rfl, hB, fun k hk => ?_⟩
    obtain ⟨Ak, nk, ck, c, t, m⟩ := hc k hk
    exact ⟨Ak, nk, ck, (hb.cell (p := ⟨b, off + k, none⟩) hB).trans c, t.below hb, m⟩⟩
theorem LvlR.more {w : World} {B B' : Nat} {A : Option Addr} {n : Nat} {ls : List (List (Int × Int))} (h : LvlR w B A n ls) (hB : B ≤ B') : LvlR w B' A n ls :=
  ⟨h.1, fun h0 => by
    obtain ⟨b, off, rfl, hb, hc⟩ := h.2 h0
    refine ⟨b, off, rfl, by omega, fun k hk => ?_⟩
    obtain ⟨Ak, nk, ck, c, t, m⟩ := hc k hk
    exact ⟨Ak, nk, ck, c, t.more hB, m⟩⟩

/-- what stands for one token -/
def piece (ls : List (List (Int × Int))) (t : Int × Int) : Option (List (Int × Int)) := if t.1 = 4 then (if t.2 < (ls.length : Int) then some (ls.getD t.2.toNat []) else none) else some [t]
def sub (ls : List (List (Int × Int))) : List (Int × Int) → Option (List (Int × Int))
  | [] => some []
  | t :: r => (piece ls t).bind fun p => (sub ls r).map fun q => p ++ q
end Go.Proofs.YtgebjnoicgmdoaaGreatDoor

namespace Go.Proofs.YtgebjnoicgmdoaaGreatDoor

theorem eval_some {env : List Int} {l : List (Int × Int)} (hok : Lv.levelOk l = true) : ∃ v, Lv.eval env l = some v := by
  obtain ⟨u, hu⟩ := Lv.run_of_ok (env := env) hok
  exact ⟨u, by unfold Lv.eval; rw [if_pos hok, hu]⟩
end Go.Proofs.YtgebjnoicgmdoaaGreatDoor
