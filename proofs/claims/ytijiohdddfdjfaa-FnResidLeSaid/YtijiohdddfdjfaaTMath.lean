/- The program's map of the greatest Offs, and whether its number is redundant. -/
/- The program's norm, read out of its map. -/
/- slices.Grow and Concat over slices of atoms. -/
/- NormOf and NormMax of the program and of the reference model. -/
/- NormUp, put together. -/
/- NormFree of the program: the leaves of a level. -/
/- NormFree of the program. -/
/- The program's leaf and join for a sign. -/
/- Plain facts: levels without imax that stand for lists of atoms, and how the program's joins for a sign keep to them. -/
import Derived.Test.YtijiohdddfdjfaaNUp
import Derived.Maps.RangeWalk
import Derived.Maps.OwnSet
import Derived.Test.YtijiohdddfdjfaaConcat
import Derived.Test.YtijiohdddfdjfaaAtLaws
import Derived.Test.YtijiohdddfdjfaaNNorm
import Derived.Test.YtijiohdddfdjfaaRsMath2
import Derived.Test.YtijiohdddfdjfaaDraw2
import Derived.Test.YtijiohdddfdjfaaLOk
import Derived.Test.YtijiohdddfdjfaaSgLev
import Derived.Test.YtijiohdddfdjfaaJoin

namespace Go.Proofs.Ytijiohdddfdjfaa
open Go.RowKit Go.Maps

theorem lawInt : Keyed Try.prog 3 := int_keyed Try.underlying3
theorem zeroInt (w : World) : (zeroValue 3).run Try.prog w = .ok (.int .i64 0) w := by kernel_rfl
abbrev ik (p : Int) : Lit := .int .i64 p
/-- the map D reads as: u tells its keys, o what stands at them -/
def Reads (D : DataW Unit) (u : Int → Bool) (o : Int → Int) : Prop := ∀ p : Int, Maps.has D (ik p) = u p ∧ (u p = true → ∀ z, D.atKey (ik p) z = .lit (.int .i64 (o p)))
def hasB (l : List (Int × Int)) (p : Int) : Bool := decide (0 ≤ Nm.best p l)
def GM (D : DataW Unit) (l : List (Int × Int)) : Prop := Reads D (hasB l) (fun p => Nm.best p l)

theorem gm_start : GM (.map []) [] := fun p => ⟨by simp [Maps.has, hasB, Nm.best], fun h => by simp [hasB, Nm.best] at h⟩
theorem ik_ne {p q : Int} (h : q ≠ p) : ik q ≠ ik p := by intro e; injection e with _ e; exact h e
theorem ik_key (p : Int) : WideAt.IsKeyLit (ik p) := trivial
theorem gm_step {D : DataW Unit} {l : List (Int × Int)} {k : Nat} {p x c : Int} (hk : k < l.length) (hp : l.getD k (0, 0) = (p, x)) (hx : 0 ≤ x) (h : GM D (l.take k)) (hD : IsMap D) (hc : D.atKey (ik p) (.lit (.int .i64 0)) = .lit (.int .i64 c)) :
    GM (D.put (ik p) (.lit (.int .i64 (if c < x then x else c)))) (l.take (k + 1)) := by
  intro q
  have hb := Nm.best_take q l k hk
  rw [hp] at hb
  simp only at hb
  have hge := Nm.best_ge q (l.take k)
  by_cases e : q = p
  · subst e
    rw [if_pos rfl] at hb
    have hcv : c = max (Nm.best q (l.take k)) 0 := by
      have h1 := h q
      by_cases hh : hasB (l.take k) q = true
      · have h2 : D.atKey (ik q) (.lit (.int .i64 0)) = .lit (.int .i64 (Nm.best q (l.take k))) := h1.2 hh (.lit (.int .i64 0))
        rw [h2] at hc
        injection hc with hc
        injection hc with _ hc
        simp [hasB] at hh
        omega
      · have h3 : Maps.has D (ik q) = false := by rw [h1.1]; simpa using hh
        rw [atKey_of_not_has h3] at hc
        injection hc with hc
        injection hc with _ hc
        simp [hasB] at hh
        omega
    have hv : (if c < x then x else c) = Nm.best q (l.take (k + 1)) := by rw [hb]; split <;> omega
    refine ⟨?_, fun _ z => ?_⟩
    · rw [has_put_same hD (ik_key q), hasB, hb]; symm; simp; omega
    · rw [atKey_put_same hD (ik_key q), hv]
  · rw [if_neg (fun h => e h.symm)] at hb
    have h1 := h q
    refine ⟨?_, fun hu z => ?_⟩
    · rw [has_put_other (ik_ne e), h1.1, hasB, hasB, hb]
    · rw [atKey_put_other (ik_ne e)]
      have := h1.2 (by rw [hasB] at hu ⊢; rw [hb] at hu; exact hu) z
      rw [this]
      show DataW.lit (.int .i64 (Nm.best q (l.take k))) = .lit (.int .i64 (Nm.best q (l.take (k + 1))))
      rw [hb]

/-- the number is redundant -/
def redB (l : List (Int × Int)) : Bool := decide (0 ≤ Nm.best (-1) l ∧ Nm.best (-1) l ≤ Nm.most l 5)

theorem gm_at {D : DataW Unit} {l : List (Int × Int)} (h : GM D l) {x c : Int} (hat : ∀ z, D.atKey (ik x) z = .lit (.int .i64 c)) : 0 ≤ Nm.best x l ∧ c = Nm.best x l := by
  have hh : Maps.has D (ik x) = true := has_true_of_atKey hat
  have h1 := h x
  rw [h1.1] at hh
  have h2 : D.atKey (ik x) (.lit (.int .i64 0)) = .lit (.int .i64 (Nm.best x l)) := h1.2 hh _
  rw [hat] at h2
  injection h2 with h2
  injection h2 with _ h2
  exact ⟨by simpa [hasB] using hh, h2⟩
theorem best_range {l : List (Int × Int)} (h : Nm.AllOk l) {p : Int} (hb : 0 ≤ Nm.best p l) : -1 ≤ p ∧ p < 5 := by
  have := h.mem (Nm.best_at (p := p) (l := l) (by omega))
  exact ⟨this.1, this.2.1⟩
theorem same_ik (a b : Int) : (ik a).sameKey (ik b) = decide (a = b) := by
  by_cases e : a = b
  · subst e; rw [(WideAt.sameKey_iff (ik_key a)).2 rfl]; simp
  · rw [Maps.sameKey_ne (ik_ne e)]; simp [e]

end Go.Proofs.Ytijiohdddfdjfaa

namespace Go.Proofs.Ytijiohdddfdjfaa
open Go.RowKit Go.Maps

def arrI (V : Nat → Int) : Array Value := #[.int .i64 (V 0), .int .i64 (V 1), .int .i64 (V 2), .int .i64 (V 3), .int .i64 (V 4), .int .i64 (V 5)]
def arrB (U : Nat → Bool) : Array Value := #[.bool (U 0), .bool (U 1), .bool (U 2), .bool (U 3), .bool (U 4), .bool (U 5)]
theorem six {k : Nat} (h : k < 6) : k = 0 ∨ k = 1 ∨ k = 2 ∨ k = 3 ∨ k = 4 ∨ k = 5 := by omega
theorem arrI_put (V : Nat → Int) (k : Nat) (h : k < 6) (v : Int) : (arrI V).setIfInBounds k (.int .i64 v) = arrI (fun i => if i = k then v else V i) := by
  rcases six h with rfl | rfl | rfl | rfl | rfl | rfl <;> rfl
theorem arrB_put (U : Nat → Bool) (k : Nat) (h : k < 6) (v : Bool) : (arrB U).setIfInBounds k (.bool v) = arrB (fun i => if i = k then v else U i) := by
  rcases six h with rfl | rfl | rfl | rfl | rfl | rfl <;> rfl
theorem arrI_at (V : Nat → Int) (k : Nat) (h : k < 6) : (arrI V)[k]? = some (.int .i64 (V k)) := by
  rcases six h with rfl | rfl | rfl | rfl | rfl | rfl <;> rfl
theorem arrB_at (U : Nat → Bool) (k : Nat) (h : k < 6) : (arrB U)[k]? = some (.bool (U k)) := by
  rcases six h with rfl | rfl | rfl | rfl | rfl | rfl <;> rfl
/-- what the two arrays hold while some entries are still to come -/
def Filled (u : Int → Bool) (o : Int → Int) (left : Lit → Bool) (V : Nat → Int) (U : Nat → Bool) : Prop :=
  ∀ i : Nat, i < 6 → U i = (u ((i : Int) - 1) && !left (ik ((i : Int) - 1))) ∧ (U i = true → V i = o ((i : Int) - 1))
theorem filled_step {u : Int → Bool} {o : Int → Int} {left : Lit → Bool} {V : Nat → Int} {U : Nat → Bool} {k : Nat} (h : Filled u o left V U) (hu : u ((k : Int) - 1) = true) :
    Filled u o (fun z => left z && !z.sameKey (ik ((k : Int) - 1))) (fun i => if i = k then o ((k : Int) - 1) else V i) (fun i => if i = k then true else U i) := by
  intro i hi
  by_cases e : i = k
  · subst e
    simp [same_ik, hu]
  · have := h i hi
    have hne : ¬ ((i : Int) - 1 = (k : Int) - 1) := by omega
    simp only [e, if_false, same_ik, hne, decide_false, Bool.not_false, Bool.and_true]
    exact this

theorem readOut_take (u : Int → Bool) (o : Int → Int) (k : Nat) : Nm.readOut u o (k + 1) = Nm.readOut u o k ++ if u ((k : Int) - 1) = true then [((k : Int) - 1, o ((k : Int) - 1))] else [] := rfl

end Go.Proofs.Ytijiohdddfdjfaa

namespace Go.Proofs.Ytijiohdddfdjfaa
open Go.RowKit

/-- a call gives back a slice of tokens of its own that is not nil -/
def ResAt (w : World) (l : List (Int × Int)) (e : Ending) (w' : World) : Prop :=
  ∃ g c, e = .returned (.slice (some ⟨g, 0, none⟩) l.length c) ∧ OwnA w' w.heap.size (some ⟨g, 0, none⟩) l.length c l ∧ Below w.heap.size w w'

end Go.Proofs.Ytijiohdddfdjfaa

namespace Go.Proofs.Ytijiohdddfdjfaa
open Go.RowKit Go.Maps

theorem normOf_no {l : List (Int × Int)} (h : ¬ (1 ≤ l.length ∧ l.length ≤ 100 ∧ Nm.AllOk l)) : Nm.normOf l = none := by unfold Nm.normOf; rw [if_neg h]
theorem normOf_yes {l : List (Int × Int)} (h : 1 ≤ l.length ∧ l.length ≤ 100 ∧ Nm.AllOk l) : Nm.normOf l = some (Nm.norm l) := by unfold Nm.normOf; rw [if_pos h]

/-- the keys that are left, where the number is redundant -/
def cutB (l : List (Int × Int)) (p : Int) : Bool := if p = -1 then false else hasB l p
theorem cut_reads {D : DataW Unit} {l : List (Int × Int)} (h : GM D l) : Reads (D.del (ik (-1))) (cutB l) (fun p => Nm.best p l) := by
  intro p
  by_cases e : p = -1
  · subst e
    exact ⟨by rw [has_del_same]; simp [cutB], fun h => by simp [cutB] at h⟩
  · have h1 := h p
    refine ⟨by rw [has_del_other (ik_ne e), h1.1]; simp [cutB, e], fun hu z => ?_⟩
    rw [atKey_del_other (ik_ne e)]
    exact h1.2 (by simpa [cutB, e] using hu) z
theorem keep_of_red {l : List (Int × Int)} (h : redB l = true) : Nm.readOut (cutB l) (fun p => Nm.best p l) 6 = Nm.norm l := by
  rw [← Nm.readOut_norm]
  refine Nm.readOut_congr 6 fun p h1 h2 => ⟨?_, fun _ => rfl⟩
  simp only [redB, decide_eq_true_eq] at h
  unfold cutB Nm.keepB hasB
  split
  · symm; simp; omega
  · rfl
theorem keep_of_not {l : List (Int × Int)} (h : redB l = false) : Nm.readOut (hasB l) (fun p => Nm.best p l) 6 = Nm.norm l := by
  rw [← Nm.readOut_norm]
  refine Nm.readOut_congr 6 fun p h1 h2 => ⟨?_, fun _ => rfl⟩
  simp only [redB, decide_eq_false_iff_not] at h
  have g1 := Nm.most_ge l 5
  have g2 := Nm.best_ge (-1) l
  unfold Nm.keepB hasB
  split
  · rename_i e; subst e
    rw [decide_eq_decide]
    omega
  · rfl

end Go.Proofs.Ytijiohdddfdjfaa

namespace Go.Proofs.Ytijiohdddfdjfaa
open Go.RowKit

theorem ok_small {l : List (Int × Int)} (h : Nm.AllOk l) : Small l := fun j hj => by have := (Nm.atOk_iff _).1 (h j hj); omega
theorem normUp_no {l : List (Int × Int)} {x : Int} (h : ¬ (Nm.normOk l = true ∧ 0 ≤ x ∧ x ≤ 1000 ∧ Nm.normOk (Nm.up x l) = true)) : Nm.normUp l x = none := if_neg h
theorem normUp_yes {l : List (Int × Int)} {x : Int} (h : Nm.normOk l = true ∧ 0 ≤ x ∧ x ≤ 1000 ∧ Nm.normOk (Nm.up x l) = true) : Nm.normUp l x = some (Nm.up x l) := if_pos h
theorem up_len (l : List (Int × Int)) (x : Int) : (Nm.up x l).length = l.length := by simp [Nm.up]

/-- the first j of the atoms are raised -/
def Half (l m : List (Int × Int)) (x : Int) (j : Nat) : Prop := m.length = l.length ∧ ∀ i, i < l.length → m.getD i (0, 0) = if i < j then ((l.getD i (0, 0)).1, (l.getD i (0, 0)).2 + x) else l.getD i (0, 0)
theorem half_start (l : List (Int × Int)) (x : Int) : Half l l x 0 := ⟨rfl, fun i _ => by simp⟩
theorem half_step {l m : List (Int × Int)} {x : Int} {j : Nat} (h : Half l m x j) (hj : j < l.length) {p y : Int} (hp : l.getD j (0, 0) = (p, y)) : Half l (m.set j (p, y + x)) x (j + 1) := by
  refine ⟨by rw [List.length_set]; exact h.1, fun i hi => ?_⟩
  by_cases e : i = j
  · subst e
    rw [if_pos (by omega), hp]
    simp [List.getD_eq_getElem?_getD, h.1, hj]
  · have := h.2 i hi
    rw [List.getD_eq_getElem?_getD, List.getElem?_set_ne (by omega), ← List.getD_eq_getElem?_getD, this]
    by_cases hij : i < j
    · rw [if_pos hij, if_pos (by omega)]
    · rw [if_neg hij, if_neg (by omega)]
theorem half_end {l m : List (Int × Int)} {x : Int} (h : Half l m x l.length) : m = Nm.up x l := by
  apply List.ext_getElem (by rw [up_len]; exact h.1)
  intro i h1 h2
  have := h.2 i (by rw [← h.1]; exact h1)
  rw [if_pos (by rw [← h.1]; exact h1)] at this
  have hl : i < l.length := by rw [← h.1]; exact h1
  simpa [Nm.up, List.getD_eq_getElem?_getD, List.getElem?_eq_getElem h1, List.getElem?_eq_getElem hl] using this
theorem half_at {l m : List (Int × Int)} {x : Int} {j : Nat} (h : Half l m x j) (hj : j < l.length) : m[j]? = some (l.getD j (0, 0)) := by
  have := h.2 j hj
  rw [if_neg (by omega)] at this
  rw [← this, List.getD_eq_getElem?_getD, List.getElem?_eq_getElem (by rw [h.1]; exact hj)]
  rfl

end Go.Proofs.Ytijiohdddfdjfaa

namespace Go.Proofs.Ytijiohdddfdjfaa
open Go.RowKit

/-- the places of the first atoms of a pile's lists, bottom first -/
def starts : List (List (Int × Int)) → List Int
  | [] => []
  | _ :: s => starts s ++ [((s.flatten.length : Nat) : Int)]
theorem starts_len (st : List (List (Int × Int))) : (starts st).length = st.length := by
  induction st with
  | nil => rfl
  | cons a s ih => simp [starts, ih]
/-- the atoms of a pile, bottom first -/
def pileAt (st : List (List (Int × Int))) : List (Int × Int) := st.reverse.flatten
theorem pileAt_cons (a : List (Int × Int)) (s : List (List (Int × Int))) : pileAt (a :: s) = pileAt s ++ a := by simp [pileAt]
theorem pileAt_len (st : List (List (Int × Int))) : (pileAt st).length = st.flatten.length := by
  induction st with
  | nil => rfl
  | cons a s ih => rw [pileAt_cons, List.length_append, ih, List.flatten_cons, List.length_append]; omega
theorem starts_cons (a : List (Int × Int)) (s : List (List (Int × Int))) : starts (a :: s) = starts s ++ [((pileAt s).length : Int)] := by rw [pileAt_len]; rfl
theorem pileAt_max (a b : List (Int × Int)) (s : List (List (Int × Int))) : pileAt ((a ++ b) :: s) = pileAt (b :: a :: s) := by rw [pileAt_cons, pileAt_cons, pileAt_cons, List.append_assoc]

theorem pstep_ok {t : Int × Int} {st st' : List (List (Int × Int))} (h : Nm.pstep t st = some st') : Lv.tkOk t = true := by
  unfold Nm.pstep at h
  split at h
  · assumption
  · cases h
theorem pstep_zero {y : Int} {st st' : List (List (Int × Int))} (h : Nm.pstep (0, y) st = some st') : st' = [(-1, 0)] :: st := by
  have hk := pstep_ok h
  simp only [Nm.pstep, hk, if_true] at h
  injection h with h
  exact h.symm
theorem pstep_par {y : Int} {st st' : List (List (Int × Int))} (h : Nm.pstep (4, y) st = some st') : st' = [(y, 0)] :: st := by
  have hk := pstep_ok h
  simp [Nm.pstep, hk] at h
  exact h.symm
theorem pstep_succ {y : Int} {st st' : List (List (Int × Int))} (h : Nm.pstep (1, y) st = some st') : ∃ a s, st = a :: s ∧ st' = Nm.up 1 a :: s := by
  have hk := pstep_ok h
  rcases st with _ | ⟨a, s⟩
  · simp [Nm.pstep, hk] at h
  · simp [Nm.pstep, hk] at h
    exact ⟨a, s, rfl, h.symm⟩
theorem pstep_max {y : Int} {st st' : List (List (Int × Int))} (h : Nm.pstep (2, y) st = some st') : ∃ a b s, st = b :: a :: s ∧ st' = (a ++ b) :: s := by
  have hk := pstep_ok h
  rcases st with _ | ⟨b, _ | ⟨a, s⟩⟩
  · simp [Nm.pstep, hk] at h
  · simp [Nm.pstep, hk] at h
  · simp [Nm.pstep, hk] at h
    exact ⟨a, b, s, rfl, h.symm⟩

theorem own_form {w : World} {base : Nat} {e : TypeId} {size n : Nat} {v : Value} {xs : List Value} (h : w.ownsRow base e size v n xs) (hn : 0 < n) : ∃ g c, v = .slice (some ⟨g, 0, none⟩) n c := by
  rcases h.2 with ⟨_, h0⟩ | ⟨g, c, _, hv, _⟩
  · omega
  · exact ⟨g, c, hv⟩
theorem own_new {w : World} {base : Nat} {e : TypeId} {size n : Nat} {v : Value} {xs : List Value} (h : w.ownsRow base e size v n xs) : some w.heap.size ≠ v.ownBlock :=
  fun he => absurd (h.lt _ he.symm).2 (Nat.lt_irrefl _)
/-- rows of two kinds lie apart -/
theorem own_apartK {w : World} {base base' : Nat} {e e' : TypeId} {size size' n n' : Nat} {v u : Value} {xs ys : List Value} (h : w.ownsRow base e size v n xs) (h' : w.ownsRow base' e' size' u n' ys) (hne : e ≠ e') : v.ownBlock = none ∨ v.ownBlock ≠ u.ownBlock := by
  cases hv : v.ownBlock with
  | none => exact .inl rfl
  | some g =>
    refine .inr (fun hu => ?_)
    obtain ⟨cs, hb⟩ := own_blk h g hv
    obtain ⟨cs', hb'⟩ := own_blk h' g hu.symm
    exact (hb.apart hb' hne) rfl
theorem own_take {w : World} {base g n m c : Nat} {e : TypeId} {xs : List Value} (h : w.ownsRow base e 1 (.slice (some ⟨g, 0, none⟩) n c) n xs) (hm : m ≤ n) : w.ownsRow base e 1 (.slice (some ⟨g, 0, none⟩) m c) m (xs.take m) := by
  have hl := h.1
  refine ⟨by rw [List.length_take]; omega, ?_⟩
  rcases h.2 with ⟨h0, _⟩ | ⟨g', cap, cur, hv, hb, hh, hnc, hc, hs, ht⟩
  · cases h0
  · injection hv with hv1 hv2 hv3
    injection hv1 with hv1
    injection hv1 with hv1
    subst hv1; subst hv3
    refine .inr ⟨g, c, cur, rfl, hb, hh, by omega, hc, hs, ?_⟩
    rw [← ht, List.take_take]
    congr 1
    omega
theorem put_grown (w : World) (g i : Nat) (u : Value) : w.grownBy (w.setCell ⟨g, i, none⟩ u) (some g) :=
  ⟨rfl, rfl, rfl, by rw [World.size_setCell]; exact Nat.le_refl _, fun k _ hn => Below.heap_setCell w ⟨g, i, none⟩ u k (fun e => hn (by rw [e]))⟩
theorem news_one (w : World) (o : Obj) (v : Value) (t : TypeId) : ∀ j u, [v][j]? = some u → ((w.alloc o).alloc (.cells #[v] t)).cell? ((⟨w.heap.size + 1, 0, none⟩ : Addr).add j) = some u := by
  have h := cell_one_new (w.alloc o) v t
  rw [World.size_alloc] at h
  exact h
theorem leafs_of {l : List (Int × Int)} {a : List (Int × Int)} (h : Nm.prun l [] = some [a]) : Nm.leafs l = a := by rw [Nm.leafs, h]; rfl

end Go.Proofs.Ytijiohdddfdjfaa

namespace Go.Proofs.Ytijiohdddfdjfaa
open Go.RowKit

theorem hts_tk {l : List (Int × Int)} {n m : Int} (h : Lv.hts l n = some m) : ∀ t ∈ l, Lv.tkOk t = true := by
  induction l generalizing n with
  | nil => intro t ht; cases ht
  | cons a r ih =>
    simp only [Lv.hts] at h
    split at h
    · rename_i hc
      intro t ht
      rcases List.mem_cons.1 ht with rfl | ht
      · exact hc.1
      · exact ih h t ht
    · cases h
theorem no3_of {l : List (Int × Int)} (h : Lv.levelOk l = true) (hm : (3, 0) ∉ l) : ∀ t ∈ l, t.1 ≠ 3 := by
  simp only [Lv.levelOk, Bool.and_eq_true, decide_eq_true_eq] at h
  intro t ht e
  have hk := hts_tk h.2 t ht
  obtain ⟨a, b⟩ := t
  simp only at e
  subst e
  simp [Lv.tkOk] at hk
  have hb : b = 0 := by omega
  subst hb
  exact hm ht
theorem freeR_no {l : List (Int × Int)} (h : ¬ (Lv.levelOk l = true ∧ ∀ t ∈ l, t.1 ≠ 3)) : Nm.freeR l = none := if_neg h
theorem freeR_yes {l : List (Int × Int)} (h : Lv.levelOk l = true ∧ ∀ t ∈ l, t.1 ≠ 3) : Nm.freeR l = some (Nm.norm (Nm.leafs l)) := if_pos h
theorem ok_lenN {l : List (Int × Int)} (h : Lv.levelOk l = true) : 1 ≤ l.length ∧ l.length ≤ 24 := by
  simp only [Lv.levelOk, Bool.and_eq_true, decide_eq_true_eq] at h
  exact h.1
/-- the leaves of a right level without imax are few and right -/
theorem leafs_ok {l : List (Int × Int)} (h : Lv.levelOk l = true) (h3 : ∀ t ∈ l, t.1 ≠ 3) : 1 ≤ (Nm.leafs l).length ∧ (Nm.leafs l).length ≤ 24 ∧ Nm.AllOk (Nm.leafs l) := by
  obtain ⟨a, ha⟩ := Nm.prun_one h h3
  have hl := ok_lenN h
  have hf := Nm.fine_run ha
  have hn := Nm.flat_run ha
  rw [leafs_of ha]
  simp at hn
  refine ⟨List.length_pos_iff.2 (hf a (by simp)).1, by omega, hf.allOk (by omega) (by simp)⟩

end Go.Proofs.Ytijiohdddfdjfaa

namespace Go.Proofs.Ytijiohdddfdjfaa
open Go.RowKit

/-- a leaf for a sign -/
def leafT (s : Int) (t : Int × Int) : Int × Int := if t.1 = 4 ∧ Sg.has s t.2 = false then (0, 0) else t
/-- a join for a sign -/
def joinT (s op : Int) (a b : List (Int × Int)) : List (Int × Int) := if op = 3 ∧ lsgR b s = 0 then [(0, 0)] else a ++ (b ++ [(2, 0)])

end Go.Proofs.Ytijiohdddfdjfaa

namespace Go.Proofs.Ytijiohdddfdjfaa
open Go.Proofs.Ytijiohdddfdjfaa.Lv

namespace Nm
theorem pstep_frame {t : Tk} {u x st : List (List At)} (h : pstep t u = some x) : pstep t (u ++ st) = some (x ++ st) := by
  unfold pstep at h ⊢
  by_cases hok : tkOk t = true
  · rw [if_pos hok] at h ⊢
    by_cases h0 : t.1 = 0
    · rw [if_pos h0] at h ⊢; injection h with h; subst h; rfl
    · rw [if_neg h0] at h ⊢
      by_cases h4 : t.1 = 4
      · rw [if_pos h4] at h ⊢; injection h with h; subst h; rfl
      · rw [if_neg h4] at h ⊢
        by_cases h1 : t.1 = 1
        · rw [if_pos h1] at h ⊢
          match u, h with
          | a :: r, h => simp only at h; injection h with h; subst h; rfl
          | [], h => simp at h
        · rw [if_neg h1] at h ⊢
          by_cases h2 : t.1 = 2
          · rw [if_pos h2] at h ⊢
            match u, h with
            | b :: a :: r, h => simp only at h; injection h with h; subst h; rfl
            | [b], h => simp at h
            | [], h => simp at h
          · rw [if_neg h2] at h; cases h
  · rw [if_neg hok] at h; cases h
theorem prun_frame {l : List Tk} (st : List (List At)) : ∀ {u x : List (List At)}, prun l u = some x → prun l (u ++ st) = some (x ++ st) := by
  induction l with
  | nil => intro u x h; simp only [prun] at h ⊢; injection h with h; subst h; rfl
  | cons t r ih =>
    intro u x h
    simp only [prun] at h ⊢
    cases hq : pstep t u with
    | none => rw [hq] at h; cases h
    | some y =>
      rw [hq, Option.bind_some] at h
      rw [pstep_frame hq, Option.bind_some]
      exact ih h
/-- a level without imax whose leaves are these atoms -/
def TRel (ts : List Tk) (a : List At) : Prop := prun ts [] = some [a] ∧ ∀ t ∈ ts, t.1 ≠ 3
theorem TRel.ok {ts : List Tk} {a : List At} (h : TRel ts a) (hl : ts.length ≤ 24) : levelOk ts = true := by
  have h1 := prun_height h.2 []
  rw [h.1] at h1
  have hn : 1 ≤ ts.length := by
    cases ts with
    | nil => have := h.1; simp [prun] at this
    | cons => simp
  simp only [levelOk, Bool.and_eq_true, decide_eq_true_eq]
  exact ⟨⟨hn, hl⟩, by simpa using h1.symm⟩
theorem TRel.pos {ts : List Tk} {a : List At} (h : TRel ts a) : 1 ≤ ts.length := by
  cases ts with
  | nil => have := h.1; simp [prun] at this
  | cons => simp
theorem trel_zero : TRel [(0, 0)] [(-1, 0)] := ⟨by decide, by simp⟩
theorem trel_leaf {s y : Int} (h0 : 0 ≤ y) (h5 : y < 5) : TRel [leafT s (4, y)] [pl s (y, 0)] := by
  unfold leafT pl
  cases hh : Sg.has s y with
  | true =>
    simp only [Bool.true_eq_false, and_false, if_false]
    refine ⟨?_, by simp⟩
    simp [prun, pstep, tkOk, h0, h5]
  | false =>
    simp only [and_self, if_true, h0]
    exact trel_zero
theorem trel_succ {ts : List Tk} {a : List At} (h : TRel ts a) : TRel (ts ++ [(1, 0)]) (up 1 a) := by
  refine ⟨?_, fun t ht => ?_⟩
  · rw [prun_append, h.1]; rfl
  · rcases List.mem_append.1 ht with ht | ht
    · exact h.2 t ht
    · obtain rfl : t = (1, 0) := by simpa using ht
      simp
theorem trel_join {ta tb : List Tk} {a b : List At} (ha : TRel ta a) (hb : TRel tb b) : TRel (ta ++ (tb ++ [(2, 0)])) (a ++ b) := by
  refine ⟨?_, fun t ht => ?_⟩
  · rw [prun_append, ha.1, Option.bind_some, prun_append]
    have := prun_frame [a] hb.1
    rw [List.nil_append] at this
    rw [this]; rfl
  · rcases List.mem_append.1 ht with ht | ht
    · exact ha.2 t ht
    · rcases List.mem_append.1 ht with ht | ht
      · exact hb.2 t ht
      · obtain rfl : t = (2, 0) := by simpa using ht
        simp
theorem least_pos (s : Int) : Pos (Sg.least s) := fun x hx => ((envOk_mem (Sg.least_ok s)).2 x hx).1
theorem least_has {s p : Int} (h : Sg.has s p = true) : (Sg.least s).getD p.toNat 0 = 1 := by
  have hp : 0 ≤ p ∧ p < 5 := by unfold Sg.has at h; simp at h; omega
  rw [Sg.least_get s p.toNat (by omega)]
  unfold Sg.bit
  rw [show ((p.toNat : Nat) : Int) = p by omega, h, if_pos rfl]
theorem value_zero {s : Int} {a : List At} (hp : Pst s a) (hok : AllOk a) : value (Sg.least s) a = 0 ↔ zeroL a = true := by
  rw [zeroL_iff]
  constructor
  · intro h x hx
    have hv := value_mem (env := Sg.least s) hx
    have hm := hok.mem hx
    rw [h] at hv
    obtain ⟨p, y⟩ := x
    unfold val at hv
    simp only at hv hm
    rcases hp _ hx with e | e
    · simp only at e
      subst e
      rw [if_pos rfl] at hv
      have : y = 0 := by omega
      rw [this]
    · simp only at e
      have hl := least_has e
      have hpp : p ≠ -1 := by intro h; subst h; simp [Sg.has] at e
      rw [if_neg hpp, hl] at hv
      omega
  · intro h
    have h1 := value_ge (Sg.least s) a
    have h2 := value_le (env := Sg.least s) (l := a) (v := 0) (by omega) (fun x hx => by rw [h x hx]; simp [val])
    omega
theorem lsg_zero {s : Int} {ts : List Tk} {a : List At} (h : TRel ts a) (hl : ts.length ≤ 24) (hs : Sg.isSign s = true) (hp : Pst s a) (hok : AllOk a) : lsgR ts s = 0 ↔ zeroL a = true := by
  have hlo := h.ok hl
  have he := eval_leafs (least_pos s) hlo h.2
  rw [leafs_of h.1, value_norm (least_pos s) hok] at he
  rw [lsgR_some hs (v := value (Sg.least s) a) (by simp [evalR, Sg.least_ok, he]), ← value_zero hp hok]
  have := value_ge (Sg.least s) a
  omega
/-- rows of tokens that stand for the pile, both with their tops first -/
def TS : List (List Tk) → List (List At) → Prop
  | [], [] => True
  | t :: ts, a :: st => TRel t a ∧ TS ts st
  | _, _ => False
theorem TS.len : ∀ {ts : List (List Tk)} {st : List (List At)}, TS ts st → ts.length = st.length
  | [], [], _ => rfl
  | _ :: ts, _ :: st, h => by rw [List.length_cons, List.length_cons, TS.len h.2]
  | [], _ :: _, h => h.elim
  | _ :: _, [], h => h.elim
/-- the program's pile behind a token -/
theorem ts_join {s op : Int} {ta tb : List Tk} {a b : List At} (ha : TRel ta a) (hb : TRel tb b) (hl : tb.length ≤ 24) (hs : Sg.isSign s = true) (hp : Pst s b) (hok : AllOk b) : TRel (joinT s op ta tb) (if op = 3 ∧ zeroL b = true then [(-1, 0)] else a ++ b) := by
  unfold joinT
  have hz := lsg_zero hb hl hs hp hok
  by_cases h : op = 3 ∧ zeroL b = true
  · rw [if_pos h, if_pos ⟨h.1, hz.2 h.2⟩]; exact trel_zero
  · rw [if_neg h, if_neg (fun hh => h ⟨hh.1, hz.1 hh.2⟩)]; exact trel_join ha hb
theorem joinT_len (s op : Int) (ta tb : List Tk) : (joinT s op ta tb).length ≤ ta.length + tb.length + 1 := by
  unfold joinT
  split <;> simp <;> omega
theorem joinT_pos (s op : Int) (ta tb : List Tk) : 1 ≤ (joinT s op ta tb).length := by
  unfold joinT
  split <;> simp <;> omega
end Nm
end Go.Proofs.Ytijiohdddfdjfaa
