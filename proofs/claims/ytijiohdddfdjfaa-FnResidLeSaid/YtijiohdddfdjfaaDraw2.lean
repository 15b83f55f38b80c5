/- slices.Contains over tokens; LevelParams of the program and of the reference model. -/
/- LevelParams of the program and of the reference model. -/
/- LevelParams of the reference model. -/
/- LevelOff of the program and of the reference model; the law of LevelOff. -/
/- Plain facts on levels: evaluation looks at the parameters alone, and is bounded. -/
/- Slices of levels: how they are read, substitution in plain lists, levelsOk of the program. -/
/- The law FnParams: the walk. -/
/- The model's cursor: environments; the draw of LevelEval. -/
import Derived.Test.YtijiohdddfdjfaaMarks
import Derived.Test.YtijiohdddfdjfaaSpec
import Derived.Test.YtijiohdddfdjfaaEvalLaw
import Derived.Test.YtijiohdddfdjfaaSucc
import Derived.Test.YtijiohdddfdjfaaDraw1

namespace Go.Proofs.Ytijiohdddfdjfaa
open Go.RowKit

theorem mem_getD {l : List (Int × Int)} {t : Int × Int} {k : Nat} (hk : k < l.length) (h : l.getD k (0, 0) = t) : t ∈ l := by
  rw [List.getD_eq_getElem?_getD, List.getElem?_eq_getElem hk, Option.getD_some] at h
  rw [← h]; exact List.getElem_mem hk
theorem not_mem_of {l : List (Int × Int)} {t : Int × Int} (h : ∀ j, j < l.length → l.getD j (0, 0) ≠ t) : t ∉ l := by
  intro hm
  obtain ⟨j, hj, e⟩ := List.mem_iff_getElem.1 hm
  apply h j hj
  rw [List.getD_eq_getElem?_getD, List.getElem?_eq_getElem hj, Option.getD_some, e]

/-- what Index answers: a place of t, or -1 -/
def IndexOut (w : World) (l : List (Int × Int)) (t : Int × Int) (e : Ending) (w' : World) : Prop :=
  ∃ r : Int, e = .returned (.int .i64 r) ∧ Below w.heap.size w w' ∧ (t ∈ l → 0 ≤ r) ∧ (t ∉ l → r = -1) ∧ -1 ≤ r ∧ r ≤ 1048576

end Go.Proofs.Ytijiohdddfdjfaa

namespace Go.Proofs.Ytijiohdddfdjfaa
open Go.RowKit

/-- the parameters below p that stand in l -/
def prmsTo (l : List (Int × Int)) (p : Nat) : List Int := ((List.range p).filter fun q => decide ((4, ((q : Nat) : Int)) ∈ l)).map Int.ofNat
def prms (l : List (Int × Int)) : List Int := if Lv.levelOk l = true then prmsTo l 5 else []
theorem prmsTo_zero (l : List (Int × Int)) : prmsTo l 0 = [] := rfl
theorem prmsTo_yes {l : List (Int × Int)} {p : Nat} (h : (4, (p : Int)) ∈ l) : prmsTo l (p + 1) = prmsTo l p ++ [(p : Int)] := by
  simp [prmsTo, List.range_succ, List.filter_append, h]
theorem prmsTo_no {l : List (Int × Int)} {p : Nat} (h : (4, (p : Int)) ∉ l) : prmsTo l (p + 1) = prmsTo l p := by
  simp [prmsTo, List.range_succ, List.filter_append, h]
theorem prmsTo_len (l : List (Int × Int)) (p : Nat) : (prmsTo l p).length ≤ p := by
  simp only [prmsTo, List.length_map]
  exact Nat.le_trans (List.length_filter_le _ _) (by simp)

/-- a call gives back a slice of numbers of its own -/
def ResI (w : World) (l : List Int) (e : Ending) (w' : World) : Prop :=
  ∃ A c, e = .returned (.slice A l.length c) ∧ OwnI w' w.heap.size A l.length c l ∧ Below w.heap.size w w'

end Go.Proofs.Ytijiohdddfdjfaa

namespace Go.Proofs.Ytijiohdddfdjfaa
open Go.RowKit

end Go.Proofs.Ytijiohdddfdjfaa

namespace Go.Proofs.Ytijiohdddfdjfaa
open Go.RowKit

end Go.Proofs.Ytijiohdddfdjfaa

namespace Go.Proofs.Ytijiohdddfdjfaa

theorem step_congr {e1 e2 : List Int} {t : Int × Int} {st : List Int} (h : t.1 = 4 → e1.getD t.2.toNat 0 = e2.getD t.2.toNat 0) : Lv.step e1 t st = Lv.step e2 t st := by
  unfold Lv.step
  by_cases h4 : t.1 = 4
  · rw [h h4]
  · simp [h4]
theorem run_congr {e1 e2 : List Int} {l : List (Int × Int)} (h : ∀ t ∈ l, t.1 = 4 → e1.getD t.2.toNat 0 = e2.getD t.2.toNat 0) : ∀ st, Lv.run e1 l st = Lv.run e2 l st := by
  induction l with
  | nil => intro st; rfl
  | cons t r ih =>
    intro st
    simp only [Lv.run]
    rw [step_congr (h t (List.mem_cons_self ..))]
    congr 1
    funext s
    exact ih (fun u hu => h u (List.mem_cons_of_mem _ hu)) s
theorem eval_congr {e1 e2 : List Int} {l : List (Int × Int)} (h : ∀ t ∈ l, t.1 = 4 → e1.getD t.2.toNat 0 = e2.getD t.2.toNat 0) : Lv.eval e1 l = Lv.eval e2 l := by
  unfold Lv.eval
  rw [run_congr h]

theorem getD_le {env : List Int} {b : Int} (hb : 0 ≤ b) (henv : ∀ x ∈ env, x ≤ b) (i : Nat) : env.getD i 0 ≤ b := by
  rw [List.getD_eq_getElem?_getD]
  cases hg : env[i]? with
  | none => simpa using hb
  | some x => simpa using henv x (List.mem_of_getElem? hg)
theorem step_bound {env : List Int} {t : Int × Int} {st st' : List Int} {b : Int} (hb : 0 ≤ b) (henv : ∀ x ∈ env, x ≤ b) (hst : ∀ x ∈ st, x ≤ b) (h : Lv.step env t st = some st') :
    ∀ x ∈ st', x ≤ b + if t.1 = 1 then 1 else 0 := by
  unfold Lv.step at h
  split at h
  · split at h
    · rename_i h0
      injection h with h
      subst h
      intro x hx
      rw [if_neg (by omega)]
      rcases List.mem_cons.1 hx with rfl | hx
      · omega
      · have := hst x hx; omega
    · split at h
      · rename_i h4
        injection h with h
        subst h
        intro x hx
        rw [if_neg (by omega)]
        rcases List.mem_cons.1 hx with rfl | hx
        · have := getD_le hb henv t.2.toNat; omega
        · have := hst x hx; omega
      · split at h
        · rename_i h1
          rw [if_pos h1]
          cases st with
          | nil => cases h
          | cons a s =>
            simp only at h
            injection h with h
            subst h
            intro x hx
            rcases List.mem_cons.1 hx with rfl | hx
            · have := hst a (List.mem_cons_self ..); omega
            · have := hst x (List.mem_cons_of_mem _ hx); omega
        · rename_i h1
          rw [if_neg h1]
          match st, h with
          | c :: a :: s, h =>
            simp only at h
            injection h with h
            subst h
            intro x hx
            have h2 := hst c (List.mem_cons_self ..)
            have h3 := hst a (List.mem_cons_of_mem _ (List.mem_cons_self ..))
            rcases List.mem_cons.1 hx with rfl | hx
            · split
              · omega
              · omega
            · have := hst x (List.mem_cons_of_mem _ (List.mem_cons_of_mem _ hx)); omega
  · cases h
theorem run_bound {env : List Int} : ∀ (l : List (Int × Int)) (st st' : List Int) (b : Int), 0 ≤ b → (∀ x ∈ env, x ≤ b) → (∀ x ∈ st, x ≤ b) → Lv.run env l st = some st' → ∀ x ∈ st', x ≤ b + succs l := by
  intro l
  induction l with
  | nil =>
    intro st st' b hb henv hst h x hx
    simp only [Lv.run] at h
    injection h with h
    subst h
    have := hst x hx
    simpa [succs] using this
  | cons t r ih =>
    intro st st' b hb henv hst h x hx
    simp only [Lv.run] at h
    cases hs : Lv.step env t st with
    | none => rw [hs] at h; cases h
    | some s =>
      rw [hs, Option.bind_some] at h
      have h1 := step_bound hb henv hst hs
      have hc : succs (t :: r) = succs r + if t.1 = 1 then 1 else 0 := by
        unfold succs
        by_cases e : t.1 = 1 <;> simp [e]
      have h2 := ih s st' (b + if t.1 = 1 then 1 else 0) (by split <;> omega) (fun y hy => by have := henv y hy; split <;> omega) h1 h x hx
      rw [hc]
      omega
theorem eval_bound {env : List Int} {l : List (Int × Int)} {v b : Int} (hb : 0 ≤ b) (henv : ∀ x ∈ env, x ≤ b) (h : Lv.eval env l = some v) : v ≤ b + succs l := by
  unfold Lv.eval at h
  split at h
  · cases hr : Lv.run env l [] with
    | none => rw [hr] at h; cases h
    | some s =>
      rw [hr] at h
      match s, h with
      | [u], h =>
        simp only at h
        injection h with h
        subst h
        exact run_bound l [] [u] b hb henv (fun x hx => by cases hx) hr u (List.mem_cons_self ..)
  · cases h

theorem prms_get {l : List (Int × Int)} {k : Nat} (hk : k < (prms l).length) : ∃ q : Nat, q < 5 ∧ (prms l).getD k 0 = (q : Int) := by
  have hm : (prms l).getD k 0 ∈ prms l := by
    rw [List.getD_eq_getElem?_getD, List.getElem?_eq_getElem hk]
    exact List.getElem_mem hk
  generalize (prms l).getD k 0 = p at hm
  unfold prms at hm
  split at hm
  · unfold prmsTo at hm
    obtain ⟨q, hq, rfl⟩ := List.mem_map.1 hm
    exact ⟨q, List.mem_range.1 (List.mem_filter.1 hq).1, rfl⟩
  · cases hm
theorem prms_mem {l : List (Int × Int)} {q : Nat} (hok : Lv.levelOk l = true) (hq : q < 5) (h : (4, (q : Int)) ∈ l) : ∃ k, k < (prms l).length ∧ (prms l).getD k 0 = (q : Int) := by
  have hm : (q : Int) ∈ prms l := by
    unfold prms
    rw [if_pos hok]
    unfold prmsTo
    refine List.mem_map.2 ⟨q, List.mem_filter.2 ⟨List.mem_range.2 hq, by simpa using h⟩, rfl⟩
  obtain ⟨k, hk, e⟩ := List.mem_iff_getElem.1 hm
  exact ⟨k, hk, by rw [List.getD_eq_getElem?_getD, List.getElem?_eq_getElem hk]; exact e⟩
end Go.Proofs.Ytijiohdddfdjfaa

namespace Go.Proofs.Ytijiohdddfdjfaa
open Go.RowKit

/-- a slice of levels: n cells below block B, each a slice of tokens that lie below B -/
def LvlR (w : World) (B : Nat) (A : Option Addr) (n : Nat) (ls : List (List (Int × Int))) : Prop :=
  ls.length = n ∧ (0 < n → ∃ b off, A = some ⟨b, off, none⟩ ∧ b < B ∧ ∀ k, k < n → ∃ Ak nk ck, w.cell? ⟨b, off + k, none⟩ = some (.slice Ak nk ck) ∧ TokR w B Ak nk (ls.getD k []) ∧ (nk : Int) ≤ 9223372036854775807)

theorem LvlR.below {w w' : World} {B : Nat} {A : Option Addr} {n : Nat} {ls : List (List (Int × Int))} (h : LvlR w B A n ls) (hb : Below B w w') : LvlR w' B A n ls :=
  ⟨h.1, fun h0 => by
    obtain ⟨b, off, rfl, hB, hc⟩ := h.2 h0
    refine ⟨b, off, rfl, hB, fun k hk => ?_⟩
    obtain ⟨Ak, nk, ck, c, t, m⟩ := hc k hk
    exact ⟨Ak, nk, ck, (hb.cell (p := ⟨b, off + k, none⟩) hB).trans c, t.below hb, m⟩⟩
theorem LvlR.more {w : World} {B B' : Nat} {A : Option Addr} {n : Nat} {ls : List (List (Int × Int))} (h : LvlR w B A n ls) (hB : B ≤ B') : LvlR w B' A n ls :=
  ⟨h.1, fun h0 => by
    obtain ⟨b, off, rfl, hb, hc⟩ := h.2 h0
    refine ⟨b, off, rfl, by omega, fun k hk => ?_⟩
    obtain ⟨Ak, nk, ck, c, t, m⟩ := hc k hk
    exact ⟨Ak, nk, ck, c, t.more hB, m⟩⟩

/-- the tokens of all levels together -/
def tot (ls : List (List (Int × Int))) : Nat := (ls.map List.length).sum
def bulk (ls : List (List (Int × Int))) : Nat := ls.length + tot ls
theorem tot_take (ls : List (List (Int × Int))) (k : Nat) (hk : k < ls.length) : tot (ls.take (k + 1)) = tot (ls.take k) + (ls.getD k []).length := by
  unfold tot
  rw [List.take_succ_eq_append_getElem hk, List.map_append, List.sum_append]
  congr 1
  simp [List.getD_eq_getElem?_getD, List.getElem?_eq_getElem hk]
theorem tot_le (ls : List (List (Int × Int))) (k : Nat) : tot (ls.take k) ≤ tot ls := by
  unfold tot
  have h : ls.map List.length = (ls.take k).map List.length ++ (ls.drop k).map List.length := by rw [← List.map_append, List.take_append_drop]
  rw [h, List.sum_append]; exact Nat.le_add_right _ _
theorem tot_get (ls : List (List (Int × Int))) (k : Nat) (hk : k < ls.length) : (ls.getD k []).length ≤ tot ls := by
  have h1 := tot_take ls k hk
  have h2 := tot_le ls (k + 1)
  omega

/-- what stands for one token -/
def piece (ls : List (List (Int × Int))) (t : Int × Int) : Option (List (Int × Int)) := if t.1 = 4 then (if t.2 < (ls.length : Int) then some (ls.getD t.2.toNat []) else none) else some [t]
def sub (ls : List (List (Int × Int))) : List (Int × Int) → Option (List (Int × Int))
  | [] => some []
  | t :: r => (piece ls t).bind fun p => (sub ls r).map fun q => p ++ q
theorem sub_append (ls : List (List (Int × Int))) (a b : List (Int × Int)) : sub ls (a ++ b) = (sub ls a).bind fun p => (sub ls b).map fun q => p ++ q := by
  induction a with
  | nil => simp [sub]
  | cons t r ih =>
    simp only [List.cons_append, sub, ih]
    cases piece ls t with
    | none => rfl
    | some p =>
      cases sub ls r with
      | none => rfl
      | some q => cases sub ls b <;> simp
theorem sub_take {ls : List (List (Int × Int))} {l : List (Int × Int)} {k : Nat} {a p : List (Int × Int)} (hk : k < l.length) (ha : sub ls (l.take k) = some a) (hp : piece ls (l.getD k (0, 0)) = some p) : sub ls (l.take (k + 1)) = some (a ++ p) := by
  have hg : l.getD k (0, 0) = l[k] := by simp [List.getD_eq_getElem?_getD, List.getElem?_eq_getElem hk]
  rw [hg] at hp
  rw [List.take_succ_eq_append_getElem hk, sub_append, ha]
  simp [sub, hp]
theorem sub_none {ls : List (List (Int × Int))} {l : List (Int × Int)} {k : Nat} (hk : k < l.length) (hp : piece ls (l.getD k (0, 0)) = none) : sub ls l = none := by
  have hg : l.getD k (0, 0) = l[k] := by simp [List.getD_eq_getElem?_getD, List.getElem?_eq_getElem hk]
  rw [hg] at hp
  rw [← List.take_append_drop k l, sub_append, List.drop_eq_getElem_cons hk]
  cases sub ls (List.take k l) with
  | none => rfl
  | some a => simp [sub, hp]

/-- LevelSubst's answer -/
def substR (l : List (Int × Int)) (ls : List (List (Int × Int))) : Option (List (Int × Int)) :=
  if Lv.levelOk l = true ∧ ls.all Lv.levelOk = true then (sub ls l).bind ifR else none

theorem hts_all {l : List (Int × Int)} {n m : Int} (h : Lv.hts l n = some m) : ∀ t ∈ l, Lv.tkOk t = true := by
  induction l generalizing n with
  | nil => intro t ht; cases ht
  | cons t r ih =>
    rw [Lv.hts] at h
    by_cases hc : Lv.tkOk t = true ∧ Lv.takes t.1 ≤ n
    · rw [if_pos hc] at h
      intro u hu
      rcases List.mem_cons.1 hu with rfl | hu
      · exact hc.1
      · exact ih h u hu
    · rw [if_neg hc] at h; cases h
/-- a token of a level is right: the number of a parameter is 0 .. 4 -/
theorem ok_tk {l : List (Int × Int)} (h : Lv.levelOk l = true) {k : Nat} (hk : k < l.length) {a b : Int} (hg : l.getD k (0, 0) = (a, b)) : 0 ≤ b ∧ b < 5 := by
  simp only [Lv.levelOk, Bool.and_eq_true, decide_eq_true_eq] at h
  have hm : (a, b) ∈ l := by
    rw [← hg, List.getD_eq_getElem?_getD, List.getElem?_eq_getElem hk]
    exact List.getElem_mem hk
  have := hts_all h.2 _ hm
  simp [Lv.tkOk] at this
  omega
theorem all_get {ls : List (List (Int × Int))} {k : Nat} (h : ls.all Lv.levelOk = true) (hk : k < ls.length) : Lv.levelOk (ls.getD k []) = true := by
  rw [List.getD_eq_getElem?_getD, List.getElem?_eq_getElem hk]
  exact List.all_eq_true.1 h _ (List.getElem_mem hk)
theorem all_of {ls : List (List (Int × Int))} (h : ∀ j, j < ls.length → Lv.levelOk (ls.getD j []) = true) : ls.all Lv.levelOk = true := by
  rw [List.all_eq_true]
  intro x hx
  obtain ⟨i, hi, rfl⟩ := List.mem_iff_getElem.1 hx
  have := h i hi
  rwa [List.getD_eq_getElem?_getD, List.getElem?_eq_getElem hi] at this
theorem not_all {ls : List (List (Int × Int))} {k : Nat} (hk : k < ls.length) (h : Lv.levelOk (ls.getD k []) = false) : ls.all Lv.levelOk = false := by
  cases he : ls.all Lv.levelOk with
  | false => rfl
  | true => rw [all_get he hk] at h; cases h

end Go.Proofs.Ytijiohdddfdjfaa

namespace Go.Proofs.Ytijiohdddfdjfaa
open Go.RowKit

theorem own_not {a b : World} {base g : Nat} {e : TypeId} {size n : Nat} {v : Value} {xs : List Value} (h : a.ownsRow base e size v n xs) (hk : Kp g a b) (hne : ∀ k, v.ownBlock = some k → k ≠ g) : b.ownsRow base e size v n xs :=
  h.kept hk (by
    cases hv : v.ownBlock with
    | none => exact .inl rfl
    | some k =>
      refine .inr (fun he => ?_)
      injection he with he
      exact hne k hv he)
theorem ownI_put {w : World} {base g n c i : Nat} {l : List Int} (h : OwnI w base (some ⟨g, 0, none⟩) n c l) (v : Int) : OwnI (w.setCell ⟨g, i, none⟩ (.int .i64 v)) base (some ⟨g, 0, none⟩) n c (l.set i v) := by
  obtain ⟨hlen, hc⟩ := h
  rcases hc with ⟨h0, _⟩ | ⟨g', cap, cur, hv, hb, hh, hnc, hm, hs, ht⟩
  · cases h0
  · injection hv with hv1 hv2 hv3
    injection hv1 with hv1
    injection hv1 with hv1
    subst hv1 hv3
    have hblk : Blk w g 3 cur := hh
    refine ⟨by simpa using hlen, .inr ⟨g, c, _, rfl, hb, hblk.put i _, hnc, hm, by simp [hs], ?_⟩⟩
    rw [Array.toList_setIfInBounds, List.take_set, ht, List.map_set]
theorem ownI_spot {w : World} {base g n c i : Nat} {l : List Int} (h : OwnI w base (some ⟨g, 0, none⟩) n c l) (hi : i < n) : w.cell? ⟨g, i, none⟩ = some (.int .i64 (l.getD i 0)) ∧ w.frozen? ⟨g, i, none⟩ = false := by
  have hr := OwnI.reads h
  obtain ⟨b, off, hA, hb, hc⟩ := hr.2 (by omega)
  injection hA with hA
  injection hA with hA1 hA2
  subst hA1 hA2
  refine ⟨by have := hc i hi; rwa [Nat.zero_add] at this, ?_⟩
  obtain ⟨_, hcs⟩ := h
  rcases hcs with ⟨h0, _⟩ | ⟨g', cap, cur, hv, _, hh, _⟩
  · cases h0
  · injection hv with hv1 hv2 hv3
    injection hv1 with hv1
    injection hv1 with hv1
    subst hv1
    have hblk : Blk w g 3 cur := hh
    exact hblk.thawed i
theorem set_mem {l : List Int} {i : Nat} {v m : Int} (h : ∀ x ∈ l, 0 ≤ x ∧ x ≤ m) (hv : 0 ≤ v ∧ v ≤ m) : ∀ x ∈ l.set i v, 0 ≤ x ∧ x ≤ m := by
  intro x hx
  rcases List.mem_or_eq_of_mem_set hx with h1 | rfl
  · exact h x h1
  · exact hv
theorem getD_mem {l : List Int} {m : Int} (h : ∀ x ∈ l, 0 ≤ x ∧ x ≤ m) (hm : 0 ≤ m) (i : Nat) : 0 ≤ l.getD i 0 ∧ l.getD i 0 ≤ m := by
  rw [List.getD_eq_getElem?_getD]
  cases hg : l[i]? with
  | none => simpa using hm
  | some x => simpa using h x (List.mem_of_getElem? hg)
theorem envOk_of {env : List Int} {m : Int} (h5 : env.length = 5) (h : ∀ x ∈ env, 0 ≤ x ∧ x ≤ m) (hm : m ≤ 1000) : envOk env = true := by
  simp only [envOk, Bool.and_eq_true, decide_eq_true_eq, List.all_eq_true]
  exact ⟨h5, fun x hx => by have := h x hx; omega⟩
theorem prms_le (l : List (Int × Int)) : (prms l).length ≤ 5 := by
  unfold prms
  split
  · exact prmsTo_len l 5
  · simp

end Go.Proofs.Ytijiohdddfdjfaa

namespace Go.Proofs.Ytijiohdddfdjfaa
open Go.RowKit

end Go.Proofs.Ytijiohdddfdjfaa
