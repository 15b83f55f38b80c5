/- Plain facts on levels: evaluation looks at the parameters alone, and is bounded. -/
/- Slices of levels: how they are read, substitution in plain lists, levelsOk of the program. -/
/- The laws' work on slices of levels: their size, a copy. -/
/- The model's cursor: slices of levels; the draw of LevelSubst. -/
import Derived.Test.YtgebjnoicgmdoaaDoorParams
import Derived.Test.YtgebjnoicgmdoaaDoorMarks
import Derived.Test.YtgebjnoicgmdoaaDoorSpec
import Derived.Test.YtgebjnoicgmdoaaDoorSucc

namespace Go.Proofs.YtgebjnoicgmdoaaDoor

theorem getD_le {env : List Int} {b : Int} (hb : 0 ≤ b) (henv : ∀ x ∈ env, x ≤ b) (i : Nat) : env.getD i 0 ≤ b := by
  rw [List.getD_eq_getElem?_getD]
  cases hg : env[i]? with
  | none => simpa using hb
  | some x => simpa using henv x (List.mem_of_getElem? hg)
theorem step_bound {env : List Int} {t : Int × Int} {st st' : List Int} {b : Int} (hb : 0 ≤ b) (henv : ∀ x ∈ env, x ≤ b) (hst : ∀ x ∈ st, x ≤ b) (h : Lv.step env t st = some st') :
    ∀ x ∈ st', x ≤ b + if t.1 = 1 then 1 else 0 := by
  unfold Lv.step at h
  split at h
  · split at h
    · rename_i h0
      injection h with h
      subst h
      intro x hx
      rw [if_neg (by omega)]
      rcases List.mem_cons.1 hx with rfl | hx
      · omega
      · have := hst x hx; omega
    · split at h
      · rename_i h4
        injection h with h
        subst h
        intro x hx
        rw [if_neg (by omega)]
        rcases List.mem_cons.1 hx with rfl | hx
        · have := getD_le hb henv t.2.toNat; omega
        · have := hst x hx; omega
      · split at h
        · rename_i h1
          rw [if_pos h1]
          cases st with
          | nil => cases h
          | cons a s =>
            simp only at h
            injection h with h
            subst h
            intro x hx
            rcases List.mem_cons.1 hx with rfl | hx
            · have := hst a (List.mem_cons_self ..); omega
            · have := hst x (List.mem_cons_of_mem _ hx); omega
        · rename_i h1
          rw [if_neg h1]
          match st, h with
          | c :: a :: s, h =>
            simp only at h
            injection h with h
            subst h
            intro x hx
            have h2 := hst c (List.mem_cons_self ..)
            have h3 := hst a (List.mem_cons_of_mem _ (List.mem_cons_self ..))
            rcases List.mem_cons.1 hx with rfl | hx
            · split
              · omega
              · omega
            · have := hst x (List.mem_cons_of_mem _ (List.mem_cons_of_mem _ hx)); omega
  · cases h
theorem run_bound {env : List Int} : ∀ (l : List (Int × Int)) (st st' : List Int) (b : Int), 0 ≤ b → (∀ x ∈ env, x ≤ b) → (∀ x ∈ st, x ≤ b) → Lv.run env l st = some st' → ∀ x ∈ st', x ≤ b + succs l := by
  intro l
  induction l with
  | nil =>
    intro st st' b hb henv hst h x hx
    simp only [Lv.run] at h
    injection h with h
    subst h
    have := hst x hx
    simpa [succs] using this
  | cons t r ih =>
    intro st st' b hb henv hst h x hx
    simp only [Lv.run] at h
    cases hs : Lv.step env t st with
    | none => rw [hs] at h; cases h
    | some s =>
      rw [hs, Option.bind_some] at h
      have h1 := step_bound hb henv hst hs
      have hc : succs (t :: r) = succs r + if t.1 = 1 then 1 else 0 := by
        unfold succs
        by_cases e : t.1 = 1 <;> simp [e]
      have h2 := ih s st' (b + if t.1 = 1 then 1 else 0) (by split <;> omega) (fun y hy => by have := henv y hy; split <;> omega) h1 h x hx
      rw [hc]
      omega
theorem eval_bound {env : List Int} {l : List (Int × Int)} {v b : Int} (hb : 0 ≤ b) (henv : ∀ x ∈ env, x ≤ b) (h : Lv.eval env l = some v) : v ≤ b + succs l := by
  unfold Lv.eval at h
  split at h
  · cases hr : Lv.run env l [] with
    | none => rw [hr] at h; cases h
    | some s =>
      rw [hr] at h
      match s, h with
      | [u], h =>
        simp only at h
        injection h with h
        subst h
        exact run_bound l [] [u] b hb henv (fun x hx => by cases hx) hr u (List.mem_cons_self ..)
  · cases h

end Go.Proofs.YtgebjnoicgmdoaaDoor

namespace Go.Proofs.YtgebjnoicgmdoaaDoor
open Go.RowKit

/-- a slice of levels: n cells below block B, each a slice of tokens that lie below B -/
def LvlR (w : World) (B : Nat) (A : Option Addr) (n : Nat) (ls : List (List (Int × Int))) : Prop :=
  ls.length = n ∧ (0 < n → ∃ b off, A = some ⟨b, off, none⟩ ∧ b < B ∧ ∀ k, k < n → ∃ Ak nk ck, w.cell? ⟨b, off + k, none⟩ = some (.slice Ak nk ck) ∧ TokR w B Ak nk (ls.getD k []) ∧ (nk : Int) ≤ 9223372036854775807)

theorem LvlR.below {w w' : World} {B : Nat} {A : Option Addr} {n : Nat} {ls : List (List (Int × Int))} (h : LvlR w B A n ls) (hb : Below B w w') : LvlR w' B A n ls :=
  ⟨h.1, fun h0 => by
    obtain ⟨b, off, rfl, hB, hc⟩ := h.2 h0
    refine ⟨b, off, rfl, hB, fun k hk => ?_⟩
    obtain ⟨Ak, nk, ck, c, t, m⟩ := hc k hk
    exact ⟨Ak, nk, ck, (hb.cell (p := ⟨b, off + k, none⟩) hB).trans c, t.below hb, m⟩⟩
theorem LvlR.more {w : World} {B B' : Nat} {A : Option Addr} {n : Nat} {ls : List (List (Int × Int))} (h : LvlR w B A n ls) (hB : B ≤ B') : LvlR w B' A n ls :=
  ⟨h.1, fun h0 => by
    obtain ⟨b, off, rfl, hb, hc⟩ := h.2 h0
    refine ⟨b, off, rfl, by omega, fun k hk => ?_⟩
    obtain ⟨Ak, nk, ck, c, t, m⟩ := hc k hk
    exact ⟨Ak, nk, ck, c, t.more hB, m⟩⟩

/-- the tokens of all levels together -/
def tot (ls : List (List (Int × Int))) : Nat := (ls.map List.length).sum
def bulk (ls : List (List (Int × Int))) : Nat := ls.length + tot ls
theorem tot_take (ls : List (List (Int × Int))) (k : Nat) (hk : k < ls.length) : tot (ls.take (k + 1)) = tot (ls.take k) + (ls.getD k []).length := by
  unfold tot
  rw [List.take_succ_eq_append_getElem hk, List.map_append, List.sum_append]
  congr 1
  simp [List.getD_eq_getElem?_getD, List.getElem?_eq_getElem hk]
theorem tot_le (ls : List (List (Int × Int))) (k : Nat) : tot (ls.take k) ≤ tot ls := by
  unfold tot
  have h : ls.map List.length = (ls.take k).map List.length ++ (ls.drop k).map List.length := by rw [← List.map_append, List.take_append_drop]
  rw [h, List.sum_append]; exact Nat.le_add_right _ _
theorem tot_get (ls : List (List (Int × Int))) (k : Nat) (hk : k < ls.length) : (ls.getD k []).length ≤ tot ls := by
  have h1 := tot_take ls k hk
  have h2 := tot_le ls (k + 1)
  omega

/-- what stands for one token -/
def piece (ls : List (List (Int × Int))) (t : Int × Int) : Option (List (Int × Int)) := if t.1 = 4 then (if t.2 < (ls.length : Int) then some (ls.getD t.2.toNat []) else none) else some [t]
def sub (ls : List (List (Int × Int))) : List (Int × Int) → Option (List (Int × Int))
  | [] => some []
  | t :: r => (piece ls t).bind fun p => (sub ls r).map fun q => p ++ q
end Go.Proofs.YtgebjnoicgmdoaaDoor

namespace Go.Proofs.YtgebjnoicgmdoaaDoor
open Go.RowKit

theorem info_level : (Tryd.prog.info? 37).map (fun i => (i.zero, i.size, i.bytes)) = some (some (.agg #[.slice none 0 0]), 1, 24) := by kernel_rfl

theorem TokOwn.tl {w : World} {g n : Nat} {l : List (Int × Int)} (h : TokOwn w g n l) : g < w.heap.size := by obtain ⟨_, cs, hblk, _⟩ := h; exact hblk.lt
theorem TokOwn.put {w : World} {g n : Nat} {l : List (Int × Int)} (h : TokOwn w g n l) {p : Addr} (hp : g ≠ p.block) (u : Value) : TokOwn (w.setCell p u) g n l := by
  obtain ⟨hl, cs, hblk, rest⟩ := h
  exact ⟨hl, cs, hblk.other hp u, rest⟩

/-- block g is a row of just n levels, those of ls, each with a row of tokens of its own; all of it lies in g .. hi - 1 -/
def LvlOwn (w : World) (g hi n : Nat) (ls : List (List (Int × Int))) : Prop :=
  ls.length = n ∧ g < hi ∧ hi ≤ w.heap.size ∧ ∃ gs : Nat → Nat, (∀ i, i < n → g < gs i ∧ gs i < hi) ∧ (∀ i j, i < j → j < n → gs i < gs j) ∧
    (∃ cs, Blk w g 37 cs ∧ cs.size = n ∧ ∀ i, i < n → cs[i]? = some (.slice (some ⟨gs i, 0, none⟩) (ls.getD i []).length (ls.getD i []).length)) ∧ ∀ i, i < n → TokOwn w (gs i) (ls.getD i []).length (ls.getD i [])

theorem LvlOwn.lt {w : World} {g hi n : Nat} {ls : List (List (Int × Int))} (h : LvlOwn w g hi n ls) : g + 1 ≤ w.heap.size := by have := h.2.1; have := h.2.2.1; omega
theorem LvlOwn.below {w w' : World} {g hi n B : Nat} {ls : List (List (Int × Int))} (h : LvlOwn w g hi n ls) (hb : Below B w w') (hB : hi ≤ B) : LvlOwn w' g hi n ls := by
  obtain ⟨h1, h2, h3, gs, h4, h5, ⟨cs, hblk, hs, hc⟩, h7⟩ := h
  have := hb.size
  exact ⟨h1, h2, by omega, gs, h4, h5, ⟨cs, hblk.below hb (by omega), hs, hc⟩, fun i hi' => (h7 i hi').below hb (by have := (h4 i hi').2; omega)⟩
theorem LvlOwn.reads {w : World} {g hi n : Nat} {ls : List (List (Int × Int))} (h : LvlOwn w g hi n ls) (hm : bulk ls ≤ 1048576) : LvlR w hi (some ⟨g, 0, none⟩) n ls := by
  obtain ⟨h1, h2, _, gs, h4, _, ⟨cs, hblk, hs, hc⟩, h7⟩ := h
  refine ⟨h1, fun _ => ⟨g, 0, rfl, h2, fun k hk => ⟨some ⟨gs k, 0, none⟩, (ls.getD k []).length, (ls.getD k []).length, ?_, (h7 k hk).reads.more (by have := (h4 k hk).2; omega), ?_⟩⟩⟩
  · rw [Nat.zero_add, hblk.cell]; exact hc k hk
  · have := tot_get ls k (by omega)
    unfold bulk at hm
    omega

theorem TokOwn.lt {w : World} {g n : Nat} {l : List (Int × Int)} (h : TokOwn w g n l) : g + 1 ≤ w.heap.size := h.tl
theorem TokOwn.mark {w w' : World} {g n base m k size : Nat} {e : TypeId} {v : Value} {l : List (Int × Int)} {lo hi : Nat} (h : TokOwn w g n l) (hm : MarkOut w base e size v m k w') (hv : InR v lo hi) (hd : g < lo ∨ hi ≤ g) : TokOwn w' g n l := by
  have hlt := h.lt
  obtain ⟨hl, cs, hblk, rest⟩ := h
  refine ⟨hl, cs, ?_, rest⟩
  exact (hm.1.block g (by omega) (fun he => by have := hv g he.symm; omega)).trans hblk
theorem LvlOwn.mark {w w' : World} {g h' n base m k size : Nat} {e : TypeId} {v : Value} {ls : List (List (Int × Int))} {lo hi : Nat} (h : LvlOwn w g h' n ls) (hm : MarkOut w base e size v m k w') (hv : InR v lo hi) (hd : h' ≤ lo ∨ hi ≤ g) : LvlOwn w' g h' n ls := by
  obtain ⟨h1, h2, h3, gs, h4, h5, ⟨cs, hblk, hs, hc⟩, h7⟩ := h
  exact ⟨h1, h2, by rw [hm.2.1]; exact h3, gs, h4, h5, ⟨cs, hblk.grown hm.1 (fun he => by have := hv g he.symm; omega), hs, hc⟩, fun i hi' => (h7 i hi').mark hm hv (by have := h4 i hi'; omega)⟩

/-- nothing outside of g .. hi - 1 has turned -/
def LKept (w : World) (g hi : Nat) (wr : World) : Prop :=
  (∀ (B : Nat) (w0 : World), Below B w0 w → B ≤ g → Below B w0 wr) ∧
  (∀ (base : Nat) (e : TypeId) (size n : Nat) (u : Value) (xs : List Value) (lo' hi' : Nat), w.ownsRow base e size u n xs → InR u lo' hi' → (hi ≤ lo' ∨ hi' ≤ g) → wr.ownsRow base e size u n xs) ∧ wr.heap.size = w.heap.size
theorem LKept.below {w wr : World} {g hi : Nat} (h : LKept w g hi wr) {B : Nat} {w0 : World} (hb : Below B w0 w) (hB : B ≤ g) : Below B w0 wr := h.1 B w0 hb hB
theorem LKept.kept {w wr : World} {g hi : Nat} (h : LKept w g hi wr) {base : Nat} {e : TypeId} {size n : Nat} {u : Value} {xs : List Value} {lo' hi' : Nat} (hu : w.ownsRow base e size u n xs) (hi1 : InR u lo' hi') (hd : hi ≤ lo' ∨ hi' ≤ g) : wr.ownsRow base e size u n xs :=
  h.2.1 base e size n u xs lo' hi' hu hi1 hd
theorem LKept.size {w wr : World} {g hi : Nat} (h : LKept w g hi wr) : w.heap.size ≤ wr.heap.size := by rw [h.2.2]; exact Nat.le_refl _
theorem LKept.step {w wr w1 : World} {g hi base size n k : Nat} {e : TypeId} {v : Value} {lo h' : Nat} (h : LKept w g hi wr) (hg : g ≤ w.heap.size) (hm : MarkOut wr base e size v n k w1) (hv : InR v lo h') (h1 : g ≤ lo) (h2 : h' ≤ hi) : LKept w g hi w1 :=
  ⟨fun B w0 hb hB => markBelow (h.1 B w0 hb hB) hm hv (by omega) (by rw [h.2.2]; omega), fun base' e' size' n' u xs lo' hi' hu hi1 hd => markKept (h.kept hu hi1 hd) hm hv hi1 (by omega), by rw [hm.2.1, h.2.2]⟩

end Go.Proofs.YtgebjnoicgmdoaaDoor

namespace Go.Proofs.YtgebjnoicgmdoaaDoor
open Go.RowKit

/-- a row of levels of one's own, each with a row of tokens of its own -/
def LvlD (w : World) (base g k cap : Nat) (ls : List (List (Int × Int))) : Prop :=
  ls.length = k ∧ ∃ vals : List Value, w.ownsRow base 37 1 (.slice (some ⟨g, 0, none⟩) k cap) k vals ∧
    ∀ i, i < k → ∃ gi ci, vals[i]? = some (.slice (some ⟨gi, 0, none⟩) (ls.getD i []).length ci) ∧ OwnT w base (some ⟨gi, 0, none⟩) (ls.getD i []).length ci (ls.getD i []) ∧ (ls.getD i []).length ≤ 25
theorem LvlD.kp {bc base g k cap : Nat} {w w' : World} {ls : List (List (Int × Int))} (h : LvlD w base g k cap ls) (hk : Kp bc w w') (hb : bc < base) : LvlD w' base g k cap ls := by
  obtain ⟨h1, vals, h2, h3⟩ := h
  refine ⟨h1, vals, Kp.own h2 hk hb, fun i hi => ?_⟩
  obtain ⟨gi, ci, q1, q2, q3⟩ := h3 i hi
  exact ⟨gi, ci, q1, Kp.own q2 hk hb, q3⟩
theorem LvlD.below {base g k cap : Nat} {w w' : World} {ls : List (List (Int × Int))} (h : LvlD w base g k cap ls) (hb : Below w.heap.size w w') : LvlD w' base g k cap ls := by
  obtain ⟨h1, vals, h2, h3⟩ := h
  refine ⟨h1, vals, own_below' h2 hb, fun i hi => ?_⟩
  obtain ⟨gi, ci, q1, q2, q3⟩ := h3 i hi
  exact ⟨gi, ci, q1, own_below' q2 hb, q3⟩
theorem LvlD.base {base base' g k cap : Nat} {w : World} {ls : List (List (Int × Int))} (h : LvlD w base g k cap ls) (hb : base' ≤ base) : LvlD w base' g k cap ls := by
  obtain ⟨h1, vals, h2, h3⟩ := h
  refine ⟨h1, vals, own_base h2 hb, fun i hi => ?_⟩
  obtain ⟨gi, ci, q1, q2, q3⟩ := h3 i hi
  exact ⟨gi, ci, q1, own_base q2 hb, q3⟩
theorem LvlD.reads {base g k cap : Nat} {w : World} {ls : List (List (Int × Int))} (h : LvlD w base g k cap ls) : LvlR w w.heap.size (some ⟨g, 0, none⟩) k ls := by
  obtain ⟨h1, vals, h2, h3⟩ := h
  refine ⟨h1, fun _ => ⟨g, 0, rfl, (h2.lt g rfl).2, fun i hi => ?_⟩⟩
  obtain ⟨gi, ci, q1, q2, q3⟩ := h3 i hi
  refine ⟨_, _, ci, ?_, OwnT.reads q2, by omega⟩
  have := h2.cells (g := g) rfl i _ q1
  rw [own_adds] at this
  rw [Nat.zero_add]
  exact this
theorem LvlD.bulk {base g k cap : Nat} {w : World} {ls : List (List (Int × Int))} (h : LvlD w base g k cap ls) (hk : k ≤ 10) : bulk ls ≤ 1048576 := by
  obtain ⟨h1, vals, h2, h3⟩ := h
  have : ∀ m, m ≤ k → tot (ls.take m) ≤ m * 25 := by
    intro m
    induction m with
    | zero => intro _; simp [tot]
    | succ m ih =>
      intro hm
      obtain ⟨_, _, _, _, q3⟩ := h3 m (by omega)
      rw [tot_take ls m (by omega)]
      have := ih (by omega)
      omega
  have h4 := this k (Nat.le_refl _)
  rw [List.take_of_length_le (by omega)] at h4
  unfold Proofs.YtgebjnoicgmdoaaDoor.bulk
  omega
/-- one level more -/
theorem lvlD_push {base g k cap g2 cap2 g1 c1 : Nat} {w0 w3 : World} {ls : List (List (Int × Int))} {l : List (Int × Int)} {vals : List Value} (hl : ls.length = k)
    (hown' : w3.ownsRow base 37 1 (.slice (some ⟨g2, 0, none⟩) (k + 1) cap2) (k + 1) (vals ++ [.slice (some ⟨g1, 0, none⟩) l.length c1]))
    (h2 : w0.ownsRow base 37 1 (.slice (some ⟨g, 0, none⟩) k cap) k vals)
    (h3 : ∀ i, i < k → ∃ gi ci, vals[i]? = some (.slice (some ⟨gi, 0, none⟩) (ls.getD i []).length ci) ∧ OwnT w0 base (some ⟨gi, 0, none⟩) (ls.getD i []).length ci (ls.getD i []) ∧ (ls.getD i []).length ≤ 25)
    (ho : OwnT w0 base (some ⟨g1, 0, none⟩) l.length c1 l) (h25 : l.length ≤ 25) (hg : w0.grownBy w3 (Value.slice (some ⟨g, 0, none⟩) k cap).ownBlock) : LvlD w3 base g2 (k + 1) cap2 (ls ++ [l]) := by
  obtain ⟨cs, hblk⟩ := own_blk h2 g rfl
  have hvl : vals.length = k := by have := h2.1; omega
  have keep : ∀ {gi ci m : Nat} {t : List (Int × Int)}, OwnT w0 base (some ⟨gi, 0, none⟩) m ci t → OwnT w3 base (some ⟨gi, 0, none⟩) m ci t := by
    intro gi ci m t h
    have hne := own_apart h hblk (by decide)
    exact h.kept hg (.inr (fun he => hne he))
  refine ⟨by simp [hl], _, hown', fun i hi => ?_⟩
  by_cases hik : i < k
  · obtain ⟨gi, ci, q1, q2, q3⟩ := h3 i hik
    have hg' : (ls ++ [l]).getD i [] = ls.getD i [] := by
      rw [List.getD_eq_getElem?_getD, List.getElem?_append_left (by omega), ← List.getD_eq_getElem?_getD]
    rw [hg']
    exact ⟨gi, ci, by rw [List.getElem?_append_left (by omega)]; exact q1, keep q2, q3⟩
  · obtain rfl : i = k := by omega
    have hg' : (ls ++ [l]).getD i [] = l := by
      rw [List.getD_eq_getElem?_getD, List.getElem?_append_right (by omega), hl]
      simp
    rw [hg']
    exact ⟨g1, c1, by rw [List.getElem?_append_right (by omega), hvl]; simp, keep ho, h25⟩

set_option maxRecDepth 100000 in
set_option maxHeartbeats 2000000 in
theorem withLevels_any (w : World) (bc : Nat) (A : Option Addr) (n c K m : Nat) (hc : Cur w bc A n c K) (hK : K ≤ 600000) (hm : m ≤ 6) (hn : n ≤ 1048576) :
    Calls Tryd.prog 14 #[.pointer (some ⟨bc, 0, none⟩), .int .i64 m] w fun e w' => ∃ g cap ls, e = .returned (.slice (some ⟨g, 0, none⟩) m cap) ∧ LvlD w' w.heap.size g m cap ls ∧ Cur w' bc A n c (K + 96) ∧ Kp bc w w' := by
  obtain ⟨i0, hi, hz0, hz1, hz2⟩ := info_parts info_level
  have hlt := hc.lt
  have ho0 : (w.alloc (.cells #[] 37)).ownsRow w.heap.size 37 1 (.slice (some ⟨w.heap.size, 0, none⟩) 0 0) 0 [] := World.ownsRow_made w #[] 0 (Nat.le_refl _) (by simp [maxLen]) (by simp)
  have HD0 : Hid (LvlD (w.alloc (.cells #[] 37)) w.heap.size w.heap.size 0 0 []) := ⟨rfl, [], ho0, fun i hi => absurd hi (by omega)⟩
  have HC0 := Lib.hid (hc.alloc (.cells #[] 37))
  have HK0 := Lib.hid ((Kp.refl bc w).alloc (.cells #[] 37))
  clear ho0 hc
  go_enter Tryd.func14, Tryd.ntmps14
  go_wp2
  go_loopw [5, 6] (fun v i wr => ∃ (k g cap : Nat) (ls : List (List (Int × Int))), k ≤ m ∧ i = .int .i64 k ∧ v = .slice (some ⟨g, 0, none⟩) k cap ∧ LvlD wr w.heap.size g k cap ls ∧ Cur wr bc A n c (K + 16 * k) ∧ Kp bc w wr) (fun _ i _ => m - (intOf i).toNat)
  case atStart => exact ⟨0, _, 0, [], Nat.zero_le _, rfl, rfl, HD0.out, HC0.out, HK0.out⟩
  case round =>
    obtain ⟨k, g, cap, ls, hk, rfl, rfl, hD, hcr, hkr⟩ := hrel
    by_cases hkm : k < m
    · have hkm' : (k : Int) < (m : Int) := by omega
      have hlv := level_any bc A n c hn 1 wr (K + 16 * k) (by omega) hcr (by show K + 16 * k + 16 ≤ 800000; omega)
      have HLV := Lib.hid hlv
      have hszr := hkr.size
      clear hlv
      go_wp2_with fail
      refine HLV.out.mono ?_
      rintro e w2 ⟨g1, c1, l, rfl, h11, h12, ho1, hc2, hk2⟩
      have hD2 := hD.kp hk2 (by omega)
      have hk02 := hkr.trans hk2
      have hs2 := hk02.size
      have ho1' := own_base (base' := w.heap.size) ho1 hszr
      obtain ⟨hl, vals, hv2, hv3⟩ := hD2
      obtain ⟨L, hL⟩ : ∃ L, l.length = L := ⟨_, rfl⟩
      rw [hL] at h11 h12 ⊢
      clear hD hcr hkr hk2 ho1 HLV
      go_wp2_with (at_builtin; refine wpList_append_own _ rfl (.tmp 13) (.tmp 17) 25 rfl w.heap.size 37 i0 (.agg #[.slice none 0 0]) 1 24 Tryd.underlying25 hi hz0 hz1 hz2 rfl (by decide) (.slice (some ⟨g, 0, none⟩) k cap) k vals rfl (hv2.alloc _) ⟨w2.heap.size, 0, none⟩ 1 1 [.slice (some ⟨g1, 0, none⟩) L c1] rfl rfl (cell_one_new _ _ _) (fun u hu => by simp at hu; subst hu; rfl) (by unfold maxLen; omega) (by omega) (by simp; omega) ?_; intro v' w3 hown' hgrow hnil)
      obtain ⟨g2, cap2, rfl⟩ : ∃ g' cap', v' = .slice (some ⟨g', 0, none⟩) (k + 1) cap' := by
        rcases hown'.2 with ⟨h0, _⟩ | ⟨g', cap', _, h0, _⟩
        · have := (hnil.1 h0).1
          cases this
        · exact ⟨g', cap', h0⟩
      have HD : Hid (LvlD w3 w.heap.size g2 (k + 1) cap2 (ls ++ [l])) := by
        rw [← hL] at hown'
        refine lvlD_push hl hown' (hv2.alloc _) (fun i hi => ?_) (ho1'.alloc _) (by omega) hgrow
        obtain ⟨gi, ci, q1, q2, q3⟩ := hv3 i hi
        exact ⟨gi, ci, q1, q2.alloc _, q3⟩
      have HC := Lib.hid ((hc2.alloc _).grown hgrow (fun k h => by have := (hv2.lt k h).1; omega))
      have HK := Lib.hid ((hk02.alloc _).more hgrow (fun k h => (hv2.lt k h).1))
      clear hown' hgrow hnil hv2 hv3 hc2 hk02 ho1'
      go_wp2
      go_roundw
      case rel => exact ⟨k + 1, g2, cap2, ls ++ [l], by omega, by go_num, rfl, HD.out, HC.out.more (by show K + 16 * k + 16 ≤ _; omega), HK.out⟩
      case measure => simp [intOf]; omega
    · obtain rfl : k = m := by omega
      go_wp2
      go_ret
      exact ⟨g, cap, ls, rfl, hD, hcr.more (by omega), hkr⟩

end Go.Proofs.YtgebjnoicgmdoaaDoor

/- Plain facts for constraints: a table of the longest ways between six nodes, made step by step in place; what it tells of the values that satisfy all constraints. Nothing of the program is imported. -/
namespace Go.Proofs.YtgebjnoicgmdoaaDoor.Cs

/-- a table of numbers between nodes -/
abbrev Tb := Nat → Nat → Int
def put (d : Tb) (i j : Nat) (x : Int) : Tb := fun a b => if a = i ∧ b = j then x else d a b
theorem put_same (d : Tb) (i j : Nat) (x : Int) : put d i j x i j = x := by simp [put]
theorem put_other (d : Tb) {i j a b : Nat} (x : Int) (h : ¬ (a = i ∧ b = j)) : put d i j x a b = d a b := by simp only [put, if_neg h]
/-- one step: the way by k -/
def relax (k i j : Nat) (d : Tb) : Tb := if 0 ≤ d i k ∧ 0 ≤ d k j then put d i j (min 1000 (max (d i j) (d i k + d k j))) else d
def relaxJ (k i : Nat) : Nat → Tb → Tb
  | 0, d => d
  | n + 1, d => relax k i n (relaxJ k i n d)
def relaxI (k : Nat) : Nat → Tb → Tb
  | 0, d => d
  | n + 1, d => relaxJ k n 6 (relaxI k n d)
def relaxK : Nat → Tb → Tb
  | 0, d => d
  | n + 1, d => relaxI n 6 (relaxK n d)

/-- values that keep all distances of the table -/
def Keeps (v : Nat → Int) (d : Tb) : Prop := ∀ i j, 0 ≤ d i j → v i + d i j ≤ v j
theorem Keeps.relax {v : Nat → Int} {d : Tb} (h : Keeps v d) (k i j : Nat) : Keeps v (relax k i j d) := by
  unfold Cs.relax
  split
  · rename_i hc
    intro a b hab
    by_cases e : a = i ∧ b = j
    · obtain ⟨rfl, rfl⟩ := e
      rw [put_same] at hab ⊢
      have h1 := h a k hc.1
      have h2 := h k b hc.2
      by_cases h3 : 0 ≤ d a b
      · have := h a b h3; omega
      · omega
    · rw [put_other d _ e] at hab ⊢
      exact h a b hab
  · exact h
theorem Keeps.relaxJ {v : Nat → Int} {d : Tb} (h : Keeps v d) (k i : Nat) : ∀ n, Keeps v (relaxJ k i n d)
  | 0 => h
  | n + 1 => (Keeps.relaxJ h k i n).relax k i n
theorem Keeps.relaxI {v : Nat → Int} {d : Tb} (h : Keeps v d) (k : Nat) : ∀ n, Keeps v (relaxI k n d)
  | 0 => h
  | n + 1 => (Keeps.relaxI h k n).relaxJ k n 6
theorem Keeps.relaxK {v : Nat → Int} {d : Tb} (h : Keeps v d) : ∀ n, Keeps v (relaxK n d)
  | 0 => h
  | n + 1 => (Keeps.relaxK h n).relaxI n 6

/-- the table only grows, and no further than 1000 -/
def Up (d e : Tb) : Prop := ∀ i j, d i j ≤ e i j ∧ e i j ≤ 1000
theorem Up.refl {d : Tb} (h : ∀ i j, d i j ≤ 1000) : Up d d := fun i j => ⟨Int.le_refl _, h i j⟩
theorem Up.trans {a b c : Tb} (h : Up a b) (k : Up b c) : Up a c := fun i j => ⟨Int.le_trans (h i j).1 (k i j).1, (k i j).2⟩
theorem Up.relax {d : Tb} (h : ∀ i j, d i j ≤ 1000) (k i j : Nat) : Up d (relax k i j d) := by
  unfold Cs.relax
  split
  · intro a b
    by_cases e : a = i ∧ b = j
    · obtain ⟨rfl, rfl⟩ := e
      rw [put_same]
      have := h a b
      omega
    · rw [put_other d _ e]
      exact ⟨Int.le_refl _, h a b⟩
  · exact Up.refl h
theorem Up.relaxJ {d : Tb} (h : ∀ i j, d i j ≤ 1000) (k i : Nat) : ∀ n, Up d (relaxJ k i n d)
  | 0 => Up.refl h
  | n + 1 => (Up.relaxJ h k i n).trans (Up.relax (fun a b => (Up.relaxJ h k i n a b).2) k i n)
theorem Up.relaxI {d : Tb} (h : ∀ i j, d i j ≤ 1000) (k : Nat) : ∀ n, Up d (relaxI k n d)
  | 0 => Up.refl h
  | n + 1 => (Up.relaxI h k n).trans (Up.relaxJ (fun a b => (Up.relaxI h k n a b).2) k n 6)
theorem Up.relaxK {d : Tb} (h : ∀ i j, d i j ≤ 1000) : ∀ n, Up d (relaxK n d)
  | 0 => Up.refl h
  | n + 1 => (Up.relaxK h n).trans (Up.relaxI (fun a b => (Up.relaxK h n a b).2) n 6)

/-- what a whole pass by k makes of a place, where no way leads round by k -/
def via (k : Nat) (d : Tb) : Tb := fun i j => if 0 ≤ d i k ∧ 0 ≤ d k j then max (d i j) (d i k + d k j) else d i j
/-- where k's own place is 0, a pass in place is that -/
theorem relax_via {k : Nat} {d e : Tb} (hk : d k k = 0) (hb : ∀ i j, d i j ≤ 400) {i j : Nat} (he : ∀ a b, e a b = via k d a b ∨ e a b = d a b) (hij : e i j = d i j ∨ e i j = via k d i j) :
    ∀ a b, relax k i j e a b = if a = i ∧ b = j then via k d i j else e a b := by
  have hrow : ∀ b, e k b = d k b := fun b => by
    rcases he k b with h | h
    · rw [h]; unfold via; rw [hk]; split <;> omega
    · exact h
  have hcol : ∀ a, e a k = d a k := fun a => by
    rcases he a k with h | h
    · rw [h]; unfold via; rw [hk]; split <;> omega
    · exact h
  intro a b
  unfold relax
  rw [hcol i, hrow j]
  have h1 := hb i k
  have h2 := hb k j
  have h3 := hb i j
  split
  · rename_i hc
    by_cases e' : a = i ∧ b = j
    · rw [if_pos e']
      obtain ⟨rfl, rfl⟩ := e'
      rw [put_same]
      unfold via at hij ⊢
      rw [if_pos hc] at hij ⊢
      omega
    · rw [if_neg e', put_other e _ e']
  · rename_i hc
    by_cases e' : a = i ∧ b = j
    · rw [if_pos e']
      obtain ⟨rfl, rfl⟩ := e'
      unfold via at hij ⊢
      rw [if_neg hc] at hij ⊢
      omega
    · rw [if_neg e']
theorem relaxJ_via {k : Nat} {d e : Tb} (hk : d k k = 0) (hb : ∀ i j, d i j ≤ 400) {i : Nat} (he : ∀ a b, e a b = via k d a b ∨ e a b = d a b) :
    ∀ n, ∀ a b, relaxJ k i n e a b = if a = i ∧ b < n then via k d i b else e a b := by
  intro n
  induction n with
  | zero => intro a b; rw [if_neg (by omega)]; rfl
  | succ n ih =>
    intro a b
    have he' : ∀ a b, relaxJ k i n e a b = via k d a b ∨ relaxJ k i n e a b = d a b := fun a b => by
      rw [ih a b]
      split
      · rename_i h; rw [h.1]; exact .inl rfl
      · exact he a b
    have := relax_via hk hb (i := i) (j := n) he' ((he' i n).symm) a b
    show relax k i n (relaxJ k i n e) a b = _
    rw [this]
    by_cases e1 : a = i ∧ b = n
    · rw [if_pos e1, if_pos ⟨e1.1, by omega⟩, e1.2]
    · rw [if_neg e1, ih a b]
      by_cases e2 : a = i ∧ b < n
      · rw [if_pos e2, if_pos ⟨e2.1, by omega⟩]
      · rw [if_neg e2, if_neg (fun h => e2 ⟨h.1, by have := h.2; have : b ≠ n := fun e3 => e1 ⟨h.1, e3⟩; omega⟩)]
theorem relaxI_via {k : Nat} {d : Tb} (hk : d k k = 0) (hb : ∀ i j, d i j ≤ 400) :
    ∀ n, ∀ a b, relaxI k n d a b = if a < n ∧ b < 6 then via k d a b else d a b := by
  intro n
  induction n with
  | zero => intro a b; rw [if_neg (by omega)]; rfl
  | succ n ih =>
    intro a b
    have he' : ∀ a b, relaxI k n d a b = via k d a b ∨ relaxI k n d a b = d a b := fun a b => by
      rw [ih a b]
      split
      · exact .inl rfl
      · exact .inr rfl
    show relaxJ k n 6 (relaxI k n d) a b = _
    rw [relaxJ_via hk hb (i := n) he' 6 a b, ih a b]
    by_cases e1 : a = n ∧ b < 6
    · rw [if_pos e1, if_pos ⟨by omega, e1.2⟩, e1.1]
    · rw [if_neg e1]
      by_cases e2 : a < n ∧ b < 6
      · rw [if_pos e2, if_pos ⟨by omega, e2.2⟩]
      · rw [if_neg e2, if_neg (fun h => by have : a ≠ n := fun e3 => e1 ⟨e3, h.2⟩; exact e2 ⟨by omega, h.2⟩)]

/-- ways by the first K nodes are in the table -/
def Closed (K : Nat) (d : Tb) : Prop := ∀ k, k < K → ∀ i j, i < 6 → j < 6 → 0 ≤ d i k → 0 ≤ d k j → d i k + d k j ≤ d i j
theorem closed_via {K : Nat} (hK : K < 6) {d : Tb} (hk : d K K = 0) (hc : Closed K d) (hm : ∀ i j, -1 ≤ d i j) : Closed (K + 1) (fun a b => if a < 6 ∧ b < 6 then via K d a b else d a b) := by
  intro k hkK i j hi hj h1 h2
  simp only at h1 h2 ⊢
  rw [if_pos ⟨hi, by omega⟩] at h1 ⊢
  rw [if_pos ⟨by omega, hj⟩] at h2 ⊢
  rw [if_pos ⟨hi, hj⟩]
  by_cases e : k = K
  · subst e
    have r1 : via k d i k = d i k := by unfold via; rw [hk]; split <;> omega
    have r2 : via k d k j = d k j := by unfold via; rw [hk]; split <;> omega
    rw [r1] at h1 ⊢
    rw [r2] at h2 ⊢
    unfold via
    rw [if_pos ⟨h1, h2⟩]
    omega
  · have hlt : k < K := by omega
    have c := hc k hlt
    have a1 := c i j hi hj
    have a2 := c i K hi hK
    have a3 := c K j hK hj
    have a4 := c K K hK hK
    have m1 := hm i k; have m2 := hm k j; have m3 := hm i K; have m4 := hm K k; have m5 := hm k K; have m6 := hm K j; have m7 := hm i j
    unfold via at h1 h2 ⊢
    by_cases p1 : 0 ≤ d i K ∧ 0 ≤ d K k
    · rw [if_pos p1] at h1 ⊢
      by_cases p2 : 0 ≤ d k K ∧ 0 ≤ d K j
      · rw [if_pos p2] at h2 ⊢
        rw [if_pos ⟨p1.1, p2.2⟩]
        have := a4 p1.2 p2.1
        by_cases q1 : 0 ≤ d i k
        · have b2 := a2 q1 p2.1
          by_cases q2 : 0 ≤ d k j
          · have b1 := a1 q1 q2; have b3 := a3 p1.2 q2; omega
          · omega
        · by_cases q2 : 0 ≤ d k j
          · have b3 := a3 p1.2 q2; omega
          · omega
      · rw [if_neg p2] at h2 ⊢
        have b3 := a3 p1.2 h2
        rw [if_pos ⟨p1.1, by omega⟩]
        by_cases q1 : 0 ≤ d i k
        · have b1 := a1 q1 h2; omega
        · omega
    · rw [if_neg p1] at h1 ⊢
      by_cases p2 : 0 ≤ d k K ∧ 0 ≤ d K j
      · rw [if_pos p2] at h2 ⊢
        have b2 := a2 h1 p2.1
        rw [if_pos ⟨by omega, p2.2⟩]
        by_cases q2 : 0 ≤ d k j
        · have b1 := a1 h1 q2; omega
        · omega
      · rw [if_neg p2] at h2 ⊢
        have b1 := a1 h1 h2
        split <;> omega
end Go.Proofs.YtgebjnoicgmdoaaDoor.Cs
