/- The values of the nodes of an arena, one after the other. -/
/- The levels of the nodes of an arena: written out whole, and as far as they are not too long. -/
/- math/bits.Mul at small numbers; slices.Grow, Repeat and Concat over tokens. -/
/- slices.Concat over slices of tokens. -/
/- The machine's struct with its stack. -/
/- The machine's methods: each does what one step on the stack says, or panics with errLevel. -/
import Derived.Test.YtfmhmnpmdjpmeaaDoorNdKeep
import Derived.Test.YtfmhmnpmdjpmeaaDoorNdKey
import Derived.Lib.AppendZeros
import Derived.Laws.BitsAllLaws
import Derived.Laws.BitsLemmas
import Derived.Laws.CopyOwn
import Derived.RegionTactic
import Derived.BigRegion
import Derived.Test.YtfmhmnpmdjpmeaaDoorEvalLaw

namespace Go.Proofs.YtfmhmnpmdjpmeaaDoor
open Go.RowKit

theorem ndOk_cases {o u a b : Int} {k : Nat} (h : ndOk (o, u, a, b) k = true) :
    (o = 0 ∧ u = 0 ∧ a = -1 ∧ b = -1) ∨ (o = 4 ∧ 0 ≤ u ∧ u < 5 ∧ a = -1 ∧ b = -1) ∨ (o = 1 ∧ u = 0 ∧ a = -1 ∧ 0 ≤ b ∧ b < k) ∨ ((o = 2 ∨ o = 3) ∧ u = 0 ∧ 0 ≤ a ∧ a < k ∧ 0 ≤ b ∧ b < k) := by
  unfold ndOk tokB at h
  by_cases h4 : o = 4
  · subst h4
    simp [tkA, tkB, opdB] at h
    omega
  · by_cases h1 : o = 1
    · subst h1
      simp [tkA, tkB, opdB] at h
      omega
    · by_cases h2 : o = 2
      · subst h2
        simp [tkA, tkB, opdB] at h
        omega
      · by_cases h3 : o = 3
        · subst h3
          simp [tkA, tkB, opdB] at h
          omega
        · simp [tkA, tkB, opdB, h1, h2, h3, h4] at h
          omega
end Go.Proofs.YtfmhmnpmdjpmeaaDoor

namespace Go.Proofs.YtfmhmnpmdjpmeaaDoor
open Go.RowKit

abbrev Tks := List (Int × Int)
def lvlT (vals : List Tks) (o u a b : Int) : Tks := ((opsR a b).flatMap fun z => vals.getD z.toNat []) ++ [(o, u)]
def lvlV (vals : List Tks) (o u a b : Int) : Tks := if Lv.levelOk (lvlT vals o u a b) = true then lvlT vals o u a b else []
/-- the levels of the first k nodes, each written out whole -/
def flR (l : List Nd) : Nat → List Tks
  | 0 => []
  | k + 1 => flR l k ++ [lvlT (flR l k) (l.getD k nd0).1 (l.getD k nd0).2.1 (l.getD k nd0).2.2.1 (l.getD k nd0).2.2.2]
/-- .. none where it is too long -/
def lvR (l : List Nd) : Nat → List Tks
  | 0 => []
  | k + 1 => lvR l k ++ [lvlV (lvR l k) (l.getD k nd0).1 (l.getD k nd0).2.1 (l.getD k nd0).2.2.1 (l.getD k nd0).2.2.2]
theorem flR_len (l : List Nd) : ∀ k, (flR l k).length = k
  | 0 => rfl
  | k + 1 => by rw [flR, List.length_append, flR_len l k]; rfl
theorem lvR_len (l : List Nd) : ∀ k, (lvR l k).length = k
  | 0 => rfl
  | k + 1 => by rw [lvR, List.length_append, lvR_len l k]; rfl
def flN (l : List Nd) (j : Nat) : Tks := (flR l (j + 1)).getD j []
def lvN (l : List Nd) (j : Nat) : Tks := (lvR l (j + 1)).getD j []
theorem flR_get (l : List Nd) (j k : Nat) (h : j < k) : (flR l k).getD j [] = flN l j := by
  induction k with
  | zero => omega
  | succ k ih =>
    by_cases e : j = k
    · subst e; rfl
    · rw [flR, List.getD_eq_getElem?_getD, List.getElem?_append_left (by rw [flR_len]; omega), ← List.getD_eq_getElem?_getD]
      exact ih (by omega)
theorem lvR_get (l : List Nd) (j k : Nat) (h : j < k) : (lvR l k).getD j [] = lvN l j := by
  induction k with
  | zero => omega
  | succ k ih =>
    by_cases e : j = k
    · subst e; rfl
    · rw [lvR, List.getD_eq_getElem?_getD, List.getElem?_append_left (by rw [lvR_len]; omega), ← List.getD_eq_getElem?_getD]
      exact ih (by omega)
theorem last_getD {α : Type} (l : List α) (x d : α) (k : Nat) (h : l.length = k) : (l ++ [x]).getD k d = x := by
  rw [List.getD_eq_getElem?_getD, List.getElem?_append_right (by omega), h]
  simp
theorem flN_eq (l : List Nd) (k : Nat) : flN l k = lvlT (flR l k) (l.getD k nd0).1 (l.getD k nd0).2.1 (l.getD k nd0).2.2.1 (l.getD k nd0).2.2.2 := by
  unfold flN
  rw [flR]
  exact last_getD _ _ _ _ (flR_len l k)
theorem lvN_eq (l : List Nd) (k : Nat) : lvN l k = lvlV (lvR l k) (l.getD k nd0).1 (l.getD k nd0).2.1 (l.getD k nd0).2.2.1 (l.getD k nd0).2.2.2 := by
  unfold lvN
  rw [lvR]
  exact last_getD _ _ _ _ (lvR_len l k)
theorem hts_add : ∀ (l : Tks) (n m d : Int), 0 ≤ d → Lv.hts l n = some m → Lv.hts l (n + d) = some (m + d)
  | [], n, m, d, _, h => by simp only [Lv.hts, Option.some.injEq] at h ⊢; omega
  | t :: r, n, m, d, hd, h => by
    simp only [Lv.hts] at h ⊢
    split at h
    · rename_i hc
      rw [if_pos ⟨hc.1, by have := hc.2; omega⟩]
      have := hts_add r _ m d hd h
      rw [show n + d - Lv.takes t.1 + 1 = n - Lv.takes t.1 + 1 + d by omega]
      exact this
    · cases h
theorem lvlOk_iff (t : Tks) : Lv.levelOk t = true ↔ 1 ≤ t.length ∧ t.length ≤ 24 ∧ Lv.hts t 0 = some 1 := by
  simp only [Lv.levelOk, Bool.and_eq_true, decide_eq_true_eq, and_assoc]
/-- the tokens of a node over what its operands have -/
theorem lvlT_cases {vals : List Tks} {o u a b : Int} {k : Nat} (h : ndOk (o, u, a, b) k = true) :
    ((o = 0 ∨ o = 4) ∧ lvlT vals o u a b = [(o, u)] ∧ Lv.tkOk (o, u) = true) ∨ (o = 1 ∧ u = 0 ∧ b.toNat < k ∧ lvlT vals o u a b = vals.getD b.toNat [] ++ [(1, 0)]) ∨
    ((o = 2 ∨ o = 3) ∧ u = 0 ∧ a.toNat < k ∧ b.toNat < k ∧ lvlT vals o u a b = vals.getD a.toNat [] ++ (vals.getD b.toNat [] ++ [(o, 0)])) := by
  rcases ndOk_cases h with ⟨rfl, rfl, rfl, rfl⟩ | ⟨rfl, h0, h1, rfl, rfl⟩ | ⟨rfl, rfl, rfl, h0, h1⟩ | ⟨ho, rfl, h0, h1, h2, h3⟩
  · exact .inl ⟨.inl rfl, rfl, rfl⟩
  · exact .inl ⟨.inr rfl, rfl, by simp [Lv.tkOk]; omega⟩
  · have hb : ¬ b = -1 := by omega
    refine .inr (.inl ⟨rfl, rfl, by omega, ?_⟩)
    simp [lvlT, opsTo, opP, hb]
  · have ha : ¬ a = -1 := by omega
    have hb : ¬ b = -1 := by omega
    refine .inr (.inr ⟨ho, rfl, by omega, by omega, ?_⟩)
    simp [lvlT, opsTo, opP, ha, hb]
theorem hts_snoc (t : Tks) (o : Int) {m : Int} (ho : o = 1 ∨ o = 2 ∨ o = 3) (h : Lv.hts t 0 = some m) (hm : Lv.takes o ≤ m) : Lv.hts (t ++ [(o, 0)]) 0 = some (m - Lv.takes o + 1) := by
  have hk : Lv.tkOk (o, 0) = true := by rcases ho with rfl | rfl | rfl <;> rfl
  rw [Lv.hts_append, h, Option.bind_some]
  simp only [Lv.hts]
  rw [if_pos ⟨hk, hm⟩]
theorem hts_short (t : Tks) (o : Int) {m : Int} (h : Lv.hts t 0 = some m) (hm : m < Lv.takes o) : Lv.hts (t ++ [(o, 0)]) 0 = none := by
  rw [Lv.hts_append, h, Option.bind_some]
  simp only [Lv.hts]
  rw [if_neg (by rintro ⟨_, h⟩; omega)]
/-- each node's level, written out whole, leaves one number; where it is not too long it is what the program has -/
theorem fl_lv {l : List Nd} {n : Nat} (hall : NdAll l n) : ∀ k, k < n → Lv.hts (flN l k) 0 = some 1 ∧ 1 ≤ (flN l k).length ∧ lvN l k = if (flN l k).length ≤ 24 then flN l k else [] := by
  intro k
  induction k using Nat.strongRecOn with
  | ind k ih =>
    intro hk
    have hok := (hall k hk).1
    obtain ⟨t, ht⟩ : ∃ t, l.getD k nd0 = t := ⟨_, rfl⟩
    have hf := flN_eq l k
    have hv := lvN_eq l k
    rw [ht] at hok hf hv
    obtain ⟨o, u, a, b⟩ := t
    simp only at hf hv
    unfold lvlV at hv
    rcases lvlT_cases (vals := flR l k) hok with ⟨ho, e1, htk⟩ | ⟨rfl, rfl, hb, e1⟩ | ⟨ho, rfl, ha, hb, e1⟩
    · rcases lvlT_cases (vals := lvR l k) hok with ⟨_, e2, _⟩ | ⟨rfl, _⟩ | ⟨rfl | rfl, _⟩
      · rw [e1] at hf
        rw [e2] at hv
        have h1 : Lv.hts [(o, u)] 0 = some 1 := by
          simp only [Lv.hts]
          rw [if_pos ⟨htk, by rcases ho with rfl | rfl <;> decide⟩]
          rcases ho with rfl | rfl <;> rfl
        rw [hf]
        refine ⟨h1, by simp, ?_⟩
        rw [hv, if_pos ((lvlOk_iff _).2 ⟨by simp, by simp, h1⟩), if_pos (by simp)]
      · rcases ho with h | h <;> cases h
      · rcases ho with h | h <;> cases h
      · rcases ho with h | h <;> cases h
    · rcases lvlT_cases (vals := lvR l k) hok with ⟨h | h, _⟩ | ⟨_, _, _, e2⟩ | ⟨h | h, _⟩
      · cases h
      · cases h
      · obtain ⟨h1, h2, h3⟩ := ih _ hb (by omega)
        rw [flR_get l _ k hb] at e1
        rw [lvR_get l _ k hb] at e2
        rw [e1] at hf
        rw [e2] at hv
        have hh : Lv.hts (flN l b.toNat ++ [(1, 0)]) 0 = some 1 := hts_snoc _ 1 (.inl rfl) h1 (by decide)
        rw [hf]
        refine ⟨hh, by simp, ?_⟩
        rw [hv, h3]
        by_cases hlen : (flN l b.toNat).length ≤ 24
        · rw [if_pos hlen]
          by_cases hl2 : (flN l b.toNat ++ [(1, 0)]).length ≤ 24
          · rw [if_pos ((lvlOk_iff _).2 ⟨by simp, hl2, hh⟩), if_pos hl2]
          · rw [if_neg (fun hc => hl2 ((lvlOk_iff _).1 hc).2.1), if_neg hl2]
        · rw [if_neg hlen, if_neg (fun hc => by have := ((lvlOk_iff _).1 hc).2.2; rw [hts_short [] 1 rfl (by decide)] at this; cases this), if_neg (by simp; omega)]
      · cases h
      · cases h
    · rcases lvlT_cases (vals := lvR l k) hok with ⟨h | h, _⟩ | ⟨rfl, _⟩ | ⟨_, _, _, _, e2⟩
      · rcases ho with e | e <;> omega
      · rcases ho with e | e <;> omega
      · rcases ho with h | h <;> cases h
      · obtain ⟨h1, h2, h3⟩ := ih _ ha (by omega)
        obtain ⟨p1, p2, p3⟩ := ih _ hb (by omega)
        rw [flR_get l _ k ha, flR_get l _ k hb] at e1
        rw [lvR_get l _ k ha, lvR_get l _ k hb] at e2
        rw [e1] at hf
        rw [e2] at hv
        have ht2 : Lv.takes o = 2 := by rcases ho with rfl | rfl <;> rfl
        have hab : Lv.hts (flN l a.toNat ++ flN l b.toNat) 0 = some 2 := by
          rw [Lv.hts_append, h1, Option.bind_some]
          exact hts_add _ 0 1 1 (by omega) p1
        have hh : Lv.hts (flN l a.toNat ++ (flN l b.toNat ++ [(o, 0)])) 0 = some 1 := by
          rw [← List.append_assoc]
          have := hts_snoc _ o (.inr ho) hab (by omega)
          rw [ht2] at this
          exact this
        have hge : 1 ≤ (flN l a.toNat ++ (flN l b.toNat ++ [(o, 0)])).length := by simp; omega
        have hbad : ∀ t : Tks, Lv.hts t 0 = some 1 → Lv.hts (t ++ [(o, 0)]) 0 = none := fun t h => hts_short t o h (by omega)
        have hbad0 : Lv.hts ([] ++ [(o, 0)]) 0 = none := hts_short [] o (m := 0) rfl (by omega)
        rw [hf]
        refine ⟨hh, hge, ?_⟩
        rw [hv, h3, p3]
        by_cases hla : (flN l a.toNat).length ≤ 24
        · rw [if_pos hla]
          by_cases hlb : (flN l b.toNat).length ≤ 24
          · rw [if_pos hlb]
            by_cases hl2 : (flN l a.toNat ++ (flN l b.toNat ++ [(o, 0)])).length ≤ 24
            · rw [if_pos ((lvlOk_iff _).2 ⟨hge, hl2, hh⟩), if_pos hl2]
            · rw [if_neg (fun hc => hl2 ((lvlOk_iff _).1 hc).2.1), if_neg hl2]
          · rw [if_neg hlb, if_neg (fun hc => by have := ((lvlOk_iff _).1 hc).2.2; rw [List.nil_append, hbad _ h1] at this; cases this), if_neg (by simp; omega)]
        · rw [if_neg hla]
          by_cases hlb : (flN l b.toNat).length ≤ 24
          · rw [if_pos hlb, if_neg (fun hc => by have := ((lvlOk_iff _).1 hc).2.2; rw [List.nil_append, hbad _ p1] at this; cases this), if_neg (by simp; omega)]
          · rw [if_neg hlb, if_neg (fun hc => by have := ((lvlOk_iff _).1 hc).2.2; rw [List.nil_append, hbad0] at this; cases this), if_neg (by simp; omega)]
/-- what ArenaLevel answers -/
def alvR (l : List Nd) (n : Nat) (x : Int) : Option Tks := if (arenaOkR l && idxR n [x]) = true then (if (flN l x.toNat).length ≤ 24 then some (flN l x.toNat) else none) else none
end Go.Proofs.YtfmhmnpmdjpmeaaDoor

namespace Go.Proofs.YtfmhmnpmdjpmeaaDoor
open Go.RowKit

/-- a slice value that is not nil, its cells those of the tokens l, below block B -/
def TokA (w : World) (B : Nat) (ad : Addr) (l : List (Int × Int)) : Prop := ad.block < B ∧ ∀ j u, (tokCells l)[j]? = some u → w.cell? (ad.add j) = some u
theorem TokA.below {w w' : World} {B : Nat} {ad : Addr} {l : List (Int × Int)} (h : TokA w B ad l) (hb : Below B w w') : TokA w' B ad l :=
  ⟨h.1, fun j u hu => by
    have hbl : (ad.add j).block = ad.block := by unfold Addr.add; split <;> rfl
    exact (hb.cell (by rw [hbl]; exact h.1)).trans (h.2 j u hu)⟩
theorem TokA.more {w : World} {B B' : Nat} {ad : Addr} {l : List (Int × Int)} (h : TokA w B ad l) (hB : B ≤ B') : TokA w B' ad l := ⟨by have := h.1; omega, h.2⟩
theorem tokCells_one (l : List (Int × Int)) : ∀ v ∈ tokCells l, v.oneCell' = true := by
  intro v hv
  simp only [tokCells, List.mem_flatMap] at hv
  obtain ⟨t, _, ht⟩ := hv
  simp at ht
  rcases ht with rfl | rfl <;> rfl
end Go.Proofs.YtfmhmnpmdjpmeaaDoor

namespace Go.Proofs.YtfmhmnpmdjpmeaaDoor
open Go.RowKit

/-- the slices that are joined: their values in a row at block gs, their tokens below B -/
def Parts (w : World) (B gs : Nat) (ad : Nat → Addr) (cp : Nat → Nat) (ls : List (List (Int × Int))) : Prop :=
  gs < B ∧ ∀ i, i < ls.length → w.cell? ⟨gs, i, none⟩ = some (.slice (some (ad i)) (ls.getD i []).length (cp i)) ∧ TokA w B (ad i) (ls.getD i [])
theorem Parts.below {w w' : World} {B gs : Nat} {ad : Nat → Addr} {cp : Nat → Nat} {ls : List (List (Int × Int))} (h : Parts w B gs ad cp ls) (hb : Below B w w') : Parts w' B gs ad cp ls :=
  ⟨h.1, fun i hi => ⟨(hb.cell (p := ⟨gs, i, none⟩) h.1).trans (h.2 i hi).1, (h.2 i hi).2.below hb⟩⟩

end Go.Proofs.YtfmhmnpmdjpmeaaDoor

namespace Go.Proofs.YtfmhmnpmdjpmeaaDoor
open Go.RowKit

/-- every block of another element type than int and machine is as it was -/
def Keeps (w w' : World) : Prop := ∀ (k : Nat) (cs : Array Value) (t : TypeId) (fr : Nat × Nat), w.heap[k]? = some (.cells cs t fr) → t ≠ 3 → t ≠ 96 → w'.heap[k]? = some (.cells cs t fr)

section
variable {w w' w'' : World}
theorem Keeps.refl (w : World) : Keeps w w := fun _ _ _ _ h _ _ => h
theorem Keeps.trans (h : Keeps w w') (h' : Keeps w' w'') : Keeps w w'' := fun k cs t fr hk h1 h2 => h' k cs t fr (h k cs t fr hk h1 h2) h1 h2
theorem Keeps.alloc (h : Keeps w w') (o : Obj) : Keeps w (w'.alloc o) := fun k cs t fr hk h1 h2 => by
  have h3 := h k cs t fr hk h1 h2
  rw [Below.heap_alloc w' o k (Array.getElem?_eq_some_iff.1 h3).1]
  exact h3
theorem Keeps.grown {row : Option Nat} (h : Keeps w w') (hg : w'.grownBy w'' row) (hr : ∀ g, row = some g → ∃ cs, Blk w' g 3 cs) : Keeps w w'' := fun k cs t fr hk h1 h2 => by
  have h3 := h k cs t fr hk h1 h2
  rw [hg.block k (Array.getElem?_eq_some_iff.1 h3).1 (fun e => by
    obtain ⟨cs', hb⟩ := hr k e.symm
    have e := Eq.trans (Eq.symm h3) hb
    injection e with e
    injection e with _ e2
    exact h1 e2)]
  exact h3
theorem Keeps.store (h : Keeps w w') {p : Addr} {cs' : Array Value} (hb : Blk w' p.block 96 cs') (u : Value) : Keeps w (w'.setCell p u) := fun k cs t fr hk h1 h2 => by
  have h3 := h k cs t fr hk h1 h2
  rw [Below.heap_setCell w' p u k (fun e => by
    subst e
    have e := Eq.trans (Eq.symm h3) hb
    injection e with e
    injection e with _ e2
    exact h2 e2)]
  exact h3
theorem Keeps.blk {g : Nat} {t : TypeId} {cs : Array Value} (h : Keeps w w') (hb : Blk w g t cs) (h1 : t ≠ 3) (h2 : t ≠ 96) : Blk w' g t cs := h g cs t (0, 0) hb h1 h2
end

/-- the cells of the machine's struct -/
def machCells (env : List Int) (sv : Value) : Array Value := (env.map (Value.int .i64) ++ [sv]).toArray

/-- block bm holds the machine: its env, and a stack of its own above B (its top first in st) -/
def Mach (w : World) (B bm : Nat) (env st : List Int) : Prop :=
  B ≤ bm ∧ env.length = 5 ∧ ∃ (A : Option Addr) (c : Nat), Blk w bm 96 (machCells env (.slice A st.length c)) ∧
    w.ownsRow B 3 1 (.slice A st.length c) st.length (st.reverse.map (Value.int .i64))

theorem mach_stack (env : List Int) (sv : Value) (h : env.length = 5) : (machCells env sv)[5]? = some sv := by
  simp [machCells, h]
theorem mach_env (env : List Int) (sv : Value) (h : env.length = 5) (i : Nat) (hi : i < 5) : (machCells env sv)[i]? = some (.int .i64 (env.getD i 0)) := by
  have hl : i < env.length := by omega
  simp [machCells, List.getElem?_append, hl]
theorem mach_put (env : List Int) (sv sv' : Value) (h : env.length = 5) : (machCells env sv).setIfInBounds 5 sv' = machCells env sv' := by
  simp [machCells, h]

/-- what the variable errLevel holds -/
def ErrAt (w : World) (T : TypeId) (pv : Value) : Prop := w.cell? ⟨0, 0, none⟩ = some (.iface T pv)
theorem ErrAt.below {w w' : World} {B : Nat} {T : TypeId} {pv : Value} (h : ErrAt w T pv) (hb : Below B w w') (hB : 0 < B) : ErrAt w' T pv := (hb.cell (p := ⟨0, 0, none⟩) hB).trans h

set_option maxHeartbeats 400000 in
theorem push_any (w : World) (B bm : Nat) (env st : List Int) (v : Int) (hm : Mach w B bm env st) (hs : st.length ≤ 1000) :
    Calls Tryd.prog 69 #[.pointer (some ⟨bm, 0, none⟩), .int .i64 v] w fun e w' => e = .returned (.tuple #[]) ∧ Mach w' B bm env (v :: st) ∧ Below B w w' ∧ Keeps w w' := by
  obtain ⟨hB, he, A, c, hblk, hown⟩ := hm
  have hlt := hblk.lt
  have hc5 : w.cell? ⟨bm, 5, none⟩ = some (.slice A st.length c) := (hblk.cell 5).trans (mach_stack env _ he)
  obtain ⟨i0, hi, hz0, hz1, hz2⟩ := info_parts info_int
  have HE := Lib.hid he
  clear he
  go_enter Tryd.func69, Tryd.ntmps69
  go_wp2_with (at_builtin; refine wpList_append_own _ rfl (.tmp 8) (.tmp 10) 40 rfl B 3 i0 (.int .i64 0) 1 8 Tryd.underlying40 hi hz0 hz1 hz2 rfl (by decide) (.slice A st.length c) st.length (st.reverse.map (Value.int .i64)) rfl (hown.alloc _) ⟨w.heap.size, 0, none⟩ 1 1 [.int .i64 v] rfl rfl ?c1 ?c2 ?c3 ?c4 ?c5 ?c6)
  case c1 => exact cell_one_new _ _ _
  case c2 => intro u hu; simp at hu; subst hu; rfl
  case c3 => unfold maxLen; omega
  case c4 => omega
  case c5 => simp; omega
  case c6 =>
    intro v' w1 hown' hgrow _
    obtain ⟨g, cap', rfl⟩ : ∃ g cap', v' = .slice (some ⟨g, 0, none⟩) (st.length + 1) cap' := by
      rcases hown'.2 with ⟨_, h⟩ | ⟨g, cap', _, h, _⟩
      · omega
      · exact ⟨g, cap', h⟩
    have hap := own_apart hown hblk (by decide)
    have hblk1 : Blk w1 bm 96 (machCells env (.slice A st.length c)) := (hblk.alloc _).grown hgrow (fun h => hap h.symm)
    have hk : w1.cell? ⟨bm, 5, none⟩ = some (.slice A st.length c) := (hblk1.cell 5).trans (mach_stack env _ HE.out)
    have hf := hblk1.thawed 5
    have hbel : Below B w w1 := (((Below.refl _ _).alloc (by omega) _)).grown hgrow (by simp; omega) (fun k h => (hown.lt k h).1)
    have hown2 := own_store (p := ⟨bm, 5, none⟩) hown' (own_apart hown' hblk1 (by decide)) (.slice (some ⟨g, 0, none⟩) (st.length + 1) cap')
    have hblk2 := hblk1.put 5 (.slice (some ⟨g, 0, none⟩) (st.length + 1) cap')
    have hbel2 := hbel.setCell (p := ⟨bm, 5, none⟩) hB (.slice (some ⟨g, 0, none⟩) (st.length + 1) cap')
    have hkp : Keeps w w1 := ((Keeps.refl w).alloc _).grown hgrow (fun g hg => own_blk (hown.alloc _) g hg)
    have hkp2 := hkp.store (p := ⟨bm, 5, none⟩) hblk1 (.slice (some ⟨g, 0, none⟩) (st.length + 1) cap')
    have H2 := Lib.hid hown2
    have H3 := Lib.hid hblk2
    have H4 := Lib.hid hkp2
    clear hkp hkp2
    clear hown2 hblk2 hgrow hown' hown hap
    go_wp2
    go_end0
    refine ⟨rfl, ⟨hB, HE.out, some ⟨g, 0, none⟩, cap', ?_, ?_⟩, hbel2, H4.out⟩
    · have h3 := H3.out
      rw [mach_put env _ _ HE.out] at h3
      exact h3
    · have h2 := H2.out
      simpa using h2
end Go.Proofs.YtfmhmnpmdjpmeaaDoor

namespace Go.Proofs.YtfmhmnpmdjpmeaaDoor
open Go.RowKit

/-- the panic with errLevel -/
def Bad (T : TypeId) (pv : Value) : Ending := .panicked [{ v := .iface T pv, recovered := false }]

/-- a row of n + 1 cells, cut to n -/
theorem own_pop {w : World} {base g cap n : Nat} {e : TypeId} {xs : List Value} {x : Value} (h : w.ownsRow base e 1 (.slice (some ⟨g, 0, none⟩) (n + 1) cap) (n + 1) (xs ++ [x])) :
    w.ownsRow base e 1 (.slice (some ⟨g, 0, none⟩) n cap) n xs := by
  have hl := h.1
  simp at hl
  rcases h.2 with ⟨h0, _⟩ | ⟨g', cap', cur, hv, hb, hgg, h1, h2, h3, h4⟩
  · cases h0
  · injection hv with e1 e2 e3
    injection e1 with e1
    injection e1 with e1
    subst e1; subst e3
    refine ⟨by omega, .inr ⟨g, cap, cur, rfl, hb, hgg, by omega, h2, h3, ?_⟩⟩
    have := congrArg (List.take n) h4
    rw [List.take_take] at this
    rw [show min n ((n + 1) * 1) = n * 1 by omega] at this
    rw [this, ← hl, List.take_left']
    rfl

set_option maxHeartbeats 400000 in
theorem pop_some (w : World) (B bm : Nat) (env st : List Int) (v : Int) (hm : Mach w B bm env (v :: st)) (hs : st.length ≤ 1000) :
    Calls Tryd.prog 72 #[.pointer (some ⟨bm, 0, none⟩)] w fun e w' => e = .returned (.int .i64 v) ∧ Mach w' B bm env st ∧ Below B w w' ∧ Keeps w w' := by
  obtain ⟨hB, he, A, c, hblk, hown⟩ := hm
  have hlt := hblk.lt
  obtain ⟨g, rfl⟩ : ∃ g, A = some ⟨g, 0, none⟩ := by
    rcases hown.2 with ⟨_, h⟩ | ⟨g, cap', _, h, _⟩
    · simp at h
    · injection h with h1; exact ⟨g, h1⟩
  have hcap : st.length + 1 ≤ c := by
    rcases hown.2 with ⟨_, h⟩ | ⟨g, cap', _, h, _, _, h1, _⟩
    · simp at h
    · injection h with _ _ h3; simpa [h3] using h1
  have hc5 : w.cell? ⟨bm, 5, none⟩ = some (.slice (some ⟨g, 0, none⟩) (st.length + 1) c) := (hblk.cell 5).trans (mach_stack env _ he)
  have hcv : w.cell? ⟨g, st.length, none⟩ = some (.int .i64 v) := by
    have h := hown.cells (g := g) rfl st.length (.int .i64 v) (by simp)
    have hadd : (⟨g, 0, none⟩ : Addr).add st.length = ⟨g, st.length, none⟩ := by unfold Addr.add; split <;> simp_all
    rw [hadd] at h
    exact h
  have hf := hblk.thawed 5
  have hown1 := own_pop (n := st.length) (xs := st.reverse.map (Value.int .i64)) (x := .int .i64 v) (by simpa using hown)
  have H2 := Lib.hid (own_store (p := ⟨bm, 5, none⟩) hown1 (own_apart hown1 hblk (by decide)) (.slice (some ⟨g, 0, none⟩) st.length c))
  have H3 := Lib.hid (hblk.put 5 (.slice (some ⟨g, 0, none⟩) st.length c))
  have H4 := Lib.hid ((Keeps.refl w).store (p := ⟨bm, 5, none⟩) hblk (.slice (some ⟨g, 0, none⟩) st.length c))
  have HE := Lib.hid he
  clear he hown hown1
  go_enter Tryd.func72, Tryd.ntmps72
  go_wp2
  go_ret
  refine ⟨rfl, ⟨hB, HE.out, some ⟨g, 0, none⟩, c, ?_, ?_⟩, (Below.refl _ _).setCell (p := ⟨bm, 5, none⟩) hB _, H4.out⟩
  · have h3 := H3.out
    rw [mach_put env _ _ HE.out] at h3
    exact h3
  · exact H2.out

set_option maxHeartbeats 400000 in
theorem pop_none (w : World) (B bm : Nat) (env : List Int) (T : TypeId) (pv : Value) (hm : Mach w B bm env []) (hE : ErrAt w T pv) :
    Calls Tryd.prog 72 #[.pointer (some ⟨bm, 0, none⟩)] w fun e w' => e = Bad T pv ∧ w = w' := by
  obtain ⟨hB, he, A, c, hblk, hown⟩ := hm
  have hc5 : w.cell? ⟨bm, 5, none⟩ = some (.slice A 0 c) := (hblk.cell 5).trans (mach_stack env _ he)
  unfold ErrAt at hE
  clear he hown hblk
  go_enter Tryd.func72, Tryd.ntmps72
  go_wp2
  exact ⟨rfl, rfl, rfl⟩

set_option maxHeartbeats 400000 in
theorem needZero_yes (n : Int) (w : World) (h : n = 0) :
    Calls Tryd.prog 119 #[.int .i64 n] w fun e w' => e = .returned (.tuple #[]) ∧ w = w' := by
  subst h
  go_enter Tryd.func119, Tryd.ntmps119
  go_wp2
  go_end0
  exact ⟨rfl, rfl⟩

set_option maxHeartbeats 400000 in
theorem needZero_no (n : Int) (w : World) (T : TypeId) (pv : Value) (h : n ≠ 0) (hE : ErrAt w T pv) :
    Calls Tryd.prog 119 #[.int .i64 n] w fun e w' => e = Bad T pv ∧ w = w' := by
  have h1 : (n != 0) = true := by simpa using h
  unfold ErrAt at hE
  go_enter Tryd.func119, Tryd.ntmps119
  go_wp2
  exact ⟨rfl, rfl, rfl⟩
end Go.Proofs.YtfmhmnpmdjpmeaaDoor
