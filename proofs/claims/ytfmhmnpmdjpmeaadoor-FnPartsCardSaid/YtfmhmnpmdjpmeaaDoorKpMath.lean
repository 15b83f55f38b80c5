/- The draws of chapter 8: an arena with a node, with roots, with a level. -/
/- The levels of the nodes of an arena: written out whole, and as far as they are not too long. -/
/- What is kept of an arena is an arena, and each kept node has its level and its values. -/
import Derived.Test.YtfmhmnpmdjpmeaaDoorArDraw
import Derived.Test.YtfmhmnpmdjpmeaaDoorNMath
import Derived.Test.YtfmhmnpmdjpmeaaDoorNdKpI

namespace Go.Proofs.YtfmhmnpmdjpmeaaDoor
open Go.RowKit

set_option maxRecDepth 100000 in
set_option maxHeartbeats 4000000 in
theorem nodeAt_any (w : World) (bc : Nat) (A : Option Addr) (n c K : Nat) (hc : Cur w bc A n c K) (hK : K ≤ 200000) (hn : n ≤ 1048576) (Al : Option Addr) (m cl : Nat) (hm : m ≤ 300) :
    Calls Tryd.prog 79 #[.pointer (some ⟨bc, 0, none⟩), .slice Al m cl] w fun e w' => ∃ x : Int, e = .returned (.int .i64 x) ∧ Cur w' bc A n c (K + 10) ∧ Kp bc w w' := by
  have hlt := hc.lt
  go_enter Tryd.func79, Tryd.ntmps79
  go_wp2_with fail
  refine (once_any w bc A n c K 6 hc (by omega) (by omega) hn).mono ?_
  rintro e w1 ⟨r, rfl, hc1, hk1⟩
  have HC1 := Lib.hid hc1
  have HK1 := Lib.hid hk1
  have hlt1 := hc1.lt
  have hraw : r = true ∨ m = 0 ∨ (r = false ∧ 0 < m) := by
    cases r with
    | true => exact .inl rfl
    | false =>
      by_cases h : m = 0
      · exact .inr (.inl h)
      · exact .inr (.inr ⟨rfl, by omega⟩)
  clear hc hc1 hk1
  rcases hraw with rfl | rfl | ⟨rfl, hm0⟩
  · go_wp2_with fail
    refine (raw_any w1 bc A n c (K + 1) HC1.out (by omega) hn).mono ?_
    rintro e w2 ⟨x, rfl, hc2, hk2⟩
    obtain ⟨W3, hW3⟩ : ∃ X, w2.alloc (.cells #[.int .i64 (m : Int), .int .i64 x] 3) = X := ⟨_, rfl⟩
    have hb3 : Below w2.heap.size w2 W3 := by rw [← hW3]; exact (Below.refl _ _).alloc (Nat.le_refl _) _
    have hbl : Blk W3 w2.heap.size 3 #[.int .i64 (m : Int), .int .i64 x] := by rw [← hW3]; exact Blk.made _ _ _
    have HC3 : Hid (Cur W3 bc A n c (K + 1 + 2)) := hc2.below hb3
    have HK3 : Hid (Kp bc w W3) := (HK1.out.trans hk2).trans (Kp.of_below hb3)
    have HBL := Lib.hid hbl
    have hlt2 := hc2.lt
    clear hc2 hk2 hb3 hbl HC1 HK1
    go_wp2_with fail
    refine (pick_any W3 bc A n c (K + 1 + 2) 2 HC3.out (by omega) (by omega) hn).mono ?_
    rintro e w4 ⟨r2, rfl, hr2, hc4, hk4⟩
    have hr2' : r2 < 2 := by omega
    have hr2i : (r2 : Int) < 2 := by omega
    obtain ⟨z, hz⟩ := two_at (Kp.blk HBL.out hk4 (by omega)) hr2'
    have HC4 : Hid (Cur w4 bc A n c (K + 10)) := hc4.more (by omega)
    have HK4 := Lib.hid (HK3.out.trans hk4)
    clear hc4 hk4 HC3 HK3 HBL hW3 hr2
    go_wp2
    go_ret
    exact ⟨z, rfl, HC4.out, HK4.out⟩
  · go_wp2_with fail
    all_goals
      refine (raw_any w1 bc A n c (K + 1) HC1.out (by omega) hn).mono ?_
      rintro e w2 ⟨x, rfl, hc2, hk2⟩
      obtain ⟨W3, hW3⟩ : ∃ X, w2.alloc (.cells #[.int .i64 0, .int .i64 x] 3) = X := ⟨_, rfl⟩
      have hb3 : Below w2.heap.size w2 W3 := by rw [← hW3]; exact (Below.refl _ _).alloc (Nat.le_refl _) _
      have hbl : Blk W3 w2.heap.size 3 #[.int .i64 0, .int .i64 x] := by rw [← hW3]; exact Blk.made _ _ _
      have HC3 : Hid (Cur W3 bc A n c (K + 1 + 2)) := hc2.below hb3
      have HK3 : Hid (Kp bc w W3) := (HK1.out.trans hk2).trans (Kp.of_below hb3)
      have HBL := Lib.hid hbl
      have hlt2 := hc2.lt
      clear hc2 hk2 hb3 hbl HC1 HK1
      go_wp2_with fail
      refine (pick_any W3 bc A n c (K + 1 + 2) 2 HC3.out (by omega) (by omega) hn).mono ?_
      rintro e w4 ⟨r2, rfl, hr2, hc4, hk4⟩
      have hr2' : r2 < 2 := by omega
      have hr2i : (r2 : Int) < 2 := by omega
      obtain ⟨z, hz⟩ := two_at (Kp.blk HBL.out hk4 (by omega)) hr2'
      have HC4 : Hid (Cur w4 bc A n c (K + 10)) := hc4.more (by omega)
      have HK4 := Lib.hid (HK3.out.trans hk4)
      clear hc4 hk4 HC3 HK3 HBL hW3 hr2
      go_wp2
      go_ret
      exact ⟨z, rfl, HC4.out, HK4.out⟩
  · have hne : ((m : Int) == 0) = false := by simp; omega
    go_wp2_with fail
    refine (pick_any w1 bc A n c (K + 1) m HC1.out (by omega) (by omega) hn).mono ?_
    rintro e w2 ⟨r2, rfl, hr2, hc2, hk2⟩
    have HC4 : Hid (Cur w2 bc A n c (K + 10)) := hc2.more (by omega)
    have HK4 := Lib.hid (HK1.out.trans hk2)
    clear hc2 hk2 hr2
    go_wp2
    go_ret
    exact ⟨r2, rfl, HC4.out, HK4.out⟩

def DrawArPart (w : World) (e : Ending) (w' : World) : Prop :=
  ∃ (g cap m : Nat) (l : List Nd) (x : Int), e = .returned (.tuple #[.slice (some ⟨g, 0, none⟩) m cap, .int .i64 x]) ∧ m ≤ 300 ∧ OwnN w' w.heap.size (some ⟨g, 0, none⟩) m cap l ∧ Below w.heap.size w w'
def DrawArPut (w : World) (e : Ending) (w' : World) : Prop :=
  ∃ (g cap m : Nat) (l : List Nd) (g2 c2 m2 : Nat) (t : List (Int × Int)), e = .returned (.tuple #[.slice (some ⟨g, 0, none⟩) m cap, .slice (some ⟨g2, 0, none⟩) m2 c2]) ∧ m ≤ 300 ∧ m2 ≤ 25 ∧ OwnN w' w.heap.size (some ⟨g, 0, none⟩) m cap l ∧ OwnT w' w.heap.size (some ⟨g2, 0, none⟩) m2 c2 t ∧ Below w.heap.size w w'

set_option maxRecDepth 100000 in
set_option maxHeartbeats 4000000 in
theorem drawArPart_any (w : World) (B : Nat) (A : Option Addr) (n c : Nat) (hB : B ≤ w.heap.size) (hb : BytR w B A n) (hn : n ≤ 1048576) :
    Calls Tryd.prog 36 #[.slice A n c] w (DrawArPart w) := by
  go_enter Tryd.func36, Tryd.ntmps36
  go_wp2_with fail
  refine (open_any w B A n c hB hb hn).mono ?_
  rintro e w1 ⟨rfl, hb1, hc1⟩
  have hs1 := hb1.size
  have hlt := hc1.lt
  go_wp2_with fail
  refine (arena_any w1 w.heap.size A n c 0 hc1 (by omega) hn).mono ?_
  rintro e w2 ⟨g, cap, m, l, rfl, hm, ho2, hc2, hk2⟩
  have HB2 := Lib.hid (Kp.below hb1 hk2 (Nat.le_refl _) hs1)
  have HC2 := Lib.hid hc2
  have HO2 := Lib.hid ho2
  have hs2 : w.heap.size ≤ w2.heap.size := HB2.out.size
  clear hc1 hc2 hk2 ho2
  go_wp2_with fail
  refine (nodeAt_any w2 w.heap.size A n c (0 + 800) HC2.out (by omega) hn (some ⟨g, 0, none⟩) m cap hm).mono ?_
  rintro e w3 ⟨x, rfl, hc3, hk3⟩
  have HB3 := Lib.hid (Kp.below HB2.out hk3 (Nat.le_refl _) hs2)
  have HO3 : Hid (OwnN w3 w.heap.size (some ⟨g, 0, none⟩) m cap l) := own_base (Kp.own HO2.out hk3 hlt) hs1
  clear hc3 hk3 HO2 HC2
  go_wp2
  go_ret2
  exact ⟨g, cap, m, l, x, rfl, hm, HO3.out, HB3.out⟩

set_option maxRecDepth 100000 in
set_option maxHeartbeats 4000000 in
theorem drawArPut_any (w : World) (B : Nat) (A : Option Addr) (n c : Nat) (hB : B ≤ w.heap.size) (hb : BytR w B A n) (hn : n ≤ 1048576) :
    Calls Tryd.prog 30 #[.slice A n c] w (DrawArPut w) := by
  go_enter Tryd.func30, Tryd.ntmps30
  go_wp2_with fail
  refine (open_any w B A n c hB hb hn).mono ?_
  rintro e w1 ⟨rfl, hb1, hc1⟩
  have hs1 := hb1.size
  have hlt := hc1.lt
  go_wp2_with fail
  refine (arena_any w1 w.heap.size A n c 0 hc1 (by omega) hn).mono ?_
  rintro e w2 ⟨g, cap, m, l, rfl, hm, ho2, hc2, hk2⟩
  have HB2 := Lib.hid (Kp.below hb1 hk2 (Nat.le_refl _) hs1)
  have HC2 := Lib.hid hc2
  have HO2 := Lib.hid ho2
  have hs2 : w.heap.size ≤ w2.heap.size := HB2.out.size
  clear hc1 hc2 hk2 ho2
  go_wp2_with fail
  refine (badLevel_any w2 w.heap.size A n c (0 + 800) HC2.out (by omega) hn).mono ?_
  rintro e w3 ⟨g2, c2, t, rfl, ht1, ht2, ho3, hc3, hk3⟩
  have HB3 := Lib.hid (Kp.below HB2.out hk3 (Nat.le_refl _) hs2)
  have HO3 : Hid (OwnN w3 w.heap.size (some ⟨g, 0, none⟩) m cap l) := own_base (Kp.own HO2.out hk3 hlt) hs1
  have HT3 := Lib.hid (own_base (base' := w.heap.size) ho3 hs2)
  clear hc3 hk3 HO2 HC2 ho3
  go_wp2
  go_ret2
  exact ⟨g, cap, m, l, g2, c2, t.length, t, rfl, hm, ht2, HO3.out, HT3.out, HB3.out⟩

end Go.Proofs.YtfmhmnpmdjpmeaaDoor

namespace Go.Proofs.YtfmhmnpmdjpmeaaDoor
open Go.RowKit

abbrev Tks := List (Int × Int)
def lvlT (vals : List Tks) (o u a b : Int) : Tks := ((opsR a b).flatMap fun z => vals.getD z.toNat []) ++ [(o, u)]
def lvlV (vals : List Tks) (o u a b : Int) : Tks := if Lv.levelOk (lvlT vals o u a b) = true then lvlT vals o u a b else []
/-- the levels of the first k nodes, each written out whole -/
def flR (l : List Nd) : Nat → List Tks
  | 0 => []
  | k + 1 => flR l k ++ [lvlT (flR l k) (l.getD k nd0).1 (l.getD k nd0).2.1 (l.getD k nd0).2.2.1 (l.getD k nd0).2.2.2]
/-- .. none where it is too long -/
def lvR (l : List Nd) : Nat → List Tks
  | 0 => []
  | k + 1 => lvR l k ++ [lvlV (lvR l k) (l.getD k nd0).1 (l.getD k nd0).2.1 (l.getD k nd0).2.2.1 (l.getD k nd0).2.2.2]
theorem flR_len (l : List Nd) : ∀ k, (flR l k).length = k
  | 0 => rfl
  | k + 1 => by rw [flR, List.length_append, flR_len l k]; rfl
theorem lvR_len (l : List Nd) : ∀ k, (lvR l k).length = k
  | 0 => rfl
  | k + 1 => by rw [lvR, List.length_append, lvR_len l k]; rfl
def flN (l : List Nd) (j : Nat) : Tks := (flR l (j + 1)).getD j []
def lvN (l : List Nd) (j : Nat) : Tks := (lvR l (j + 1)).getD j []
theorem flR_get (l : List Nd) (j k : Nat) (h : j < k) : (flR l k).getD j [] = flN l j := by
  induction k with
  | zero => omega
  | succ k ih =>
    by_cases e : j = k
    · subst e; rfl
    · rw [flR, List.getD_eq_getElem?_getD, List.getElem?_append_left (by rw [flR_len]; omega), ← List.getD_eq_getElem?_getD]
      exact ih (by omega)
theorem lvR_get (l : List Nd) (j k : Nat) (h : j < k) : (lvR l k).getD j [] = lvN l j := by
  induction k with
  | zero => omega
  | succ k ih =>
    by_cases e : j = k
    · subst e; rfl
    · rw [lvR, List.getD_eq_getElem?_getD, List.getElem?_append_left (by rw [lvR_len]; omega), ← List.getD_eq_getElem?_getD]
      exact ih (by omega)
theorem last_getD {α : Type} (l : List α) (x d : α) (k : Nat) (h : l.length = k) : (l ++ [x]).getD k d = x := by
  rw [List.getD_eq_getElem?_getD, List.getElem?_append_right (by omega), h]
  simp
theorem flN_eq (l : List Nd) (k : Nat) : flN l k = lvlT (flR l k) (l.getD k nd0).1 (l.getD k nd0).2.1 (l.getD k nd0).2.2.1 (l.getD k nd0).2.2.2 := by
  unfold flN
  rw [flR]
  exact last_getD _ _ _ _ (flR_len l k)
theorem lvN_eq (l : List Nd) (k : Nat) : lvN l k = lvlV (lvR l k) (l.getD k nd0).1 (l.getD k nd0).2.1 (l.getD k nd0).2.2.1 (l.getD k nd0).2.2.2 := by
  unfold lvN
  rw [lvR]
  exact last_getD _ _ _ _ (lvR_len l k)
theorem hts_add : ∀ (l : Tks) (n m d : Int), 0 ≤ d → Lv.hts l n = some m → Lv.hts l (n + d) = some (m + d)
  | [], n, m, d, _, h => by simp only [Lv.hts, Option.some.injEq] at h ⊢; omega
  | t :: r, n, m, d, hd, h => by
    simp only [Lv.hts] at h ⊢
    split at h
    · rename_i hc
      rw [if_pos ⟨hc.1, by have := hc.2; omega⟩]
      have := hts_add r _ m d hd h
      rw [show n + d - Lv.takes t.1 + 1 = n - Lv.takes t.1 + 1 + d by omega]
      exact this
    · cases h
theorem lvlOk_iff (t : Tks) : Lv.levelOk t = true ↔ 1 ≤ t.length ∧ t.length ≤ 24 ∧ Lv.hts t 0 = some 1 := by
  simp only [Lv.levelOk, Bool.and_eq_true, decide_eq_true_eq, and_assoc]
/-- the tokens of a node over what its operands have -/
theorem lvlT_cases {vals : List Tks} {o u a b : Int} {k : Nat} (h : ndOk (o, u, a, b) k = true) :
    ((o = 0 ∨ o = 4) ∧ lvlT vals o u a b = [(o, u)] ∧ Lv.tkOk (o, u) = true) ∨ (o = 1 ∧ u = 0 ∧ b.toNat < k ∧ lvlT vals o u a b = vals.getD b.toNat [] ++ [(1, 0)]) ∨
    ((o = 2 ∨ o = 3) ∧ u = 0 ∧ a.toNat < k ∧ b.toNat < k ∧ lvlT vals o u a b = vals.getD a.toNat [] ++ (vals.getD b.toNat [] ++ [(o, 0)])) := by
  rcases ndOk_cases h with ⟨rfl, rfl, rfl, rfl⟩ | ⟨rfl, h0, h1, rfl, rfl⟩ | ⟨rfl, rfl, rfl, h0, h1⟩ | ⟨ho, rfl, h0, h1, h2, h3⟩
  · exact .inl ⟨.inl rfl, rfl, rfl⟩
  · exact .inl ⟨.inr rfl, rfl, by simp [Lv.tkOk]; omega⟩
  · have hb : ¬ b = -1 := by omega
    refine .inr (.inl ⟨rfl, rfl, by omega, ?_⟩)
    simp [lvlT, opsTo, opP, hb]
  · have ha : ¬ a = -1 := by omega
    have hb : ¬ b = -1 := by omega
    refine .inr (.inr ⟨ho, rfl, by omega, by omega, ?_⟩)
    simp [lvlT, opsTo, opP, ha, hb]
theorem hts_snoc (t : Tks) (o : Int) {m : Int} (ho : o = 1 ∨ o = 2 ∨ o = 3) (h : Lv.hts t 0 = some m) (hm : Lv.takes o ≤ m) : Lv.hts (t ++ [(o, 0)]) 0 = some (m - Lv.takes o + 1) := by
  have hk : Lv.tkOk (o, 0) = true := by rcases ho with rfl | rfl | rfl <;> rfl
  rw [Lv.hts_append, h, Option.bind_some]
  simp only [Lv.hts]
  rw [if_pos ⟨hk, hm⟩]
theorem hts_short (t : Tks) (o : Int) {m : Int} (h : Lv.hts t 0 = some m) (hm : m < Lv.takes o) : Lv.hts (t ++ [(o, 0)]) 0 = none := by
  rw [Lv.hts_append, h, Option.bind_some]
  simp only [Lv.hts]
  rw [if_neg (by rintro ⟨_, h⟩; omega)]
/-- each node's level, written out whole, leaves one number; where it is not too long it is what the program has -/
theorem fl_lv {l : List Nd} {n : Nat} (hall : NdAll l n) : ∀ k, k < n → Lv.hts (flN l k) 0 = some 1 ∧ 1 ≤ (flN l k).length ∧ lvN l k = if (flN l k).length ≤ 24 then flN l k else [] := by
  intro k
  induction k using Nat.strongRecOn with
  | ind k ih =>
    intro hk
    have hok := (hall k hk).1
    obtain ⟨t, ht⟩ : ∃ t, l.getD k nd0 = t := ⟨_, rfl⟩
    have hf := flN_eq l k
    have hv := lvN_eq l k
    rw [ht] at hok hf hv
    obtain ⟨o, u, a, b⟩ := t
    simp only at hf hv
    unfold lvlV at hv
    rcases lvlT_cases (vals := flR l k) hok with ⟨ho, e1, htk⟩ | ⟨rfl, rfl, hb, e1⟩ | ⟨ho, rfl, ha, hb, e1⟩
    · rcases lvlT_cases (vals := lvR l k) hok with ⟨_, e2, _⟩ | ⟨rfl, _⟩ | ⟨rfl | rfl, _⟩
      · rw [e1] at hf
        rw [e2] at hv
        have h1 : Lv.hts [(o, u)] 0 = some 1 := by
          simp only [Lv.hts]
          rw [if_pos ⟨htk, by rcases ho with rfl | rfl <;> decide⟩]
          rcases ho with rfl | rfl <;> rfl
        rw [hf]
        refine ⟨h1, by simp, ?_⟩
        rw [hv, if_pos ((lvlOk_iff _).2 ⟨by simp, by simp, h1⟩), if_pos (by simp)]
      · rcases ho with h | h <;> cases h
      · rcases ho with h | h <;> cases h
      · rcases ho with h | h <;> cases h
    · rcases lvlT_cases (vals := lvR l k) hok with ⟨h | h, _⟩ | ⟨_, _, _, e2⟩ | ⟨h | h, _⟩
      · cases h
      · cases h
      · obtain ⟨h1, h2, h3⟩ := ih _ hb (by omega)
        rw [flR_get l _ k hb] at e1
        rw [lvR_get l _ k hb] at e2
        rw [e1] at hf
        rw [e2] at hv
        have hh : Lv.hts (flN l b.toNat ++ [(1, 0)]) 0 = some 1 := hts_snoc _ 1 (.inl rfl) h1 (by decide)
        rw [hf]
        refine ⟨hh, by simp, ?_⟩
        rw [hv, h3]
        by_cases hlen : (flN l b.toNat).length ≤ 24
        · rw [if_pos hlen]
          by_cases hl2 : (flN l b.toNat ++ [(1, 0)]).length ≤ 24
          · rw [if_pos ((lvlOk_iff _).2 ⟨by simp, hl2, hh⟩), if_pos hl2]
          · rw [if_neg (fun hc => hl2 ((lvlOk_iff _).1 hc).2.1), if_neg hl2]
        · rw [if_neg hlen, if_neg (fun hc => by have := ((lvlOk_iff _).1 hc).2.2; rw [hts_short [] 1 rfl (by decide)] at this; cases this), if_neg (by simp; omega)]
      · cases h
      · cases h
    · rcases lvlT_cases (vals := lvR l k) hok with ⟨h | h, _⟩ | ⟨rfl, _⟩ | ⟨_, _, _, _, e2⟩
      · rcases ho with e | e <;> omega
      · rcases ho with e | e <;> omega
      · rcases ho with h | h <;> cases h
      · obtain ⟨h1, h2, h3⟩ := ih _ ha (by omega)
        obtain ⟨p1, p2, p3⟩ := ih _ hb (by omega)
        rw [flR_get l _ k ha, flR_get l _ k hb] at e1
        rw [lvR_get l _ k ha, lvR_get l _ k hb] at e2
        rw [e1] at hf
        rw [e2] at hv
        have ht2 : Lv.takes o = 2 := by rcases ho with rfl | rfl <;> rfl
        have hab : Lv.hts (flN l a.toNat ++ flN l b.toNat) 0 = some 2 := by
          rw [Lv.hts_append, h1, Option.bind_some]
          exact hts_add _ 0 1 1 (by omega) p1
        have hh : Lv.hts (flN l a.toNat ++ (flN l b.toNat ++ [(o, 0)])) 0 = some 1 := by
          rw [← List.append_assoc]
          have := hts_snoc _ o (.inr ho) hab (by omega)
          rw [ht2] at this
          exact this
        have hge : 1 ≤ (flN l a.toNat ++ (flN l b.toNat ++ [(o, 0)])).length := by simp; omega
        have hbad : ∀ t : Tks, Lv.hts t 0 = some 1 → Lv.hts (t ++ [(o, 0)]) 0 = none := fun t h => hts_short t o h (by omega)
        have hbad0 : Lv.hts ([] ++ [(o, 0)]) 0 = none := hts_short [] o (m := 0) rfl (by omega)
        rw [hf]
        refine ⟨hh, hge, ?_⟩
        rw [hv, h3, p3]
        by_cases hla : (flN l a.toNat).length ≤ 24
        · rw [if_pos hla]
          by_cases hlb : (flN l b.toNat).length ≤ 24
          · rw [if_pos hlb]
            by_cases hl2 : (flN l a.toNat ++ (flN l b.toNat ++ [(o, 0)])).length ≤ 24
            · rw [if_pos ((lvlOk_iff _).2 ⟨hge, hl2, hh⟩), if_pos hl2]
            · rw [if_neg (fun hc => hl2 ((lvlOk_iff _).1 hc).2.1), if_neg hl2]
          · rw [if_neg hlb, if_neg (fun hc => by have := ((lvlOk_iff _).1 hc).2.2; rw [List.nil_append, hbad _ h1] at this; cases this), if_neg (by simp; omega)]
        · rw [if_neg hla]
          by_cases hlb : (flN l b.toNat).length ≤ 24
          · rw [if_pos hlb, if_neg (fun hc => by have := ((lvlOk_iff _).1 hc).2.2; rw [List.nil_append, hbad _ p1] at this; cases this), if_neg (by simp; omega)]
          · rw [if_neg hlb, if_neg (fun hc => by have := ((lvlOk_iff _).1 hc).2.2; rw [List.nil_append, hbad0] at this; cases this), if_neg (by simp; omega)]
/-- what ArenaLevel answers -/
def alvR (l : List Nd) (n : Nat) (x : Int) : Option Tks := if (arenaOkR l && idxR n [x]) = true then (if (flN l x.toNat).length ≤ 24 then some (flN l x.toNat) else none) else none
end Go.Proofs.YtfmhmnpmdjpmeaaDoor

namespace Go.Proofs.YtfmhmnpmdjpmeaaDoor
open Go.RowKit

/-- the value of node k -/
def avN (env : List Int) (l : List Nd) (k : Nat) : Int := (avR env l (k + 1)).getD k 0
theorem avN_eq (env : List Int) (l : List Nd) (k : Nat) : avN env l k = nodeV env (avR env l k) (l.getD k nd0).1 (l.getD k nd0).2.1 (l.getD k nd0).2.2.1 (l.getD k nd0).2.2.2 := by
  unfold avN
  rw [avR]
  exact last_getD _ _ _ _ (avR_len env l k)
theorem avN_get (env : List Int) (l : List Nd) {j k : Nat} (h : j < k) : (avR env l k).getD j 0 = avN env l j := avR_get l j k h
theorem nodeV_cases {env vals : List Int} {o u a b : Int} {k : Nat} (h : ndOk (o, u, a, b) k = true) :
    ((o = 0 ∨ o = 4) ∧ nodeV env vals o u a b = (if o = 4 then env.getD u.toNat 0 else 0)) ∨ (o = 1 ∧ a = -1 ∧ 0 ≤ b ∧ b < k ∧ nodeV env vals o u a b = vals.getD b.toNat 0 + 1) ∨
    ((o = 2 ∨ o = 3) ∧ 0 ≤ a ∧ a < k ∧ 0 ≤ b ∧ b < k ∧ nodeV env vals o u a b = (if o = 2 then max (vals.getD a.toNat 0) (vals.getD b.toNat 0) else if vals.getD b.toNat 0 = 0 then 0 else max (vals.getD a.toNat 0) (vals.getD b.toNat 0))) := by
  rcases ndOk_cases h with ⟨rfl, rfl, rfl, rfl⟩ | ⟨rfl, h0, h1, rfl, rfl⟩ | ⟨rfl, rfl, rfl, h0, h1⟩ | ⟨ho, rfl, h0, h1, h2, h3⟩
  · exact .inl ⟨.inl rfl, rfl⟩
  · exact .inl ⟨.inr rfl, rfl⟩
  · exact .inr (.inl ⟨rfl, rfl, h0, h1, rfl⟩)
  · rcases ho with rfl | rfl
    · exact .inr (.inr ⟨.inl rfl, h0, h1, h2, h3, rfl⟩)
    · exact .inr (.inr ⟨.inr rfl, h0, h1, h2, h3, rfl⟩)
section
variable {l : List Nd} {n : Nat} {f : Nat → Bool}
theorem kp_at (l : List Nd) {n i : Nat} {R : Nat → Bool} (hi : i < n) (ri : R i = true) : (leftN l R n).getD (cntK R i) nd0 = newNd R (l.getD i nd0) ∧ cntK R i < (leftN l R n).length := by
  have hlt : cntK R i < (pickTo R n).length := cntK_lt hi ri
  obtain ⟨j, h1, h2, h3, h4⟩ := pickTo_at hlt
  obtain rfl : j = i := cntK_inj h2 ri h3
  have hlen : cntK R j < (leftN l R n).length := by rw [leftN_len]; exact hlt
  refine ⟨?_, hlen⟩
  have hq : (leftN l R n)[cntK R j]? = some (newNd R (l.getD j nd0)) := by
    unfold leftN
    rw [List.getElem?_map, List.getElem?_eq_getElem hlt]
    have e : (pickTo R n)[cntK R j] = (j : Int) := by
      rw [List.getD_eq_getElem?_getD, List.getElem?_eq_getElem hlt] at h4
      simpa using h4
    rw [e]
    simp
  rw [List.getD_eq_getElem?_getD, hq]
  rfl
/-- a kept node is right at its new place -/
theorem kp_nd (hall : NdAll l n) {i : Nat} (hi : i < n) (ri : needD l n f n i = true) : ndOk (newNd (needD l n f n) (l.getD i nd0)) (cntK (needD l n f n) i) = true := by
  have hok := (hall i hi).1
  obtain ⟨c1, c2⟩ := need_closed hall hi ri
  generalize needD l n f n = R at ri c1 c2
  obtain ⟨t, ht⟩ : ∃ t, l.getD i nd0 = t := ⟨_, rfl⟩
  rw [ht] at hok c1 c2 ⊢
  obtain ⟨o, u, a, b⟩ := t
  simp only at c1 c2
  have hop : ∀ x : Int, 0 ≤ x → x < i → (0 ≤ x → R x.toNat = true) → newOp R x = (cntK R x.toNat : Nat) ∧ cntK R x.toNat < cntK R i := fun x h0 h1 h2 => ⟨by unfold newOp; rw [if_pos h0], cntK_lt (by omega) (h2 h0)⟩
  show ndOk (o, u, newOp R a, newOp R b) (cntK R i) = true
  rcases ndOk_cases hok with ⟨rfl, rfl, rfl, rfl⟩ | ⟨rfl, h0, h1, rfl, rfl⟩ | ⟨rfl, rfl, rfl, h0, h1⟩ | ⟨ho, rfl, h0, h1, h2, h3⟩
  · rfl
  · simp [ndOk, tokB, opdB, tkA, tkB, newOp]; omega
  · obtain ⟨e1, e2⟩ := hop b h0 h1 c2
    rw [e1]
    simp [ndOk, tokB, opdB, tkA, tkB, newOp]; omega
  · obtain ⟨e1, e2⟩ := hop a h0 h1 c1
    obtain ⟨e3, e4⟩ := hop b h2 h3 c2
    rw [e1, e3]
    rcases ho with rfl | rfl
    · simp [ndOk, tokB, opdB, tkA, tkB]; omega
    · simp [ndOk, tokB, opdB, tkA, tkB]; omega
/-- what is kept is an arena -/
theorem kp_arena (hl : l.length = n) (hn : n ≤ 200) (hall : NdAll l n) : NdAll (leftN l (needD l n f n) n) (leftN l (needD l n f n) n).length ∧ arenaOkR (leftN l (needD l n f n) n) = true ∧ (leftN l (needD l n f n) n).length ≤ n := by
  have hA : NdAll (leftN l (needD l n f n) n) (leftN l (needD l n f n) n).length := by
    intro q hq
    rw [leftN_len] at hq
    obtain ⟨i, h1, h2, h3, _⟩ := pickTo_at hq
    obtain ⟨e, _⟩ := kp_at l h1 h2
    rw [h3] at e
    rw [e]
    have := kp_nd hall h1 h2
    rw [h3] at this
    exact ⟨this, leftN_new hl hall h1 h2 h3⟩
  have hle : (leftN l (needD l n f n) n).length ≤ n := by rw [leftN_len]; exact pickTo_len _ _
  exact ⟨hA, arena_yes rfl (by omega) hA, hle⟩
/-- .. in which each kept node has its values -/
theorem kp_av (env : List Int) (hall : NdAll l n) : ∀ i, i < n → needD l n f n i = true → avN env (leftN l (needD l n f n) n) (cntK (needD l n f n) i) = avN env l i := by
  intro i
  induction i using Nat.strongRecOn with
  | ind i ih =>
    intro hi ri
    have hok := (hall i hi).1
    have hnew := kp_nd hall hi ri
    obtain ⟨c1, c2⟩ := need_closed hall hi ri
    obtain ⟨e, _⟩ := kp_at l hi ri
    have h1 := avN_eq env (leftN l (needD l n f n) n) (cntK (needD l n f n) i)
    have h2 := avN_eq env l i
    rw [e] at h1
    generalize hR : needD l n f n = R at *
    obtain ⟨t, ht⟩ : ∃ t, l.getD i nd0 = t := ⟨_, rfl⟩
    rw [ht] at hok hnew h1 h2 c1 c2
    obtain ⟨o, u, a, b⟩ := t
    simp only [newNd] at hnew h1 h2 c1 c2
    have hop : ∀ x : Int, 0 ≤ x → x < i → (0 ≤ x → R x.toNat = true) → (avR env (leftN l R n) (cntK R i)).getD (newOp R x).toNat 0 = avN env l x.toNat := by
      intro x h0 h1 h2
      have hlt := cntK_lt (R := R) (i := x.toNat) (j := i) (by omega) (h2 h0)
      unfold newOp
      rw [if_pos h0, Int.toNat_natCast, avN_get env _ hlt]
      exact ih _ (by omega) (by omega) (h2 h0)
    rw [h1, h2]
    rcases nodeV_cases (env := env) (vals := avR env l i) hok with ⟨ho, e1⟩ | ⟨rfl, rfl, h0, h1', e1⟩ | ⟨ho, ha0, ha1, hb0, hb1, e1⟩
    · rcases nodeV_cases (env := env) (vals := avR env (leftN l R n) (cntK R i)) hnew with ⟨_, e2⟩ | ⟨rfl, _⟩ | ⟨h, _⟩
      · rw [e1, e2]
      · omega
      · omega
    · rcases nodeV_cases (env := env) (vals := avR env (leftN l R n) (cntK R i)) hnew with ⟨h, _⟩ | ⟨_, _, _, _, e2⟩ | ⟨h, _⟩
      · omega
      · rw [e1, e2, hop b h0 h1' c2, avN_get env l (by omega)]
      · omega
    · rcases nodeV_cases (env := env) (vals := avR env (leftN l R n) (cntK R i)) hnew with ⟨h, _⟩ | ⟨rfl, _⟩ | ⟨_, _, _, _, _, e2⟩
      · omega
      · omega
      · rw [e1, e2, hop a ha0 ha1 c1, hop b hb0 hb1 c2, avN_get env l (by omega), avN_get env l (by omega)]
/-- .. and its level -/
theorem kp_fl (hall : NdAll l n) : ∀ i, i < n → needD l n f n i = true → flN (leftN l (needD l n f n) n) (cntK (needD l n f n) i) = flN l i := by
  intro i
  induction i using Nat.strongRecOn with
  | ind i ih =>
    intro hi ri
    have hok := (hall i hi).1
    have hnew := kp_nd hall hi ri
    obtain ⟨c1, c2⟩ := need_closed hall hi ri
    obtain ⟨e, _⟩ := kp_at l hi ri
    have h1 := flN_eq (leftN l (needD l n f n) n) (cntK (needD l n f n) i)
    have h2 := flN_eq l i
    rw [e] at h1
    generalize hR : needD l n f n = R at *
    obtain ⟨t, ht⟩ : ∃ t, l.getD i nd0 = t := ⟨_, rfl⟩
    rw [ht] at hok hnew h1 h2 c1 c2
    obtain ⟨o, u, a, b⟩ := t
    simp only [newNd] at hnew h1 h2 c1 c2
    have hop : ∀ x : Int, 0 ≤ x → x < i → (0 ≤ x → R x.toNat = true) → (flR (leftN l R n) (cntK R i)).getD (newOp R x).toNat [] = flN l x.toNat := by
      intro x h0 h1 h2
      have hlt := cntK_lt (R := R) (i := x.toNat) (j := i) (by omega) (h2 h0)
      unfold newOp
      rw [if_pos h0, Int.toNat_natCast, flR_get _ _ _ hlt]
      exact ih _ (by omega) (by omega) (h2 h0)
    have hnd := ndOk_cases hok
    rw [h1, h2]
    rcases lvlT_cases (vals := flR l i) hok with ⟨ho, e1, _⟩ | ⟨rfl, rfl, hb, e1⟩ | ⟨ho, rfl, ha, hb, e1⟩
    · rcases lvlT_cases (vals := flR (leftN l R n) (cntK R i)) hnew with ⟨_, e2, _⟩ | ⟨rfl, _⟩ | ⟨h, _⟩
      · rw [e1, e2]
      · omega
      · omega
    · rcases lvlT_cases (vals := flR (leftN l R n) (cntK R i)) hnew with ⟨h, _⟩ | ⟨_, _, _, e2⟩ | ⟨h, _⟩
      · omega
      · rw [e1, e2, hop b (by omega) (by omega) c2, flR_get l _ i hb]
      · omega
    · rcases lvlT_cases (vals := flR (leftN l R n) (cntK R i)) hnew with ⟨h, _⟩ | ⟨rfl, _⟩ | ⟨_, _, _, _, e2⟩
      · omega
      · omega
      · rw [e1, e2, hop a (by omega) (by omega) c1, hop b (by omega) (by omega) c2, flR_get l _ i ha, flR_get l _ i hb]
end
end Go.Proofs.YtfmhmnpmdjpmeaaDoor
