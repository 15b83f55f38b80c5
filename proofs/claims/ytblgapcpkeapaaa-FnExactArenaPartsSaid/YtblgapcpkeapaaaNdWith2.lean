/- The arena of a list: newArena, arenaWith. -/
/- What a node consists of: the mathematics. -/
/- What a node consists of: the program's operands. -/
/- The arena of a list: arenaWith. -/
import Derived.Test.YtblgapcpkeapaaaNdOk
import Derived.Maps.AppendAt

namespace Go.Proofs.Ytblgapcpkeapaaa
open Go.RowKit Go.Maps

/-- the first k nodes are right, each at its place, no two equal -/
def NdAll (l : List Nd) (k : Nat) : Prop := ∀ i, i < k → ndOk (l.getD i nd0) i = true ∧ l.getD i nd0 ∉ l.take i
instance (l : List Nd) (k : Nat) : Decidable (NdAll l k) := by unfold NdAll; infer_instance
def arenaOkR (l : List Nd) : Bool := decide (l.length ≤ 200) && decide (NdAll l l.length)
/-- each index is that of a node -/
def idxR (n : Nat) (is : List Int) : Bool := is.all fun i => decide (0 ≤ i) && decide (i < n)
theorem ndAll_zero (l : List Nd) : NdAll l 0 := fun i hi => absurd hi (by omega)
theorem ndAll_step {l : List Nd} {k : Nat} (h : NdAll l k) (h1 : ndOk (l.getD k nd0) k = true) (h2 : l.getD k nd0 ∉ l.take k) : NdAll l (k + 1) := fun i hi => by
  by_cases e : i = k
  · subst e; exact ⟨h1, h2⟩
  · exact h i (by omega)
theorem arena_yes {l : List Nd} {n : Nat} (hl : l.length = n) (hn : n ≤ 200) (h : NdAll l n) : arenaOkR l = true := by
  subst hl
  simp [arenaOkR, hn, h]
theorem arena_no {l : List Nd} {n k : Nat} (hl : l.length = n) (hk : k < n) (h : ¬ (ndOk (l.getD k nd0) k = true ∧ l.getD k nd0 ∉ l.take k)) : arenaOkR l = false := by
  subst hl
  unfold arenaOkR
  rw [Bool.and_eq_false_iff]
  right
  rw [decide_eq_false_iff_not]
  intro h'
  exact h (h' k hk)
theorem arena_big {l : List Nd} {n : Nat} (hl : l.length = n) (hn : 200 < n) : arenaOkR l = false := by
  subst hl
  unfold arenaOkR
  rw [decide_eq_false (by omega)]
  rfl
theorem take_succ_getD {l : List Nd} {k : Nat} (hk : k < l.length) : l.take (k + 1) = l.take k ++ [l.getD k nd0] := by
  rw [List.take_add_one, List.getElem?_eq_getElem hk]
  simp [List.getD_eq_getElem?_getD, hk]
theorem ndOk_wf {o u a b : Int} {k : Nat} (hk : k ≤ 1048576) (h : ndOk (o, u, a, b) k = true) : ndWf (o, u, a, b) := by
  unfold ndOk at h
  rw [Bool.and_eq_true, Bool.and_eq_true] at h
  obtain ⟨⟨h1, h2⟩, h3⟩ := h
  have hx : ∀ x t, opdB x t k = true → -1 ≤ x ∧ x ≤ 1048576 := by
    intro x t hx
    unfold opdB at hx
    split at hx <;> simp at hx <;> omega
  have a1 : -1 ≤ a ∧ a ≤ 1048576 := hx _ _ h2
  have a2 : -1 ≤ b ∧ b ≤ 1048576 := hx _ _ h3
  have a3 : (0 ≤ o ∧ o ≤ 4) ∧ (0 ≤ u ∧ u ≤ 5) := by
    simp only [tokB] at h1
    split at h1 <;> simp at h1 <;> omega
  exact ⟨WalkArith.wf_i64 (show -9223372036854775808 ≤ o ∧ o ≤ 9223372036854775807 by omega), WalkArith.wf_i64 (show -9223372036854775808 ≤ u ∧ u ≤ 9223372036854775807 by omega), WalkArith.wf_i64 (show -9223372036854775808 ≤ a ∧ a ≤ 9223372036854775807 by omega), WalkArith.wf_i64 (show -9223372036854775808 ≤ b ∧ b ≤ 9223372036854775807 by omega)⟩
/-- what arenaWith answers -/
def awV (g : Nat) (ok : Bool) : Value := .tuple #[.pointer (if ok = true then some ⟨g, 0, none⟩ else none), .bool ok]

set_option maxHeartbeats 800000 in
theorem newArena_any (w : World) : Calls Try.prog 44 #[] w fun e w' => e = .returned (.pointer (some ⟨w.heap.size + 1, 0, none⟩)) ∧ Below w.heap.size w w' ∧ ArO w' w.heap.size (w.heap.size + 1) w.heap.size none 0 0 (.map []) [] := by
  have hmm := @run_makeMap Try.prog
  have hbox : Blk ((w.alloc (.map #[] 0)).alloc (.cells #[.slice none 0 0, .map (some w.heap.size)] 73)) (w.heap.size + 1) 73 #[.slice none 0 0, .map (some w.heap.size)] := by
    have h := Blk.made (w.alloc (.map #[] 0)) 73 #[.slice none 0 0, .map (some w.heap.size)]
    simpa using h
  have HA : Hid (ArO ((w.alloc (.map #[] 0)).alloc (.cells #[.slice none 0 0, .map (some w.heap.size)] 73)) w.heap.size (w.heap.size + 1) w.heap.size none 0 0 (.map []) []) :=
    ⟨by omega, Nat.le_refl _, hbox, World.ownsRow_nil _ _ _ _, (World.ownsMap_made _ _ _ _).alloc _, gn_start⟩
  clear hbox
  go_enter Try.func44, Try.ntmps44
  go_wp2
  go_ret
  exact ⟨rfl, ((Below.refl _ _).alloc (Nat.le_refl _) _).alloc (by simp) _, HA.out⟩
end Go.Proofs.Ytblgapcpkeapaaa

namespace Go.Proofs.Ytblgapcpkeapaaa
open Go.RowKit

/-- the cells of a row of bools -/
def bitA (g : Nat → Bool) (n : Nat) : Array Value := ((List.range n).map fun i => Value.bool (g i)).toArray
theorem bitA_size (g : Nat → Bool) (n : Nat) : (bitA g n).size = n := by simp [bitA]
theorem bitA_get (g : Nat → Bool) {n i : Nat} (hi : i < n) : (bitA g n)[i]? = some (.bool (g i)) := by simp [bitA, hi]
/-- the index j is marked, too -/
def bit1 (f : Nat → Bool) (j : Int) : Nat → Bool := fun i => f i || decide ((i : Int) = j)
theorem bitA_set (g : Nat → Bool) (n i : Nat) : (bitA g n).setIfInBounds i (.bool true) = bitA (bit1 g i) n := by
  apply Array.ext_getElem?
  intro k
  by_cases hk : k < n
  · rw [Array.getElem?_setIfInBounds, bitA_get _ hk, bitA_get _ hk, bitA_size]
    unfold bit1
    by_cases e : i = k
    · subst e
      rw [if_pos rfl, if_pos (by omega)]
      simp
    · rw [if_neg e, decide_eq_false (by omega), Bool.or_false]
  · rw [Array.getElem?_eq_none (by rw [Array.size_setIfInBounds, bitA_size]; omega), Array.getElem?_eq_none (by rw [bitA_size]; omega)]
theorem bit1_none (f : Nat → Bool) : bit1 f (-1) = f := by
  funext i
  unfold bit1
  rw [decide_eq_false (by omega), Bool.or_false]
/-- what the node at k consists of is needed where the node is -/
def needN (l : List Nd) (k : Nat) (f : Nat → Bool) : Nat → Bool := if f k = true then bit1 (bit1 f (l.getD k nd0).2.2.1) (l.getD k nd0).2.2.2 else f
/-- the nodes n - 1, n - 2, .. are gone through, c of them -/
def needD (l : List Nd) (n : Nat) (f : Nat → Bool) : Nat → (Nat → Bool)
  | 0 => f
  | c + 1 => needN l (n - 1 - c) (needD l n f c)
/-- what the node i consists of -/
def needR (l : List Nd) (i : Nat) : Nat → Bool := needD l (i + 1) (bit1 (fun _ => false) i) (i + 1)
/-- the indices below n that f marks -/
def pickTo (f : Nat → Bool) : Nat → List Int
  | 0 => []
  | n + 1 => if f n = true then pickTo f n ++ [(n : Int)] else pickTo f n
theorem pickTo_len (f : Nat → Bool) (n : Nat) : (pickTo f n).length ≤ n := by
  induction n with
  | zero => simp [pickTo]
  | succ n ih =>
    unfold pickTo
    split
    · simp; omega
    · omega
theorem ndOk_ops {o u a b : Int} {k : Nat} (h : ndOk (o, u, a, b) k = true) : (a = -1 ∨ (0 ≤ a ∧ a < k)) ∧ (b = -1 ∨ (0 ≤ b ∧ b < k)) := by
  unfold ndOk at h
  rw [Bool.and_eq_true, Bool.and_eq_true] at h
  obtain ⟨⟨_, h2⟩, h3⟩ := h
  have hx : ∀ x t, opdB x t k = true → x = -1 ∨ (0 ≤ x ∧ x < k) := by
    intro x t hx
    unfold opdB at hx
    split at hx <;> simp at hx <;> omega
  exact ⟨hx _ _ h2, hx _ _ h3⟩
theorem needN_high {l : List Nd} {k j : Nat} {f : Nat → Bool} (hok : ndOk (l.getD k nd0) k = true) (hj : k ≤ j) : needN l k f j = f j := by
  obtain ⟨t, ht⟩ : ∃ t, l.getD k nd0 = t := ⟨_, rfl⟩
  rw [ht] at hok
  obtain ⟨o, u, a, b⟩ := t
  obtain ⟨h1, h2⟩ := ndOk_ops hok
  unfold needN
  rw [ht]
  split
  · simp only [bit1]
    rw [decide_eq_false (by omega), decide_eq_false (by omega)]
    simp
  · rfl
/-- from an index on nothing is marked before the node itself is gone through -/
theorem needD_above {l : List Nd} {n i : Nat} (c : Nat) (hc : c + i + 1 ≤ n) : needD l n (bit1 (fun _ => false) i) c = bit1 (fun _ => false) (i : Int) := by
  induction c with
  | zero => rfl
  | succ c ih =>
    have h := ih (by omega)
    unfold needD
    rw [h]
    unfold needN
    rw [if_neg]
    simp only [bit1, Bool.false_or, decide_eq_true_eq]
    omega
theorem needD_from {l : List Nd} {n i : Nat} (hi : i < n) (c : Nat) (hc : c ≤ i + 1) : needD l n (bit1 (fun _ => false) i) (n - 1 - i + c) = needD l (i + 1) (bit1 (fun _ => false) i) c := by
  induction c with
  | zero => exact needD_above _ (by omega)
  | succ c ih =>
    have h := ih (by omega)
    show needD l n _ ((n - 1 - i + c) + 1) = _
    unfold needD
    rw [h, show n - 1 - (n - 1 - i + c) = i + 1 - 1 - c by omega]
theorem needD_all {l : List Nd} {n i : Nat} (hi : i < n) : needD l n (bit1 (fun _ => false) i) n = needR l i := by
  have h := needD_from (l := l) hi (i + 1) (Nat.le_refl _)
  rw [show n - 1 - i + (i + 1) = n by omega] at h
  exact h
/-- what is above the node is not needed -/
theorem needR_above {l : List Nd} {i j : Nat} (hok : NdAll l (i + 1)) (hj : i < j) : needR l i j = false := by
  have h : ∀ c, c ≤ i + 1 → needD l (i + 1) (bit1 (fun _ => false) i) c j = false := by
    intro c hc
    induction c with
    | zero =>
      show bit1 _ _ _ = false
      simp only [bit1, Bool.false_or, decide_eq_false_iff_not]
      omega
    | succ c ih =>
      unfold needD
      rw [needN_high (hok _ (by omega)).1 (by omega)]
      exact ih (by omega)
  exact h (i + 1) (Nat.le_refl _)
theorem pickTo_above {f : Nat → Bool} {i : Nat} (h : ∀ j, i < j → f j = false) (c : Nat) : pickTo f (i + 1 + c) = pickTo f (i + 1) := by
  induction c with
  | zero => rfl
  | succ c ih =>
    show pickTo f ((i + 1 + c) + 1) = _
    rw [show pickTo f ((i + 1 + c) + 1) = if f (i + 1 + c) = true then pickTo f (i + 1 + c) ++ [((i + 1 + c : Nat) : Int)] else pickTo f (i + 1 + c) from rfl, if_neg (by rw [h _ (by omega)]; decide), ih]
end Go.Proofs.Ytblgapcpkeapaaa

namespace Go.Proofs.Ytblgapcpkeapaaa
open Go.RowKit

def opP (x : Int) : List Int := if x = -1 then [] else [x]
def opsTo (a b : Int) : Nat → List Int
  | 0 => []
  | 1 => opP a
  | _ => opP a ++ opP b
/-- what a node is made of -/
abbrev opsR (a b : Int) : List Int := opsTo a b 2
theorem opsTo_step (a b : Int) {k : Nat} (hk : k < 2) : opsTo a b (k + 1) = opsTo a b k ++ opP (if k = 0 then a else b) := by
  match k, hk with
  | 0, _ => rfl
  | 1, _ => rfl
theorem opsTo_len (a b : Int) (k : Nat) : (opsTo a b k).length ≤ k := by
  have h : ∀ x, (opP x).length ≤ 1 := by intro x; unfold opP; split <;> simp
  match k with
  | 0 => simp [opsTo]
  | 1 => exact h a
  | k + 2 =>
    have h1 := h a
    have h2 := h b
    simp [opsTo]
    omega
theorem foldl_ops (f : Nat → Bool) (a b : Int) : (opsR a b).foldl bit1 f = bit1 (bit1 f a) b := by
  have h : ∀ (g : Nat → Bool) x, (opP x).foldl bit1 g = bit1 g x := by
    intro g x
    unfold opP
    split
    · rename_i e; rw [e, bit1_none]; rfl
    · rfl
  show (opP a ++ opP b).foldl bit1 f = _
  rw [List.foldl_append, h, h]

set_option maxRecDepth 100000 in
set_option maxHeartbeats 1600000 in
theorem operands_any (w : World) (o u a b : Int) : Calls Try.prog 62 #[.agg #[.int .i64 o, .int .i64 u, .int .i64 a, .int .i64 b]] w fun e w' => ∃ A c, e = .returned (.slice A (opsR a b).length c) ∧ OwnI w' w.heap.size A (opsR a b).length c (opsR a b) ∧ Below w.heap.size w w' := by
  obtain ⟨i0, hi, hz0, hz1, hz2⟩ := info_parts info_int
  have HB0 : Hid (Below w.heap.size w (w.alloc (.cells #[.int .i64 o, .int .i64 u, .int .i64 a, .int .i64 b] 58))) := (Below.refl _ _).alloc (Nat.le_refl _) _
  have HS : Hid (OwnI (w.alloc (.cells #[.int .i64 o, .int .i64 u, .int .i64 a, .int .i64 b] 58)) w.heap.size none 0 0 (opsTo a b 0)) := World.ownsRow_nil _ _ _ _
  go_enter Try.func62, Try.ntmps62
  go_wp2
  go_loopw [3, 11] (fun v i wr => ∃ (k M : Nat) (A' : Option Addr) (c' : Nat), k ≤ 2 ∧ i = .int .i64 k ∧ v = .slice A' M c' ∧ Hid ((opsTo a b k).length = M) ∧ M ≤ k ∧ Hid (OwnI wr w.heap.size A' M c' (opsTo a b k)) ∧ Hid (Below w.heap.size w wr)) (fun _ i _ => 2 - (intOf i).toNat)
  case atStart => exact ⟨0, 0, none, 0, by omega, rfl, rfl, rfl, Nat.le_refl _, HS.out, HB0.out⟩
  case round =>
    clear HS HB0
    obtain ⟨k, M, A', c', hk, rfl, rfl, HM, hMk, HO, HB⟩ := hrel
    have hsr := HB.out.size
    by_cases hlt : k < 2
    · have h01 : k = 0 ∨ k = 1 := by omega
      rcases h01 with rfl | rfl
      · have hrun : ∀ wx, (Instr.index 115 (.agg #[.int .i64 a, .int .i64 b]) (.int .i64 0)).run Try.prog wx = .ok (.int .i64 a) wx := by intro wx; kernel_rfl
        have HST : Hid (opsTo a b (0 + 1) = opsTo a b 0 ++ opP a) := opsTo_step a b hlt
        by_cases hx : a = -1
        · have ex : (a != -1) = false := by simp [hx]
          have HE : Hid (opsTo a b (0 + 1) = opsTo a b 0) := by
            show _ = _
            rw [HST.out]
            unfold opP
            rw [if_pos hx, List.append_nil]
          clear hx
          go_wp2
          go_roundw
          case rel => exact ⟨0 + 1, M, A', c', by omega, by go_num, rfl, by rw [HE.out]; exact HM, by omega, by rw [HE.out]; exact HO, HB⟩
          case measure => simp [intOf]
        · have ex : (a != -1) = true := by simpa using hx
          have HE : Hid (opsTo a b (0 + 1) = opsTo a b 0 ++ [a]) := by
            show _ = _
            rw [HST.out]
            unfold opP
            rw [if_neg hx]
          have hown := HO.out
          clear hx
          go_wp2_with (at_builtin; refine wpList_append_own _ rfl (.tmp 16) (.tmp 18) 29 rfl w.heap.size 3 i0 (.int .i64 0) 1 8 Try.underlying29 hi hz0 hz1 hz2 rfl (by decide) (.slice A' M c') M ((opsTo a b 0).map (Value.int .i64)) rfl (World.ownsRow.alloc hown _) ⟨wr.heap.size, 0, none⟩ 1 1 [.int .i64 a] rfl rfl (cell_one_new _ _ _) (fun u hu => by simp at hu; subst hu; rfl) (by unfold maxLen; omega) (by omega) (by simp; omega) ?_; intro v' w3 hown' hgrow _)
          obtain ⟨g3, c3, rfl⟩ : ∃ g3 c3, v' = .slice (some ⟨g3, 0, none⟩) (M + 1) c3 := by
            rcases hown'.2 with ⟨_, h⟩ | ⟨g3, c3, _, h, _⟩
            · omega
            · exact ⟨g3, c3, h⟩
          have HB3 : Hid (Below w.heap.size w w3) := (HB.out.alloc hsr _).grown hgrow (by simp; omega) (fun k h => (hown.lt k h).1)
          have HO3 : Hid (OwnI w3 w.heap.size (some ⟨g3, 0, none⟩) (M + 1) c3 (opsTo a b (0 + 1))) := by
            show OwnI _ _ _ _ _ _
            rw [HE.out]
            simpa [OwnI] using hown'
          have HM3 : Hid ((opsTo a b (0 + 1)).length = M + 1) := by
            show _ = _
            rw [HE.out, List.length_append, HM.out]
            rfl
          clear hown hown' hgrow HO HB HM
          go_wp2
          go_roundw
          case rel => exact ⟨0 + 1, M + 1, some ⟨g3, 0, none⟩, c3, by omega, by go_num, rfl, HM3.out, by omega, HO3.out, HB3.out⟩
          case measure => simp [intOf]
      · have hrun : ∀ wx, (Instr.index 115 (.agg #[.int .i64 a, .int .i64 b]) (.int .i64 1)).run Try.prog wx = .ok (.int .i64 b) wx := by intro wx; kernel_rfl
        have HST : Hid (opsTo a b (1 + 1) = opsTo a b 1 ++ opP b) := opsTo_step a b hlt
        by_cases hx : b = -1
        · have ex : (b != -1) = false := by simp [hx]
          have HE : Hid (opsTo a b (1 + 1) = opsTo a b 1) := by
            show _ = _
            rw [HST.out]
            unfold opP
            rw [if_pos hx, List.append_nil]
          clear hx
          go_wp2
          go_roundw
          case rel => exact ⟨1 + 1, M, A', c', by omega, by go_num, rfl, by rw [HE.out]; exact HM, by omega, by rw [HE.out]; exact HO, HB⟩
          case measure => simp [intOf]
        · have ex : (b != -1) = true := by simpa using hx
          have HE : Hid (opsTo a b (1 + 1) = opsTo a b 1 ++ [b]) := by
            show _ = _
            rw [HST.out]
            unfold opP
            rw [if_neg hx]
          have hown := HO.out
          clear hx
          go_wp2_with (at_builtin; refine wpList_append_own _ rfl (.tmp 16) (.tmp 18) 29 rfl w.heap.size 3 i0 (.int .i64 0) 1 8 Try.underlying29 hi hz0 hz1 hz2 rfl (by decide) (.slice A' M c') M ((opsTo a b 1).map (Value.int .i64)) rfl (World.ownsRow.alloc hown _) ⟨wr.heap.size, 0, none⟩ 1 1 [.int .i64 b] rfl rfl (cell_one_new _ _ _) (fun u hu => by simp at hu; subst hu; rfl) (by unfold maxLen; omega) (by omega) (by simp; omega) ?_; intro v' w3 hown' hgrow _)
          obtain ⟨g3, c3, rfl⟩ : ∃ g3 c3, v' = .slice (some ⟨g3, 0, none⟩) (M + 1) c3 := by
            rcases hown'.2 with ⟨_, h⟩ | ⟨g3, c3, _, h, _⟩
            · omega
            · exact ⟨g3, c3, h⟩
          have HB3 : Hid (Below w.heap.size w w3) := (HB.out.alloc hsr _).grown hgrow (by simp; omega) (fun k h => (hown.lt k h).1)
          have HO3 : Hid (OwnI w3 w.heap.size (some ⟨g3, 0, none⟩) (M + 1) c3 (opsTo a b (1 + 1))) := by
            show OwnI _ _ _ _ _ _
            rw [HE.out]
            simpa [OwnI] using hown'
          have HM3 : Hid ((opsTo a b (1 + 1)).length = M + 1) := by
            show _ = _
            rw [HE.out, List.length_append, HM.out]
            rfl
          clear hown hown' hgrow HO HB HM
          go_wp2
          go_roundw
          case rel => exact ⟨1 + 1, M + 1, some ⟨g3, 0, none⟩, c3, by omega, by go_num, rfl, HM3.out, by omega, HO3.out, HB3.out⟩
          case measure => simp [intOf]
    · obtain rfl : k = 2 := by omega
      have HOM : Hid (OwnI wr w.heap.size A' (opsTo a b 2).length c' (opsTo a b 2)) := by
        show OwnI _ _ _ _ _ _
        rw [HM.out]
        exact HO.out
      go_wp2
      go_ret
      refine ⟨A', c', ?_, HOM.out, HB.out⟩
      rw [HM.out]
      rfl
end Go.Proofs.Ytblgapcpkeapaaa

namespace Go.Proofs.Ytblgapcpkeapaaa
open Go.RowKit Go.Maps

set_option maxRecDepth 100000 in
set_option maxHeartbeats 4000000 in
theorem arenaWith_any (w : World) (B B2 : Nat) (A A2 : Option Addr) (n c n2 c2 : Nat) (l : List Nd) (is : List Int) (hB : B ≤ w.heap.size) (hB2 : B2 ≤ w.heap.size) (hl : NodR w B A n l) (his : IntR w B2 A2 n2 is) (hn : n ≤ 1048576) (hn2 : n2 ≤ 1048576) :
    Calls Try.prog 39 #[.slice A n c, .slice A2 n2 c2] w fun e w' => e = .returned (awV (w.heap.size + 1) (arenaOkR l && idxR n is)) ∧ Below w.heap.size w w' ∧ ((arenaOkR l && idxR n is) = true → ∃ A' c' D', ArO w' w.heap.size (w.heap.size + 1) w.heap.size A' n c' D' l) := by
  by_cases hbig : (200 : Int) < n
  · have HF : Hid ((arenaOkR l && idxR n is) = false) := by show _ = _; rw [arena_big hl.1 (by omega)]; rfl
    clear hl his
    go_enter Try.func39, Try.ntmps39
    go_wp2
    go_ret2
    refine ⟨by rw [HF.out]; rfl, Below.refl _ _, fun h => ?_⟩
    rw [HF.out] at h
    cases h
  · have hn3 : n ≤ 200 := by omega
    have HL := Lib.hid hl
    have HIS := Lib.hid his
    clear hl his
    go_enter Try.func39, Try.ntmps39
    go_wp2_with fail
    refine (newArena_any w).mono ?_
    rintro e w1 ⟨rfl, hb1, hA1⟩
    have HB1 := Lib.hid hb1
    have HA1 := Lib.hid hA1
    have hs1 := hb1.size
    clear hb1 hA1
    go_wp2
    go_loopw [17] (fun i wr => ∃ (k : Nat) (A' : Option Addr) (c' : Nat) (D' : DataW Unit), k ≤ n ∧ i = .int .i64 k ∧ Hid (NdAll l k) ∧ Hid (ArO wr w.heap.size (w.heap.size + 1) w.heap.size A' k c' D' (l.take k)) ∧ Below w.heap.size w wr) (fun i _ => n - (intOf i).toNat)
    case atStart => exact ⟨0, none, 0, .map [], Nat.zero_le _, rfl, ndAll_zero l, HA1.out, HB1.out⟩
    case round =>
      obtain ⟨k, A', c', D', hk, rfl, HN, HA, hbel⟩ := hrel
      by_cases hlt : k < n
      · obtain ⟨b, off, rfl, hb, hc⟩ := HL.out.2 (by omega)
        obtain ⟨x1, x2, x3, x4⟩ := hc k hlt
        obtain ⟨t, ht⟩ : ∃ t, l.getD k nd0 = t := ⟨_, rfl⟩
        rw [ht] at x1 x2 x3 x4
        obtain ⟨o, u, a, z⟩ := t
        have HT := Lib.hid ht
        have k1 := (hbel.cell (p := ⟨b, off + k * 4, none⟩) (by show b < _; omega)).trans x1
        have k2 := (hbel.cell (p := ⟨b, off + k * 4 + 1, none⟩) (by show b < _; omega)).trans x2
        have k3 := (hbel.cell (p := ⟨b, off + k * 4 + 2, none⟩) (by show b < _; omega)).trans x3
        have k4 := (hbel.cell (p := ⟨b, off + k * 4 + 3, none⟩) (by show b < _; omega)).trans x4
        have hsr := hbel.size
        have HBEL := Lib.hid hbel
        clear x1 x2 x3 x4 hc ht hbel
        go_wp2_with fail
        refine (okAt_any _ o u a z k).mono ?_
        rintro e w2 ⟨rfl, hb2⟩
        have hbw : Below wr.heap.size wr w2 := ((Below.refl _ wr).alloc (Nat.le_refl _) _).trans (hb2.mono (by simp))
        have blk2 : Blk w2 wr.heap.size 58 #[.int .i64 o, .int .i64 u, .int .i64 a, .int .i64 z] := (Blk.made _ _ _).below hb2 (by simp)
        have HA2 := Lib.hid (HA.out.below hbw)
        have HB2 := Lib.hid (HBEL.out.trans (hbw.mono hsr))
        have hs2 : w.heap.size ≤ w2.heap.size := HB2.out.size
        clear hb2 hbw HA HBEL k1 k2 k3 k4 HB1 HA1 hsr hs1
        cases hok : ndOk (o, u, a, z) k with
        | false =>
          have HF : Hid ((arenaOkR l && idxR n is) = false) := by
            show _ = _
            rw [arena_no HL.out.1 hlt (by rw [HT.out, hok]; rintro ⟨h, _⟩; cases h)]
            rfl
          clear hok blk2
          go_wp2
          go_ret2
          refine ⟨by rw [HF.out]; rfl, HB2.out, fun h => ?_⟩
          rw [HF.out] at h
          cases h
        | true =>
          have j0 := blk2.cell 0
          have j1 := blk2.cell 1
          have j2 := blk2.cell 2
          have j3 := blk2.cell 3
          simp at j0 j1 j2 j3
          have hwf : ndWf (o, u, a, z) := ndOk_wf (by omega) hok
          have HOK := Lib.hid hok
          clear hok blk2
          by_cases hmem : (o, u, a, z) ∈ l.take k
          · have HF : Hid ((arenaOkR l && idxR n is) = false) := by
              show _ = _
              rw [arena_no HL.out.1 hlt (by rw [HT.out]; rintro ⟨_, h⟩; exact h hmem)]
              rfl
            obtain ⟨q, hq⟩ : ∃ q : Nat, (l.take k).idxOf (o, u, a, z) = q := ⟨_, rfl⟩
            have hqk : q < k := by
              have h := List.idxOf_lt_length_of_mem hmem
              rw [hq] at h
              simp at h
              omega
            have hne : ((q : Int) != (k : Int)) = true := by simp; omega
            go_wp2_with fail
            refine (index_in w2 w.heap.size (w.heap.size + 1) w.heap.size A' k c' D' (l.take k) o u a z HA2.out hwf hmem).mono ?_
            rintro e w3 ⟨rfl, hb3⟩
            rw [hq]
            have HB3 := Lib.hid (HB2.out.trans (hb3.mono hs2))
            clear hb3 hq hmem hwf j0 j1 j2 j3
            go_wp2
            go_ret2
            refine ⟨by rw [HF.out]; rfl, HB3.out, fun h => ?_⟩
            rw [HF.out] at h
            cases h
          · have HN2 : Hid (NdAll l (k + 1)) := ndAll_step HN.out (by rw [HT.out]; exact HOK.out) (by rw [HT.out]; exact hmem)
            have hne : ((k : Int) != (k : Int)) = false := by simp
            go_wp2_with fail
            refine (index_new w2 w.heap.size (w.heap.size + 1) w.heap.size A' k c' D' (l.take k) o u a z HA2.out hwf hmem (by omega) hs2).mono ?_
            rintro e w3 ⟨rfl, hb3, A3, c3, D3, hA3⟩
            have HB3 := Lib.hid (HB2.out.trans hb3)
            have HA3 : Hid (ArO w3 w.heap.size (w.heap.size + 1) w.heap.size A3 (k + 1) c3 D3 (l.take (k + 1))) := by
              show ArO _ _ _ _ _ _ _ _ _
              rw [take_succ_getD (by rw [HL.out.1]; exact hlt), HT.out]
              exact hA3
            clear hb3 hA3 hmem hwf j0 j1 j2 j3
            go_wp2
            go_roundw
            case rel => exact ⟨k + 1, A3, c3, D3, by omega, by go_num, HN2.out, HA3.out, HB3.out⟩
            case measure => simp [intOf]; omega
      · obtain rfl : k = n := by omega
        have HOK : Hid (arenaOkR l = true) := arena_yes HL.out.1 hn3 HN.out
        have HA2 : Hid (ArO wr w.heap.size (w.heap.size + 1) w.heap.size A' k c' D' l) := by
          have h := HA.out
          rwa [List.take_of_length_le (by rw [HL.out.1]; exact Nat.le_refl _)] at h
        have HB2 := Lib.hid hbel
        clear HA hbel HN HA1 HB1 hs1
        obtain ⟨ws, hws⟩ : ∃ X, X = wr := ⟨_, rfl⟩
        subst hws
        go_wp2
        go_loopw [36] (fun i wy => ∃ j : Nat, j ≤ n2 ∧ i = .int .i64 j ∧ Hid (∀ q, q < j → 0 ≤ is.getD q 0 ∧ is.getD q 0 < k) ∧ wy = ws) (fun i _ => n2 - (intOf i).toNat)
        case atStart => exact ⟨0, Nat.zero_le _, rfl, (fun q hq => absurd hq (by omega)), rfl⟩
        case round =>
          obtain ⟨j, hj, rfl, HQ, rfl⟩ := hrel
          by_cases hjl : j < n2
          · obtain ⟨b, off, rfl, hb, hc⟩ := HIS.out.2 (by omega)
            have c1 := hc j hjl
            obtain ⟨x, hx⟩ : ∃ x, is.getD j 0 = x := ⟨_, rfl⟩
            rw [hx] at c1
            have k1 := (HB2.out.cell (p := ⟨b, off + j, none⟩) (by show b < _; omega)).trans c1
            have HX := Lib.hid hx
            have hfail : ¬ (0 ≤ x ∧ x < k) → Hid ((arenaOkR l && idxR k is) = false) := by
              intro hno
              show _ = _
              rw [Bool.and_eq_false_iff]
              right
              rw [Bool.eq_false_iff]
              intro h
              apply hno
              unfold idxR at h
              rw [List.all_eq_true] at h
              have hm : x ∈ is := by
                rw [← HX.out, List.getD_eq_getElem?_getD, List.getElem?_eq_getElem (by rw [HIS.out.1]; exact hjl)]
                simp
              simpa using h x hm
            clear c1 hc hx
            by_cases h0 : 0 ≤ x
            · have d0 : decide (x < 0) = false := by simp; omega
              by_cases h1 : x < k
              · have d1 : decide ((k : Int) ≤ x) = false := by simp; omega
                have HQ2 : Hid (∀ q, q < j + 1 → 0 ≤ is.getD q 0 ∧ is.getD q 0 < k) := by
                  intro q hq
                  by_cases e : q = j
                  · subst e; rw [HX.out]; exact ⟨h0, h1⟩
                  · exact HQ.out q (by omega)
                clear hfail h0 h1
                go_wp2
                go_roundw
                case rel => exact ⟨j + 1, by omega, by go_num, HQ2.out, trivial⟩
                case measure => simp [intOf]; omega
              · have d1 : decide ((k : Int) ≤ x) = true := by simp; omega
                have HF := hfail (by rintro ⟨_, h⟩; exact h1 h)
                clear hfail h0 h1
                go_wp2
                go_ret2
                refine ⟨by rw [HF.out]; rfl, HB2.out, fun h => ?_⟩
                rw [HF.out] at h
                cases h
            · have d0 : decide (x < 0) = true := by simp; omega
              have HF := hfail (by rintro ⟨h, _⟩; exact h0 h)
              clear hfail h0
              go_wp2
              go_ret2
              refine ⟨by rw [HF.out]; rfl, HB2.out, fun h => ?_⟩
              rw [HF.out] at h
              cases h
          · have HF : Hid ((arenaOkR l && idxR k is) = true) := by
              show _ = _
              rw [HOK.out, Bool.true_and]
              unfold idxR
              rw [List.all_eq_true]
              intro x hx
              obtain ⟨q, hq, rfl⟩ := List.getElem_of_mem hx
              have h := HQ.out q (by have := HIS.out.1; omega)
              rw [List.getD_eq_getElem?_getD, List.getElem?_eq_getElem hq] at h
              simpa using h
            go_wp2
            go_ret2
            exact ⟨by rw [HF.out]; rfl, HB2.out, fun _ => ⟨_, _, _, HA2.out⟩⟩
end Go.Proofs.Ytblgapcpkeapaaa
