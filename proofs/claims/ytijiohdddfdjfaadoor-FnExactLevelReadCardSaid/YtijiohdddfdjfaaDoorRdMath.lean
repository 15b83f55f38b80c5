/- Plain facts: what a text is read as. -/
import Derived.Test.YtijiohdddfdjfaaDoorText0
import Derived.Test.YtijiohdddfdjfaaDoorRdCut
namespace Go.Proofs.YtijiohdddfdjfaaDoor.Rd
open Go

/-- the token of a word -/
def unw (w : List UInt8) : Option (Int × Int) :=
  if w = [48] then some (0, 0) else if w = [115] then some (1, 0) else if w = [109, 97, 120] then some (2, 0) else if w = [105, 109, 97, 120] then some (3, 0) else
  if w = [117, 48] then some (4, 0) else if w = [117, 49] then some (4, 1) else if w = [117, 50] then some (4, 2) else if w = [117, 51] then some (4, 3) else if w = [117, 52] then some (4, 4) else none
/-- the bytes of a token's word -/
abbrev wd (t : Int × Int) : List UInt8 := (word t).data.toList
theorem tk_nine {t : Int × Int} (h : Lv.tkOk t = true) : t = (0, 0) ∨ t = (1, 0) ∨ t = (2, 0) ∨ t = (3, 0) ∨ t = (4, 0) ∨ t = (4, 1) ∨ t = (4, 2) ∨ t = (4, 3) ∨ t = (4, 4) := by
  obtain ⟨a, b⟩ := t
  simp only [Lv.tkOk, Bool.and_eq_true, Bool.or_eq_true, decide_eq_true_eq] at h
  simp only [Prod.mk.injEq]
  omega
theorem unw_some {w : List UInt8} {t : Int × Int} (h : unw w = some t) : w = wd t ∧ Lv.tkOk t = true := by
  unfold unw at h
  repeat' split at h
  all_goals first
    | (rename_i e; injection h with h; subst h; subst e; exact ⟨rfl, rfl⟩)
    | (injection h with h; subst h; rename_i e; subst e; exact ⟨by decide, by decide⟩)
    | cases h
theorem unw_word {t : Int × Int} (h : Lv.tkOk t = true) : unw (wd t) = some t := by
  rcases tk_nine h with rfl | rfl | rfl | rfl | rfl | rfl | rfl | rfl | rfl <;> decide
theorem wd_blank {t : Int × Int} (h : Lv.tkOk t = true) : ∀ x ∈ wd t, x ≠ 32 := by
  rcases tk_nine h with rfl | rfl | rfl | rfl | rfl | rfl | rfl | rfl | rfl <;> decide
theorem unw_blank {w : List UInt8} (h : (32 : UInt8) ∈ w) : unw w = none := by
  cases e : unw w with
  | none => rfl
  | some t =>
    obtain ⟨h1, h2⟩ := unw_some e
    rw [h1] at h
    exact absurd rfl (wd_blank h2 32 h)

/-- the tokens of pieces -/
def readL : List (List UInt8) → Option (List (Int × Int))
  | [] => some []
  | w :: r => (unw w).bind fun t => (readL r).map (t :: ·)
theorem readL_some {ws : List (List UInt8)} : ∀ {l : List (Int × Int)}, readL ws = some l → ws = l.map wd ∧ ∀ t ∈ l, Lv.tkOk t = true := by
  induction ws with
  | nil => intro l h; simp [readL] at h; subst h; simp
  | cons w r ih =>
    intro l h
    simp only [readL] at h
    cases e : unw w with
    | none => rw [e] at h; simp at h
    | some t =>
      rw [e] at h
      cases e2 : readL r with
      | none => rw [e2] at h; simp at h
      | some q =>
        rw [e2] at h
        simp at h
        subst h
        obtain ⟨h1, h2⟩ := ih e2
        obtain ⟨h3, h4⟩ := unw_some e
        refine ⟨by rw [List.map_cons, ← h1, ← h3], fun x hx => ?_⟩
        rcases List.mem_cons.1 hx with rfl | hx
        · exact h4
        · exact h2 x hx
theorem readL_words {l : List (Int × Int)} (h : ∀ t ∈ l, Lv.tkOk t = true) : readL (l.map wd) = some l := by
  induction l with
  | nil => rfl
  | cons t r ih =>
    rw [List.map_cons, readL, unw_word (h t (by simp)), ih (fun x hx => h x (by simp [hx]))]
    rfl
theorem readL_none {ws : List (List UInt8)} {a : List UInt8} (h : a ∈ ws) (hn : unw a = none) : readL ws = none := by
  cases e : readL ws with
  | none => rfl
  | some l =>
    obtain ⟨h1, h2⟩ := readL_some e
    rw [h1] at h
    obtain ⟨t, ht, rfl⟩ := List.mem_map.1 h
    rw [unw_word (h2 t ht)] at hn
    cases hn
theorem readL_snoc {ws : List (List UInt8)} {l : List (Int × Int)} {w : List UInt8} {t : Int × Int} (h : readL ws = some l) (hw : unw w = some t) : readL (ws ++ [w]) = some (l ++ [t]) := by
  obtain ⟨h1, h2⟩ := readL_some h
  obtain ⟨h3, h4⟩ := unw_some hw
  have : ws ++ [w] = (l ++ [t]).map wd := by rw [List.map_append, ← h1, h3]; rfl
  rw [this]
  refine readL_words fun x hx => ?_
  rcases List.mem_append.1 hx with hx | hx
  · exact h2 x hx
  · simp at hx; subst hx; exact h4

/-- LevelRead's answer -/
def readR (s : ByteArray) : Option (List (Int × Int)) := (readL (cut s.data.toList)).bind ifR
theorem ok_24 {l : List (Int × Int)} (h : Lv.levelOk l = true) : 1 ≤ l.length ∧ l.length ≤ 24 := by
  simp only [Lv.levelOk, Bool.and_eq_true, decide_eq_true_eq] at h
  omega
theorem ifR_some {l m : List (Int × Int)} (h : ifR l = some m) : l = m ∧ Lv.levelOk l = true := by
  unfold ifR at h
  split at h
  · rename_i e; injection h with h; exact ⟨h, e⟩
  · cases h
theorem readR_some {s : ByteArray} {l : List (Int × Int)} (h : readR s = some l) : readL (cut s.data.toList) = some l ∧ Lv.levelOk l = true := by
  unfold readR at h
  cases e : readL (cut s.data.toList) with
  | none => rw [e] at h; cases h
  | some q =>
    rw [e] at h
    obtain ⟨h1, h2⟩ := ifR_some h
    subst h1
    exact ⟨rfl, h2⟩
theorem cut_len (s : List UInt8) : (cut s).length ≤ s.length + 1 := by
  induction s with
  | nil => simp [cut]
  | cons b r ih =>
    unfold cut
    split
    · simp only [List.length_cons]; omega
    · rw [onHead_len b (cut_ne r)]; simp only [List.length_cons]; omega
/-- the program's cuts -/
theorem read_some {s : ByteArray} {l : List (Int × Int)} (h : readL (cutK (min 25 (s.size + 1) - 1) s.data.toList) = some l) : readR s = ifR l := by
  by_cases hc : (cut s.data.toList).length ≤ min 25 (s.size + 1) - 1 + 1
  · rw [cutK_all hc] at h
    unfold readR
    rw [h]
    rfl
  · obtain ⟨a, h1, h2⟩ := cutK_more (k := min 25 (s.size + 1) - 1) (s := s.data.toList) (by omega)
    rw [readL_none h1 (unw_blank h2)] at h
    cases h
theorem read_none {s : ByteArray} (h : readL (cutK (min 25 (s.size + 1) - 1) s.data.toList) = none) : readR s = none := by
  by_cases hc : (cut s.data.toList).length ≤ min 25 (s.size + 1) - 1 + 1
  · rw [cutK_all hc] at h
    unfold readR
    rw [h]
    rfl
  · cases e : readR s with
    | none => rfl
    | some l =>
      obtain ⟨h1, h2⟩ := readR_some e
      have h3 := congrArg List.length (readL_some h1).1
      rw [List.length_map] at h3
      have h4 := (ok_24 h2).2
      have h5 := cut_len s.data.toList
      have h6 : s.data.toList.length = s.size := by rw [Array.length_toList]; rfl
      omega

/-- the model's token of a piece -/
def unw' (w : List UInt8) : Int × Int :=
  if w.length = 2 ∧ w.getD 0 0 = 117 then (4, ((w.getD 1 0).toNat : Int) - 48) else
  if w = [105, 109, 97, 120] then (3, 0) else if w = [109, 97, 120] then (2, 0) else if w = [115] then (1, 0) else (0, 0)
theorem unw'_word {t : Int × Int} (h : Lv.tkOk t = true) : unw' (wd t) = t := by
  rcases tk_nine h with rfl | rfl | rfl | rfl | rfl | rfl | rfl | rfl | rfl <;> decide
theorem levelOk_tk {l : List (Int × Int)} (h : Lv.levelOk l = true) : ∀ t ∈ l, Lv.tkOk t = true := by
  simp only [Lv.levelOk, Bool.and_eq_true, decide_eq_true_eq] at h
  exact hts_all h.2
theorem txt_eq {s : ByteArray} {l : List (Int × Int)} : tx l = s ↔ Lib.join (l.map wd) [32] = s.data.toList := by
  constructor
  · intro h; rw [← h]; simp [tx]
  · intro h
    cases s with
    | mk d => simp only [tx]; rw [h]
theorem spec_yes {s : ByteArray} (h1 : Lv.levelOk ((cut s.data.toList).map unw') = true) (h2 : tx ((cut s.data.toList).map unw') = s) : readR s = some ((cut s.data.toList).map unw') := by
  obtain ⟨out, ho⟩ : ∃ out, (cut s.data.toList).map unw' = out := ⟨_, rfl⟩
  rw [ho] at h1 h2 ⊢
  have hk := levelOk_tk h1
  have hc : cut s.data.toList = out.map wd := by
    rw [← txt_eq.1 h2]
    refine cut_join (fun e => ?_) (fun a ha => ?_)
    · have := (ok_24 h1).1
      have h3 := congrArg List.length e
      rw [List.length_map] at h3
      simp at h3
      subst h3
      simp at this
    · obtain ⟨t, ht, rfl⟩ := List.mem_map.1 ha
      exact wd_blank (hk t ht)
  unfold readR
  rw [hc, readL_words hk]
  show ifR out = some out
  unfold ifR
  rw [if_pos h1]
theorem spec_some {s : ByteArray} {l : List (Int × Int)} (h : readR s = some l) : (cut s.data.toList).map unw' = l ∧ Lv.levelOk l = true ∧ tx l = s := by
  obtain ⟨h1, h2⟩ := readR_some h
  obtain ⟨h3, h4⟩ := readL_some h1
  refine ⟨?_, h2, txt_eq.2 (by rw [← h3, join_cut])⟩
  rw [h3, List.map_map]
  conv => rhs; rw [← List.map_id l]
  exact List.map_congr_left fun t ht => unw'_word (h4 t ht)
theorem spec_no {s : ByteArray} (h : ¬ (Lv.levelOk ((cut s.data.toList).map unw') = true ∧ tx ((cut s.data.toList).map unw') = s)) : readR s = none := by
  cases e : readR s with
  | none => rfl
  | some l =>
    obtain ⟨h1, h2, h3⟩ := spec_some e
    exact absurd ⟨by rw [h1]; exact h2, by rw [h1]; exact h3⟩ h
theorem spec_long {s : ByteArray} (h : 120 < s.size) : readR s = none := by
  cases e : readR s with
  | none => rfl
  | some l =>
    obtain ⟨_, h2, h3⟩ := spec_some e
    have h4 := tx_size l
    rw [h3] at h4
    have := (ok_24 h2).2
    omega
theorem readR_len (s : ByteArray) : ((readR s).getD []).length ≤ 24 := by
  cases e : readR s with
  | none => simp
  | some l => exact (ok_24 (readR_some e).2).2
end Go.Proofs.YtijiohdddfdjfaaDoor.Rd
