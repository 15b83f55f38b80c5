/- Plain facts: a text is cut at its blanks. -/
import Derived.Lib.Split
import Derived.Lib.SplitLaws
import Derived.Lib.Join
namespace Go.Proofs.YtijiohdddfdjfaaDoor.Rd
open Go

/-- b in front of the first piece -/
def onHead (b : UInt8) : List (List UInt8) → List (List UInt8)
  | [] => [[b]]
  | x :: r => (b :: x) :: r
/-- the pieces between the blanks -/
def cut : List UInt8 → List (List UInt8)
  | [] => [[]]
  | b :: r => if b = 32 then [] :: cut r else onHead b (cut r)
/-- at most k cuts -/
def cutK : Nat → List UInt8 → List (List UInt8)
  | 0, s => [s]
  | _ + 1, [] => [[]]
  | k + 1, b :: r => if b = 32 then [] :: cutK k r else onHead b (cutK (k + 1) r)

theorem cut_ne (s : List UInt8) : cut s ≠ [] := by
  cases s with
  | nil => simp [cut]
  | cons b r =>
    unfold cut
    split
    · simp
    · cases cut r <;> simp [onHead]
theorem onHead_len (b : UInt8) {l : List (List UInt8)} (h : l ≠ []) : (onHead b l).length = l.length := by
  cases l with
  | nil => exact absurd rfl h
  | cons x r => rfl
theorem cut_none {a : List UInt8} (h : ∀ x ∈ a, x ≠ 32) : cut a = [a] := by
  induction a with
  | nil => rfl
  | cons b r ih =>
    unfold cut
    rw [if_neg (h b (by simp)), ih (fun x hx => h x (by simp [hx]))]
    rfl
theorem cut_app {a r : List UInt8} (h : ∀ x ∈ a, x ≠ 32) : cut (a ++ 32 :: r) = a :: cut r := by
  induction a with
  | nil => simp [cut]
  | cons b q ih =>
    have e : cut (b :: (q ++ 32 :: r)) = onHead b (cut (q ++ 32 :: r)) := by rw [cut, if_neg (h b (by simp))]
    rw [List.cons_append, e, ih (fun x hx => h x (by simp [hx]))]
    rfl
theorem cut_join {ws : List (List UInt8)} (h0 : ws ≠ []) (h : ∀ a ∈ ws, ∀ x ∈ a, x ≠ 32) : cut (Lib.join ws [32]) = ws := by
  induction ws with
  | nil => exact absurd rfl h0
  | cons a r ih =>
    cases r with
    | nil => rw [Lib.join_one]; exact cut_none (h a (by simp))
    | cons b q =>
      have e : Lib.join (a :: b :: q) [32] = a ++ 32 :: Lib.join (b :: q) [32] := by
        rw [Lib.join_cons, Lib.join_cons]; simp [Lib.joinTail]
      rw [e, cut_app (h a (by simp)), ih (by simp) (fun x hx => h x (by simp [hx]))]
theorem join_onHead (b : UInt8) {l : List (List UInt8)} (h : l ≠ []) : Lib.join (onHead b l) [32] = b :: Lib.join l [32] := by
  cases l with
  | nil => exact absurd rfl h
  | cons x r => simp [onHead, Lib.join_cons]
theorem join_cut (s : List UInt8) : Lib.join (cut s) [32] = s := by
  induction s with
  | nil => simp [cut, Lib.join_one]
  | cons b r ih =>
    unfold cut
    by_cases e : b = 32
    · rw [if_pos e, e]
      cases hc : cut r with
      | nil => exact absurd hc (cut_ne r)
      | cons x q =>
        rw [hc] at ih
        rw [Lib.join_cons]
        rw [Lib.join_cons] at ih
        simp [Lib.joinTail] at ih ⊢
        exact ih
    · rw [if_neg e, join_onHead b (cut_ne r), ih]
theorem cutK_ne (k : Nat) (s : List UInt8) : cutK k s ≠ [] := by
  induction s generalizing k with
  | nil => cases k <;> simp [cutK]
  | cons b r ih =>
    cases k with
    | zero => simp [cutK]
    | succ k =>
      unfold cutK
      split
      · simp
      · have := ih (k + 1)
        cases hc : cutK (k + 1) r with
        | nil => exact absurd hc this
        | cons => simp [onHead]
/-- few pieces: all of them; else the last one holds a blank -/
theorem cutK_all {k : Nat} {s : List UInt8} (h : (cut s).length ≤ k + 1) : cutK k s = cut s := by
  induction s generalizing k with
  | nil => cases k <;> rfl
  | cons b r ih =>
    cases k with
    | zero =>
      unfold cut at h
      by_cases e : b = 32
      · rw [if_pos e] at h
        have := List.length_pos_iff.2 (cut_ne r)
        simp only [List.length_cons] at h
        omega
      · rw [if_neg e, onHead_len b (cut_ne r)] at h
        have h1 := ih (k := 0) h
        unfold cut cutK
        rw [if_neg e, ← h1]
        simp [cutK, onHead]
    | succ k =>
      unfold cut at h
      unfold cut cutK
      by_cases e : b = 32
      · rw [if_pos e] at h
        rw [if_pos e, if_pos e, ih (by simp only [List.length_cons] at h; omega)]
      · rw [if_neg e, onHead_len b (cut_ne r)] at h
        rw [if_neg e, if_neg e, ih h]
theorem cutK_more {k : Nat} {s : List UInt8} (h : k + 1 < (cut s).length) : ∃ a ∈ cutK k s, (32 : UInt8) ∈ a := by
  induction s generalizing k with
  | nil => simp [cut] at h
  | cons b r ih =>
    unfold cut at h
    cases k with
    | zero =>
      refine ⟨b :: r, by simp [cutK], ?_⟩
      by_cases e : b = 32
      · simp [e]
      · rw [if_neg e, onHead_len b (cut_ne r)] at h
        obtain ⟨a, h1, h2⟩ := ih (k := 0) h
        simp [cutK] at h1
        subst h1
        simp [h2]
    | succ k =>
      unfold cutK
      by_cases e : b = 32
      · rw [if_pos e] at h ⊢
        obtain ⟨a, h1, h2⟩ := ih (k := k) (by simp only [List.length_cons] at h; omega)
        exact ⟨a, by simp [h1], h2⟩
      · rw [if_neg e, onHead_len b (cut_ne r)] at h
        rw [if_neg e]
        obtain ⟨a, h1, h2⟩ := ih (k := k + 1) h
        cases hc : cutK (k + 1) r with
        | nil => exact absurd hc (cutK_ne _ _)
        | cons x q =>
          rw [hc] at h1
          rcases List.mem_cons.1 h1 with h1 | h1
          · subst h1; exact ⟨b :: a, by simp [onHead], by simp [h2]⟩
          · exact ⟨a, by simp [onHead, h1], h2⟩
/-- the library's cuts are these -/
theorem splitK_cut (k : Nat) (s : List UInt8) : Lib.splitK [32] 0 k s = cutK k s := by
  induction s generalizing k with
  | nil => cases k <;> simp [Lib.splitK, cutK, Lib.index_one, Lib.indexByte]
  | cons b r ih =>
    cases k with
    | zero => simp [Lib.splitK, cutK]
    | succ k =>
      have ih1 := ih (k + 1)
      unfold Lib.splitK at ih1 ⊢
      unfold cutK
      rw [Lib.index_one] at ih1 ⊢
      by_cases e : b = 32
      · subst e
        have h0 : Lib.indexByte (32 :: r) 32 = 0 := by simp [Lib.indexByte]
        rw [h0, if_pos rfl]
        simp [ih k]
      · have hb : (b == 32) = false := by simpa using e
        rw [if_neg e, ← ih1]
        cases hi : (Lib.indexByte r 32 == -1) with
        | true =>
          have h1 : Lib.indexByte (b :: r) 32 = -1 := by simp [Lib.indexByte, hb, hi]
          rw [h1]
          simp [onHead]
        | false =>
          have hg := Lib.indexByte_ge r 32
          have hne : Lib.indexByte r 32 ≠ -1 := by simpa using hi
          have h1 : Lib.indexByte (b :: r) 32 = Lib.indexByte r 32 + 1 := by simp [Lib.indexByte, hb, hi]
          have h2 : (Lib.indexByte r 32 + 1 == -1) = false := by simp; omega
          rw [h1, h2]
          obtain ⟨i, hii⟩ : ∃ i : Nat, Lib.indexByte r 32 = i := ⟨(Lib.indexByte r 32).toNat, by omega⟩
          rw [hii]
          have h3 : ((i : Int) + 1).toNat = i + 1 := by omega
          simp [onHead, h3]
end Go.Proofs.YtijiohdddfdjfaaDoor.Rd
