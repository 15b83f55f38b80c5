/- The words of tokens; tokText of the program. -/
import Derived.Test.YtijiohdddfdjfaaDoorLvls
import Derived.Test.YtijiohdddfdjfaaDoorShelf
import Derived.Lib.Join
namespace Go.Proofs.YtijiohdddfdjfaaDoor
open Go.RowKit

/-- a token's word -/
def word (t : Int × Int) : ByteArray :=
  if t.1 = 0 then ⟨#[48]⟩ else if t.1 = 1 then ⟨#[115]⟩ else if t.1 = 2 then ⟨#[109, 97, 120]⟩ else if t.1 = 3 then ⟨#[105, 109, 97, 120]⟩ else ⟨#[117, UInt8.ofNat (48 + t.2.toNat)]⟩

theorem dec_one (m : Nat) (hm : m < 10) : Lib.decDigits m = [UInt8.ofNat (48 + m)] := by unfold Lib.decDigits; rw [dif_pos hm]
theorem dec_len (m : Nat) (hm : m < 10) : (Lib.decDigits m).length = 1 := by rw [dec_one m hm]; rfl
theorem word_u (m : Nat) (hm : m < 5) : (⟨#[117]⟩ : ByteArray) ++ ⟨(Lib.decDigits m).toArray⟩ = word (4, (m : Int)) := by
  rw [dec_one m (by omega)]
  simp [word]
  rfl

set_option maxHeartbeats 800000 in
theorem tokText_any (w : World) (a b : Int) (h : Lv.tkOk (a, b) = true) :
    Calls Tryd.prog 88 #[.agg #[.int .i64 a, .int .i64 b]] w fun e w' => e = .returned (.string (word (a, b))) ∧ Below w.heap.size w w' := by
  have hb := (Below.refl w.heap.size w).alloc (Nat.le_refl _) (.cells #[.int .i64 a, .int .i64 b] 66)
  have HB := Lib.hid hb
  clear hb
  have hc := Lv.tk_cases h
  have hb05 : 0 ≤ b ∧ b < 5 := by simp [Lv.tkOk] at h; omega
  simp only at hc
  rcases hc with rfl | rfl | rfl | rfl | rfl
  · go_enter Tryd.func88, Tryd.ntmps88
    go_wp2
    go_ret
    exact ⟨rfl, HB.out⟩
  · go_enter Tryd.func88, Tryd.ntmps88
    go_wp2
    go_ret
    exact ⟨rfl, HB.out⟩
  · go_enter Tryd.func88, Tryd.ntmps88
    go_wp2
    go_ret
    exact ⟨rfl, HB.out⟩
  · go_enter Tryd.func88, Tryd.ntmps88
    go_wp2
    go_ret
    exact ⟨rfl, HB.out⟩
  · obtain ⟨m, rfl⟩ := Int.eq_ofNat_of_zero_le hb05.1
    have hm : m < 5 := by omega
    have HW := Lib.hid (word_u m hm)
    have hdl := dec_len m (by omega)
    go_enter Tryd.func88, Tryd.ntmps88
    go_wp2_with fail
    refine (Tryd.strconv_Itoa_small m (by omega) _).mono ?_
    rintro e w1 ⟨rfl, rfl⟩
    go_wp2
    go_ret
    exact ⟨by rw [← HW.out]; rfl, HB.out⟩

theorem word_len (t : Int × Int) : (word t).size ≤ 4 := by
  unfold word
  split
  · decide
  · split
    · decide
    · split
      · decide
      · split
        · decide
        · simp [ByteArray.size]

/-- the text of a list of tokens -/
def tx (l : List (Int × Int)) : ByteArray := ⟨(Lib.join (l.map fun t => (word t).data.toList) [32]).toArray⟩
theorem lens_words (l : List (Int × Int)) : Lib.lens (l.map fun t => (word t).data.toList) ≤ 4 * l.length := by
  induction l with
  | nil => simp [Lib.lens]
  | cons t r ih =>
    have h := word_len t
    have h' : (word t).data.toList.length ≤ 4 := by rw [Array.length_toList]; exact h
    have e : ∀ (x : List UInt8) (xs : List (List UInt8)), Lib.lens (x :: xs) = x.length + Lib.lens xs := fun x xs => by simp [Lib.lens]
    rw [List.map_cons, e, List.length_cons]
    omega
theorem join_words (l : List (Int × Int)) : (Lib.join (l.map fun t => (word t).data.toList) [32]).length ≤ 5 * l.length := by
  cases l with
  | nil => simp [Lib.join_nil]
  | cons t r =>
    have := lens_words (t :: r)
    rw [List.map_cons] at this ⊢
    rw [Lib.join_length]
    simp only [List.length_cons, List.length_map, List.length_nil] at this ⊢
    omega
theorem tx_size (l : List (Int × Int)) : (tx l).size ≤ 5 * l.length := by
  have := join_words l
  simpa [tx, ByteArray.size] using this
theorem tx_one (t : Int × Int) : tx [t] = word t := by
  unfold tx
  rw [List.map_cons, List.map_nil, Lib.join_one]
theorem tx_snoc (a : List (Int × Int)) (t : Int × Int) (h : a ≠ []) : tx (a ++ [t]) = tx a ++ ⟨#[32]⟩ ++ word t := by
  cases a with
  | nil => exact absurd rfl h
  | cons x r =>
    have e : (tx (x :: r ++ [t])).data = (tx (x :: r) ++ ⟨#[32]⟩ ++ word t).data := by
      simp only [tx, List.cons_append, List.map_cons, List.map_append, List.map_nil, Lib.join_cons, ByteArray.data_append]
      simp [Lib.joinTail]
    cases hA : tx (x :: r ++ [t])
    cases hB : tx (x :: r) ++ ⟨#[32]⟩ ++ word t
    rw [hA, hB] at e
    exact congrArg ByteArray.mk e

/-- LevelText's answer -/
def textR (l : List (Int × Int)) : ByteArray := if Lv.levelOk l = true then tx l else ⟨#[]⟩

theorem info_string : (Tryd.prog.info? 9).map (fun i => (i.zero, i.size, i.bytes)) = some (some (.string ⟨#[]⟩), 1, 16) := by kernel_rfl
theorem ok_tk' {l : List (Int × Int)} (h : Lv.levelOk l = true) {k : Nat} (hk : k < l.length) : Lv.tkOk (l.getD k (0, 0)) = true := by
  simp only [Lv.levelOk, Bool.and_eq_true, decide_eq_true_eq] at h
  refine hts_all h.2 _ ?_
  rw [List.getD_eq_getElem?_getD, List.getElem?_eq_getElem hk]
  exact List.getElem_mem hk
theorem take_words (l : List (Int × Int)) (k : Nat) (hk : k < l.length) : (l.take (k + 1)).map word = (l.take k).map word ++ [word (l.getD k (0, 0))] := by
  rw [List.take_succ_eq_append_getElem hk, List.map_append]
  congr 1
  simp [List.getD_eq_getElem?_getD, List.getElem?_eq_getElem hk]
end Go.Proofs.YtijiohdddfdjfaaDoor
