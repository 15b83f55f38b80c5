/- Slices of levels: how they are read, substitution in plain lists, levelsOk of the program. -/
import Derived.Test.YtkpelkbkemohlaaDoorSucc
namespace Go.Proofs.YtkpelkbkemohlaaDoor
open Go.RowKit

/-- a slice of levels: n cells below block B, each a slice of tokens that lie below B -/
def LvlR (w : World) (B : Nat) (A : Option Addr) (n : Nat) (ls : List (List (Int × Int))) : Prop :=
  ls.length = n ∧ (0 < n → ∃ b off, A = some ⟨b, off, none⟩ ∧ b < B ∧ ∀ k, k < n → ∃ Ak nk ck, w.cell? ⟨b, off + k, none⟩ = some (.slice Ak nk ck) ∧ TokR w B Ak nk (ls.getD k []) ∧ (nk : Int) ≤ 9223372036854775807)

theorem LvlR.below {w w' : World} {B : Nat} {A : Option Addr} {n : Nat} {ls : List (List (Int × Int))} (h : LvlR w B A n ls) (hb : Below B w w') : LvlR w' B A n ls :=
  ⟨h.1, fun h0 => by
    obtain ⟨b, off, rfl, hB, hc⟩ := h.2 h0
    refine ⟨b, off, rfl, hB, fun k hk => ?_⟩
    obtain ⟨Ak, nk, ck, c, t, m⟩ := hc k hk
    exact ⟨Ak, nk, ck, (hb.cell (p := ⟨b, off + k, none⟩) hB).trans c, t.below hb, m⟩⟩
theorem LvlR.more {w : World} {B B' : Nat} {A : Option Addr} {n : Nat} {ls : List (List (Int × Int))} (h : LvlR w B A n ls) (hB : B ≤ B') : LvlR w B' A n ls :=
  ⟨h.1, fun h0 => by
    obtain ⟨b, off, rfl, hb, hc⟩ := h.2 h0
    refine ⟨b, off, rfl, by omega, fun k hk => ?_⟩
    obtain ⟨Ak, nk, ck, c, t, m⟩ := hc k hk
    exact ⟨Ak, nk, ck, c, t.more hB, m⟩⟩

/-- the tokens of all levels together -/
def tot (ls : List (List (Int × Int))) : Nat := (ls.map List.length).sum
def bulk (ls : List (List (Int × Int))) : Nat := ls.length + tot ls
theorem tot_take (ls : List (List (Int × Int))) (k : Nat) (hk : k < ls.length) : tot (ls.take (k + 1)) = tot (ls.take k) + (ls.getD k []).length := by
  unfold tot
  rw [List.take_succ_eq_append_getElem hk, List.map_append, List.sum_append]
  congr 1
  simp [List.getD_eq_getElem?_getD, List.getElem?_eq_getElem hk]
theorem tot_le (ls : List (List (Int × Int))) (k : Nat) : tot (ls.take k) ≤ tot ls := by
  unfold tot
  have h : ls.map List.length = (ls.take k).map List.length ++ (ls.drop k).map List.length := by rw [← List.map_append, List.take_append_drop]
  rw [h, List.sum_append]; exact Nat.le_add_right _ _
theorem tot_get (ls : List (List (Int × Int))) (k : Nat) (hk : k < ls.length) : (ls.getD k []).length ≤ tot ls := by
  have h1 := tot_take ls k hk
  have h2 := tot_le ls (k + 1)
  omega

/-- what stands for one token -/
def piece (ls : List (List (Int × Int))) (t : Int × Int) : Option (List (Int × Int)) := if t.1 = 4 then (if t.2 < (ls.length : Int) then some (ls.getD t.2.toNat []) else none) else some [t]
def sub (ls : List (List (Int × Int))) : List (Int × Int) → Option (List (Int × Int))
  | [] => some []
  | t :: r => (piece ls t).bind fun p => (sub ls r).map fun q => p ++ q
theorem sub_append (ls : List (List (Int × Int))) (a b : List (Int × Int)) : sub ls (a ++ b) = (sub ls a).bind fun p => (sub ls b).map fun q => p ++ q := by
  induction a with
  | nil => simp [sub]
  | cons t r ih =>
    simp only [List.cons_append, sub, ih]
    cases piece ls t with
    | none => rfl
    | some p =>
      cases sub ls r with
      | none => rfl
      | some q => cases sub ls b <;> simp
theorem sub_take {ls : List (List (Int × Int))} {l : List (Int × Int)} {k : Nat} {a p : List (Int × Int)} (hk : k < l.length) (ha : sub ls (l.take k) = some a) (hp : piece ls (l.getD k (0, 0)) = some p) : sub ls (l.take (k + 1)) = some (a ++ p) := by
  have hg : l.getD k (0, 0) = l[k] := by simp [List.getD_eq_getElem?_getD, List.getElem?_eq_getElem hk]
  rw [hg] at hp
  rw [List.take_succ_eq_append_getElem hk, sub_append, ha]
  simp [sub, hp]
theorem sub_none {ls : List (List (Int × Int))} {l : List (Int × Int)} {k : Nat} (hk : k < l.length) (hp : piece ls (l.getD k (0, 0)) = none) : sub ls l = none := by
  have hg : l.getD k (0, 0) = l[k] := by simp [List.getD_eq_getElem?_getD, List.getElem?_eq_getElem hk]
  rw [hg] at hp
  rw [← List.take_append_drop k l, sub_append, List.drop_eq_getElem_cons hk]
  cases sub ls (List.take k l) with
  | none => rfl
  | some a => simp [sub, hp]

/-- LevelSubst's answer -/
def substR (l : List (Int × Int)) (ls : List (List (Int × Int))) : Option (List (Int × Int)) :=
  if Lv.levelOk l = true ∧ ls.all Lv.levelOk = true then (sub ls l).bind ifR else none

theorem hts_all {l : List (Int × Int)} {n m : Int} (h : Lv.hts l n = some m) : ∀ t ∈ l, Lv.tkOk t = true := by
  induction l generalizing n with
  | nil => intro t ht; cases ht
  | cons t r ih =>
    rw [Lv.hts] at h
    by_cases hc : Lv.tkOk t = true ∧ Lv.takes t.1 ≤ n
    · rw [if_pos hc] at h
      intro u hu
      rcases List.mem_cons.1 hu with rfl | hu
      · exact hc.1
      · exact ih h u hu
    · rw [if_neg hc] at h; cases h
/-- a token of a level is right: the number of a parameter is 0 .. 4 -/
theorem ok_tk {l : List (Int × Int)} (h : Lv.levelOk l = true) {k : Nat} (hk : k < l.length) {a b : Int} (hg : l.getD k (0, 0) = (a, b)) : 0 ≤ b ∧ b < 5 := by
  simp only [Lv.levelOk, Bool.and_eq_true, decide_eq_true_eq] at h
  have hm : (a, b) ∈ l := by
    rw [← hg, List.getD_eq_getElem?_getD, List.getElem?_eq_getElem hk]
    exact List.getElem_mem hk
  have := hts_all h.2 _ hm
  simp [Lv.tkOk] at this
  omega
theorem all_get {ls : List (List (Int × Int))} {k : Nat} (h : ls.all Lv.levelOk = true) (hk : k < ls.length) : Lv.levelOk (ls.getD k []) = true := by
  rw [List.getD_eq_getElem?_getD, List.getElem?_eq_getElem hk]
  exact List.all_eq_true.1 h _ (List.getElem_mem hk)
theorem all_of {ls : List (List (Int × Int))} (h : ∀ j, j < ls.length → Lv.levelOk (ls.getD j []) = true) : ls.all Lv.levelOk = true := by
  rw [List.all_eq_true]
  intro x hx
  obtain ⟨i, hi, rfl⟩ := List.mem_iff_getElem.1 hx
  have := h i hi
  rwa [List.getD_eq_getElem?_getD, List.getElem?_eq_getElem hi] at this
theorem not_all {ls : List (List (Int × Int))} {k : Nat} (hk : k < ls.length) (h : Lv.levelOk (ls.getD k []) = false) : ls.all Lv.levelOk = false := by
  cases he : ls.all Lv.levelOk with
  | false => rfl
  | true => rw [all_get he hk] at h; cases h

set_option maxRecDepth 100000 in
set_option maxHeartbeats 1600000 in
theorem levelsOk_any (w : World) (B : Nat) (A : Option Addr) (n c : Nat) (ls : List (List (Int × Int))) (T : TypeId) (pv : Value) (h0 : 0 < B) (hB : B ≤ w.heap.size)
    (hl : LvlR w B A n ls) (hm : bulk ls ≤ 1048576) (hE : ErrAt w T pv) :
    Calls Tryd.prog 69 #[.slice A n c] w fun e w' => e = .returned (.bool (ls.all Lv.levelOk)) ∧ Below w.heap.size w w' := by
  have hln := hl.1
  have hnb : n ≤ 1048576 := by unfold bulk at hm; omega
  go_enter Tryd.func69, Tryd.ntmps69
  go_wp2
  go_loopw [7] (fun i wr => ∃ k : Nat, k ≤ n ∧ i = .int .i64 k ∧ (∀ j, j < k → Lv.levelOk (ls.getD j []) = true) ∧ Below w.heap.size w wr) (fun i _ => n - (intOf i).toNat)
  case atStart => exact ⟨0, Nat.zero_le _, rfl, (fun j hj => absurd hj (by omega)), Below.refl _ _⟩
  case round =>
    obtain ⟨k, hk, rfl, hall, hbel⟩ := hrel
    have HA := Lib.hid hall
    clear hall
    by_cases hlt : k < n
    · have hlr := hl.below (hbel.mono hB)
      obtain ⟨b, off, rfl, hb, hc⟩ := hlr.2 (by omega)
      obtain ⟨Ak, nk, ck, c1, t1, _⟩ := hc k hlt
      have hgk := tot_get ls k (by omega)
      rw [t1.1] at hgk
      have hnk : nk ≤ 1048576 := by unfold bulk at hm; omega
      have hba := hbel.alloc hbel.size (.cells #[.slice Ak nk ck] 43)
      have t2 := t1.below (((Below.refl wr.heap.size wr).alloc (Nat.le_refl _) (.cells #[.slice Ak nk ck] 43)).mono (Nat.le_trans hB hbel.size))
      have HEa := Lib.hid (hE.below (hba.mono hB) h0)
      have HT2 := Lib.hid t2
      have hz := hbel.size
      have HL := Lib.hid hl
      clear hl hlr hc t1 t2 hgk
      go_wp2_with fail
      refine (levelOk_any _ B Ak nk ck (ls.getD k []) T pv h0 (by simp; omega) HT2.out (by omega) HEa.out).mono ?_
      rintro e w1 ⟨rfl, hb1⟩
      have hB1 := hba.trans (hb1.mono (by simp; omega))
      clear hba hb1
      cases hok : Lv.levelOk (ls.getD k []) with
      | false =>
        have HN := Lib.hid (not_all (by omega) hok)
        clear hok
        go_wp2
        go_ret
        exact ⟨ret_bool (by rw [HN.out]), hB1⟩
      | true =>
        have HK := Lib.hid hok
        clear hok
        go_wp2
        go_roundw
        case rel =>
          refine ⟨k + 1, by omega, by go_num, fun j hj => ?_, hB1⟩
          by_cases hjk : j = k
          · subst hjk; exact HK.out
          · exact HA.out j (by omega)
        case measure => simp [intOf]; omega
    · obtain rfl : k = n := by omega
      have HN := Lib.hid (all_of (ls := ls) (fun j hj => HA.out j (by omega)))
      clear HA
      go_wp2
      go_ret
      exact ⟨ret_bool (by rw [HN.out]), hbel⟩
end Go.Proofs.YtkpelkbkemohlaaDoor
