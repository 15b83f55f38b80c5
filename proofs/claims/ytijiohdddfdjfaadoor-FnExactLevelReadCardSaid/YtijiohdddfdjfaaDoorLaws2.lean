/- The laws' comparison of two slices of tokens. -/
import Derived.Test.YtijiohdddfdjfaaDoorLaws1
namespace Go.Proofs.YtijiohdddfdjfaaDoor
open Go.RowKit

set_option maxHeartbeats 800000 in
theorem eqTok_any (a b c d : Int) (w : World) :
    Calls Tryd.prog 60 #[.agg #[.int .i64 a, .int .i64 b], .agg #[.int .i64 c, .int .i64 d]] w fun e w' => e = .returned (.bool (decide ((a, b) = (c, d)))) ∧ Below w.heap.size w w' := by
  have hb : Below w.heap.size w ((w.alloc (.cells #[.int .i64 a, .int .i64 b] 66)).alloc (.cells #[.int .i64 c, .int .i64 d] 66)) := ((Below.refl _ _).alloc (Nat.le_refl _) _).alloc (by simp) _
  have HB := Lib.hid hb
  clear hb
  by_cases h1 : a = c
  · subst h1
    by_cases h2 : b = d
    · subst h2
      go_enter Tryd.func60, Tryd.ntmps60
      go_wp2
      go_ret
      exact ⟨ret_bool (by simp), HB.out⟩
    · have e2 : (b != d) = true := by simpa using h2
      have HD : Hid (decide ((a, b) = (a, d)) = false) := by show _ = _; simp [h2]
      clear h2
      go_enter Tryd.func60, Tryd.ntmps60
      go_wp2
      go_ret
      exact ⟨by rw [HD.out]; rfl, HB.out⟩
  · have e1 : (a != c) = true := by simpa using h1
    have HD : Hid (decide ((a, b) = (c, d)) = false) := by show _ = _; simp [h1]
    clear h1
    go_enter Tryd.func60, Tryd.ntmps60
    go_wp2
    go_ret
    exact ⟨by rw [HD.out]; rfl, HB.out⟩

/-- two lists of one length that agree up to k -/
def Agree {α : Type} (d : α) (k : Nat) (l m : List α) : Prop := ∀ j, j < k → l.getD j d = m.getD j d
theorem agree_all {α : Type} {d : α} {n : Nat} {l m : List α} (h1 : l.length = n) (h2 : m.length = n) (h : Agree d n l m) : l = m := by
  apply List.ext_getElem (by omega)
  intro i hi hj
  have := h i (by omega)
  simpa [List.getD_eq_getElem?_getD, List.getElem?_eq_getElem hi, List.getElem?_eq_getElem hj] using this
theorem agree_step {α : Type} {d : α} {k : Nat} {l m : List α} (h : Agree d k l m) (e : l.getD k d = m.getD k d) : Agree d (k + 1) l m := by
  intro j hj
  by_cases hjk : j = k
  · subst hjk; exact e
  · exact h j (by omega)

set_option maxRecDepth 100000 in
set_option maxHeartbeats 1000000 in
theorem eqTokS_any (w : World) (B : Nat) (A1 A2 : Option Addr) (n1 n2 c1 c2 : Nat) (l m : List (Int × Int)) (hB : B ≤ w.heap.size) (hl : TokR w B A1 n1 l) (hm : TokR w B A2 n2 m)
    (hn1 : (n1 : Int) ≤ 140737488355328) (hn2 : (n2 : Int) ≤ 140737488355328) :
    Calls Tryd.prog 26 #[.slice A1 n1 c1, .slice A2 n2 c2] w fun e w' => e = .returned (.bool (decide (l = m))) ∧ Below w.heap.size w w' := by
  by_cases hne : n1 = n2
  · subst hne
    have en : ((n1 : Int) != (n1 : Int)) = false := by simp
    go_enter Tryd.func26, Tryd.ntmps26
    go_wp2
    go_loopw [5] (fun i wr => ∃ k : Nat, k ≤ n1 ∧ i = .int .i64 k ∧ Agree (0, 0) k l m ∧ Below w.heap.size w wr) (fun i _ => n1 - (intOf i).toNat)
    case atStart => exact ⟨0, Nat.zero_le _, rfl, (fun j hj => absurd hj (by omega)), Below.refl _ _⟩
    case round =>
      obtain ⟨k, hk, rfl, hag, hbel⟩ := hrel
      have HG := Lib.hid hag
      clear hag
      by_cases hlt : k < n1
      · obtain ⟨b, off, rfl, hb, hc⟩ := hl.2 (by omega)
        obtain ⟨x1, x2⟩ := hc k hlt
        obtain ⟨b', off', rfl, hb', hc'⟩ := hm.2 (by omega)
        obtain ⟨y1, y2⟩ := hc' k hlt
        have HL := Lib.hid hl
        have HM := Lib.hid hm
        obtain ⟨t, ht⟩ : ∃ t, l.getD k (0, 0) = t := ⟨_, rfl⟩
        obtain ⟨u, hu⟩ : ∃ u, m.getD k (0, 0) = u := ⟨_, rfl⟩
        rw [ht] at x1 x2
        rw [hu] at y1 y2
        obtain ⟨p, q⟩ := t
        obtain ⟨r, s⟩ := u
        have HT := Lib.hid ht
        have HU := Lib.hid hu
        have k1 := (hbel.cell (p := ⟨b, off + k * 2, none⟩) (by show b < _; omega)).trans x1
        have k2 := (hbel.cell (p := ⟨b, off + k * 2 + 1, none⟩) (by show b < _; omega)).trans x2
        have k3 := (hbel.cell (p := ⟨b', off' + k * 2, none⟩) (by show b' < _; omega)).trans y1
        have k4 := (hbel.cell (p := ⟨b', off' + k * 2 + 1, none⟩) (by show b' < _; omega)).trans y2
        clear x1 x2 y1 y2 hc hc' ht hu hl hm
        go_wp2_with fail
        refine region_tail 8 (by kernel_rfl) (by kernel_rfl) ?_
        simp only [List.take_succ_cons, List.take_zero, List.drop_succ_cons, List.drop_zero]
        repeat still_step
        refine wpStill_nil ?_
        go_wp2_with fail
        refine (eqTok_any p q r s _).mono ?_
        rintro e w1 ⟨rfl, hb1⟩
        have HB := Lib.hid (hbel.drew.trans (hb1.mono hbel.size))
        clear hb1
        by_cases heq : (p, q) = (r, s)
        · have HA : Hid (Agree (0, 0) (k + 1) l m) := agree_step HG.out (by rw [HT.out, HU.out, heq])
          rw [decide_eq_true heq]
          clear heq
          go_wp2
          go_roundw
          case rel => exact ⟨k + 1, by omega, by go_num, HA.out, HB.out⟩
          case measure => simp [intOf]; omega
        · have HF : Hid (decide (l = m) = false) := by
            show _ = _
            rw [decide_eq_false_iff_not]
            intro h
            apply heq
            rw [← HT.out, ← HU.out, h]
          rw [decide_eq_false heq]
          clear heq
          go_wp2
          go_ret
          exact ⟨by rw [HF.out]; rfl, HB.out⟩
      · obtain rfl : k = n1 := by omega
        have HF : Hid (decide (l = m) = true) := by
          show _ = _
          rw [decide_eq_true_eq]
          exact agree_all hl.1 hm.1 HG.out
        clear hl hm
        go_wp2
        go_ret
        exact ⟨by rw [HF.out]; rfl, hbel⟩
  · have HF : Hid (decide (l = m) = false) := by
      show _ = _
      rw [decide_eq_false_iff_not]
      intro h
      apply hne
      rw [← hl.1, ← hm.1, h]
    have en : ((n1 : Int) != (n2 : Int)) = true := by simp; omega
    clear hl hm hne
    go_enter Tryd.func26, Tryd.ntmps26
    go_wp2
    go_ret
    exact ⟨by rw [HF.out]; rfl, Below.refl _ _⟩
end Go.Proofs.YtijiohdddfdjfaaDoor
