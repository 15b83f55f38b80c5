/- slices.DeleteFunc on a row of numbers that holds the number just once, as leaveOut calls it. -/
import Derived.Test.YtmmhcpigcdlnmaaDel

namespace Go.Proofs.Ytmmhcpigcdlnmaa
open Go.RowKit
open Cs (Cn Tb)

/-- the row behind k places: what stands behind place j is one place lower -/
def shiftL (l : List Int) (j k : Nat) : List Int := (List.range l.length).map fun i => if j ≤ i ∧ i + 1 < k then l.getD (i + 1) 0 else l.getD i 0
theorem shiftL_len (l : List Int) (j k : Nat) : (shiftL l j k).length = l.length := by simp [shiftL]
theorem shiftL_get (l : List Int) (j k : Nat) {i : Nat} (hi : i < l.length) : (shiftL l j k)[i]? = some (if j ≤ i ∧ i + 1 < k then l.getD (i + 1) 0 else l.getD i 0) := by simp [shiftL, hi]
theorem shiftL_start (l : List Int) (j : Nat) : shiftL l j (j + 1) = l := by
  apply List.ext_getElem?
  intro i
  by_cases hi : i < l.length
  · rw [shiftL_get l j _ hi, if_neg (by omega), List.getD_eq_getElem?_getD, List.getElem?_eq_getElem hi]; rfl
  · rw [List.getElem?_eq_none (by rw [shiftL_len]; omega), List.getElem?_eq_none (by omega)]
theorem shiftL_step (l : List Int) {j p : Nat} (hj : j ≤ p) (_ : p + 1 < l.length) : (shiftL l j (p + 1)).set p (l.getD (p + 1) 0) = shiftL l j (p + 1 + 1) := by
  apply List.ext_getElem?
  intro i
  by_cases hi : i < l.length
  · rw [shiftL_get l j _ hi]
    by_cases e : p = i
    · subst e
      rw [List.getElem?_set_self (by rw [shiftL_len]; omega), if_pos (by omega)]
    · rw [List.getElem?_set_ne e, shiftL_get l j _ hi]
      by_cases c : j ≤ i ∧ i + 1 < p + 1
      · rw [if_pos c, if_pos (by omega)]
      · rw [if_neg c, if_neg (by omega)]
  · rw [List.getElem?_eq_none (by rw [List.length_set, shiftL_len]; omega), List.getElem?_eq_none (by rw [shiftL_len]; omega)]
theorem shiftL_erase (l : List Int) {j : Nat} (hj : j < l.length) (z : Int) : ((shiftL l j l.length).set (l.length - 1) z).take (l.length - 1) = l.eraseIdx j := by
  apply List.ext_getElem?
  intro i
  by_cases hi : i < l.length - 1
  · rw [List.getElem?_take_of_lt hi, List.getElem?_set_ne (by omega), shiftL_get l j _ (by omega), List.getElem?_eraseIdx]
    by_cases c : i < j
    · rw [if_pos c, if_neg (by omega), List.getD_eq_getElem?_getD, List.getElem?_eq_getElem (by omega)]; rfl
    · rw [if_neg c, if_pos (by omega), List.getD_eq_getElem?_getD, List.getElem?_eq_getElem (by omega)]; rfl
  · rw [List.getElem?_eq_none (by simp; omega), List.getElem?_eq_none (by rw [List.length_eraseIdx, if_pos hj]; omega)]
/-- the number stands at place j and nowhere else: what is left is what differs from it -/
theorem erase_filter : ∀ (l : List Int) (j : Nat) (x : Int), j < l.length → l.getD j 0 = x → (∀ i, i < l.length → i ≠ j → l.getD i 0 ≠ x) → l.eraseIdx j = l.filter fun y => !decide (y = x)
  | [], _, _, hj, _, _ => absurd hj (by simp)
  | y :: r, 0, x, _, hx, hu => by
    have hyx : y = x := by simpa using hx
    have hr : r.filter (fun y => !decide (y = x)) = r := by
      rw [List.filter_eq_self]
      intro z hz
      obtain ⟨i, hi, rfl⟩ := List.getElem_of_mem hz
      have := hu (i + 1) (by simpa using hi) (by omega)
      simp [List.getElem?_eq_getElem hi] at this
      simpa using this
    simp only [List.eraseIdx_cons_zero, List.filter_cons, hyx, decide_true, Bool.not_true, Bool.false_eq_true, if_false]
    exact hr.symm
  | y :: r, j + 1, x, hj, hx, hu => by
    have hyx : y ≠ x := by
      have := hu 0 (by simp) (by omega)
      simpa using this
    have ih := erase_filter r j x (by simpa using hj) (by simpa using hx) (fun i hi hne => by
      have := hu (i + 1) (by simpa using hi) (by omega)
      simpa using this)
    simp only [List.eraseIdx_cons_succ, List.filter_cons, hyx, decide_false, Bool.not_false, if_true]
    rw [ih]
theorem Wrote.refl (g : Nat) (w : World) : Wrote g w w := ⟨World.grownBy.refl _ _, rfl⟩
theorem Wrote.trans {g : Nat} {a b c : World} (h : Wrote g a b) (k : Wrote g b c) : Wrote g a c :=
  ⟨⟨k.1.os.trans h.1.os, k.1.tape.trans h.1.tape, k.1.output.trans h.1.output, Nat.le_trans h.1.size k.1.size, fun i hi hne => (k.1.block i (by rw [h.2]; exact hi) hne).trans (h.1.block i hi hne)⟩, k.2.trans h.2⟩
theorem Wrote.cell {g : Nat} {w w' : World} (h : Wrote g w w') {b o : Nat} (hb : b < w.heap.size) (hne : b ≠ g) : w'.cell? ⟨b, o, none⟩ = w.cell? ⟨b, o, none⟩ := by
  have := h.1.block b hb (fun e => hne (by injection e with e))
  simp only [World.cell?, this]
/-- a shorter row in the same block -/
theorem own_short {w : World} {base g n c m : Nat} {e : TypeId} {xs : List Value} (h : w.ownsRow base e 1 (.slice (some ⟨g, 0, none⟩) n c) n xs) (hm : m ≤ n) : w.ownsRow base e 1 (.slice (some ⟨g, 0, none⟩) m c) m (xs.take m) := by
  have hl := h.1
  refine ⟨by rw [List.length_take, hl]; omega, ?_⟩
  rcases h.2 with ⟨h0, _⟩ | ⟨g', cap, cur, hv, hb, hgg, h1, h2, h3, h4⟩
  · cases h0
  · injection hv with e1 e2 e3
    injection e1 with e1
    injection e1 with e1
    subst e1; subst e3
    refine .inr ⟨g, c, cur, rfl, hb, hgg, by omega, h2, h3, ?_⟩
    rw [← h4, List.take_take]
    congr 1
    omega

set_option maxRecDepth 100000 in
set_option maxHeartbeats 1600000 in
theorem deleteI_any (w : World) (g n c base ib : Nat) (l : List Int) (x : Int) (j : Nat) (hl : OwnI w base (some ⟨g, 0, none⟩) n c l) (hn : n ≤ 1000) (hi : w.cell? ⟨ib, 0, none⟩ = some (.int .i64 x)) (hig : ib ≠ g) (hj : j < n) (hx : l.getD j 0 = x) (hu : ∀ i, i < n → i ≠ j → l.getD i 0 ≠ x) :
    Calls Try.prog 87 #[.slice (some ⟨g, 0, none⟩) n c, .func (.func 89) #[] #[.pointer (some ⟨ib, 0, none⟩)]] w fun e w' => e = .returned (.slice (some ⟨g, 0, none⟩) (n - 1) c) ∧ OwnI w' base (some ⟨g, 0, none⟩) (n - 1) c (l.eraseIdx j) ∧ Wrote g w w' := by
  have hlen : l.length = n := by have := hl.1; simpa using this
  have hib := World.block_lt_of_cell? w _ hi
  have hcn : n ≤ c := by
    rcases hl.2 with ⟨h0, _⟩ | ⟨g', cap', cur, hv, _, _, hle, _⟩
    · cases h0
    · injection hv with _ _ e3
      rw [e3]; exact hle
  have HI := Lib.hid hi
  have HL := Lib.hid hl
  have HLEN := Lib.hid hlen
  have HU := Lib.hid hu
  have HX0 := Lib.hid hx
  have HIX := Lib.hid (indexI_any w g n c base ib l x j hl hn hi hj hx (fun i hi' => hu i (by omega) (by omega)))
  clear hl hlen hu hx hi
  have hjn : ((j : Int) == -1) = false := by simp
  go_enter Try.func87, Try.ntmps87
  go_wp2_with fail
  refine HIX.out.mono ?_
  rintro e w1 ⟨rfl, rfl⟩
  clear HIX
  go_wp2
  go_loopw [5, 6] (fun i k wr => ∃ p : Nat, j ≤ p ∧ p + 1 ≤ n ∧ i = .int .i64 (p : Int) ∧ k = .int .i64 ((p + 1 : Nat) : Int) ∧ Hid (OwnI wr base (some ⟨g, 0, none⟩) n c (shiftL l j (p + 1))) ∧ Hid (Wrote g w1 wr)) (fun _ k _ => n - (intOf k).toNat)
  case atStart => exact ⟨j, by omega, by omega, rfl, by go_num, by rw [shiftL_start]; exact HL.out, Wrote.refl _ _⟩
  case round =>
    obtain ⟨p, hjp, hpn, rfl, rfl, HO, HW⟩ := hrel
    by_cases hlt : p + 1 < n
    · have hki : (p : Int) + 1 < (n : Int) := by omega
      have hpi : (p : Int) < (n : Int) := by omega
      have k1 : wr.cell? ⟨g, p + 1, none⟩ = some (.int .i64 (l.getD (p + 1) 0)) := by
        refine (own_spot HO.out ?_).1
        rw [List.getElem?_map, shiftL_get l j _ (by rw [HLEN.out]; exact hlt), if_neg (by omega)]
        rfl
      obtain ⟨z0, k2⟩ : ∃ z0, wr.cell? ⟨g, p, none⟩ = some z0 ∧ wr.frozen? ⟨g, p, none⟩ = false := by
        refine ⟨_, own_spot HO.out (i := p) (u := .int .i64 (if j ≤ p ∧ p + 1 < p + 1 then l.getD (p + 1) 0 else l.getD p 0)) ?_⟩
        rw [List.getElem?_map, shiftL_get l j _ (by rw [HLEN.out]; omega)]
        rfl
      obtain ⟨k2, k3⟩ := k2
      have hne := HU.out (p + 1) hlt (by omega)
      have hi2 := (HW.out.cell (o := 0) hib hig).trans HI.out
      have HO2 : Hid (OwnI (wr.setCell ⟨g, p, none⟩ (.int .i64 (l.getD (p + 1) 0))) base (some ⟨g, 0, none⟩) n c (shiftL l j (p + 1 + 1))) := by
        have := own_set HO.out p (.int .i64 (l.getD (p + 1) 0))
        rw [← List.map_set, shiftL_step l hjp (by rw [HLEN.out]; exact hlt)] at this
        exact this
      have HW2 : Hid (Wrote g w1 (wr.setCell ⟨g, p, none⟩ (.int .i64 (l.getD (p + 1) 0)))) := HW.out.trans (Wrote.set _ _)
      obtain ⟨y, hy⟩ : ∃ y, l.getD (p + 1) 0 = y := ⟨_, rfl⟩
      rw [hy] at k1 hne HO2 HW2
      have d1 : (y == x) = false := by simpa using hne
      clear hy hne
      go_wp2_with fail
      refine (leave1_any wr y x ib hi2).mono ?_
      rintro e w2 ⟨rfl, rfl⟩
      rw [d1]
      go_wp2
      go_roundw
      case rel => exact ⟨p + 1, by omega, by omega, by go_num, by go_num, HO2.out, HW2.out⟩
      case measure => simp [intOf]; omega
    · obtain rfl : n = p + 1 := by omega
      have hkk : ¬ (p : Int) + 1 < ((p + 1 : Nat) : Int) := by omega
      obtain ⟨z0, k2, k3⟩ : ∃ z0, wr.cell? ⟨g, p, none⟩ = some z0 ∧ wr.frozen? ⟨g, p, none⟩ = false := by
        refine ⟨_, own_spot HO.out (i := p) (u := .int .i64 (if j ≤ p ∧ p + 1 < p + 1 then l.getD (p + 1) 0 else l.getD p 0)) ?_⟩
        rw [List.getElem?_map, shiftL_get l j _ (by rw [HLEN.out]; omega)]
        rfl
      have hcl : (Builtin.clear_ #[26] 0 #[.slice (some ⟨g, p, none⟩) 1 (c - p)]).run Try.prog wr = .ok (.tuple #[]) (wr.setCell ⟨g, p, none⟩ (.int .i64 0)) :=
        Lib.run_clear_slice wr 26 3 0 (.int .i64 0) Try.underlying26 (fun _ => by kernel_rfl) rfl rfl g p 1 (c - p) (by omega)
          (fun i hi => by obtain rfl : i = 0 := (by omega); rw [Nat.add_zero, k2]; rfl) (fun i hi => by obtain rfl : i = 0 := (by omega); rw [Nat.add_zero]; exact k3)
      have HO2 : Hid (OwnI (wr.setCell ⟨g, p, none⟩ (.int .i64 0)) base (some ⟨g, 0, none⟩) p c (l.eraseIdx j)) := by
        have h1 := own_short (own_set HO.out p (.int .i64 0)) (m := p) (by omega)
        rw [← List.map_set, ← List.map_take] at h1
        have h2 := shiftL_erase l (j := j) (by rw [HLEN.out]; omega) 0
        rw [HLEN.out] at h2
        rw [show p + 1 - 1 = p by omega] at h2
        rw [h2] at h1
        exact h1
      have HW2 : Hid (Wrote g w1 (wr.setCell ⟨g, p, none⟩ (.int .i64 0))) := HW.out.trans (Wrote.set _ _)
      clear k2 k3
      go_wp2
      go_ret
      exact ⟨rfl, HO2.out, HW2.out⟩
end Go.Proofs.Ytmmhcpigcdlnmaa
