/- ResidOk of the reference model (written by tools/mkrok2.py). -/
/- An atom under a table of longest ways: l06Atom of the reference model. -/
/- AtomUnder of the program. -/
import Derived.Test.YtmbcjddahncocaaDoorDcMath
import Derived.Test.YtmbcjddahncocaaDoorRsMath
import Derived.Test.YtmbcjddahncocaaDoorNNorm
import Derived.Test.YtmbcjddahncocaaDoorUnAtom

namespace Go.Proofs.YtmbcjddahncocaaDoor
open Go.RowKit

/-- what the model asks of one atom of a residual -/
def RAt (s : Int) (l : List (Int × Int)) (k : Nat) : Prop := Nm.atOk (l.getD k (0, 0)) = true ∧ ((l.getD k (0, 0)).1 = -1 ∨ Sg.has s (l.getD k (0, 0)).1 = true) ∧ (0 < k → (l.getD (k - 1) (0, 0)).1 < (l.getD k (0, 0)).1 ∧ ((l.getD 0 (0, 0)).1 = -1 → (l.getD k (0, 0)).2 + 2 ≤ (l.getD 0 (0, 0)).2))
/-- what the model has seen of the first k atoms -/
def SeenR (s : Int) (l : List (Int × Int)) (k : Nat) : Prop := ∀ j, j < k → RAt s l j
theorem seenR_step {s : Int} {l : List (Int × Int)} {k : Nat} (h : SeenR s l k) (h1 : RAt s l k) : SeenR s l (k + 1) := by
  intro j hj
  by_cases e : j = k
  · subst e; exact h1
  · exact h j (by omega)
theorem seenR_all {s : Int} {l : List (Int × Int)} (hs : Sg.isSign s = true) (h0 : 1 ≤ l.length) (h : SeenR s l l.length) : Nm.ROk s l := by
  refine ⟨hs, h0, fun k hk => (h k hk).1, fun k h0 hk => ((h k hk).2.2 h0).1, fun k hk => (h k hk).2.1, fun e k hk => ?_⟩
  rw [List.length_drop] at hk
  rw [Nm.getD_drop1]
  have := ((h (k + 1) (by omega)).2.2 (by omega)).2 e
  omega
theorem seenR_of {s : Int} {l : List (Int × Int)} (h : Nm.ROk s l) {k : Nat} (hk : k < l.length) : RAt s l k := by
  refine ⟨h.2.2.1 k hk, h.2.2.2.2.1 k hk, fun h0 => ⟨h.2.2.2.1 k h0 hk, fun e => ?_⟩⟩
  have := h.2.2.2.2.2 e (k - 1) (by rw [List.length_drop]; omega)
  rw [Nm.getD_drop1, show k - 1 + 1 = k by omega] at this
  omega

set_option maxRecDepth 100000 in
set_option maxHeartbeats 6400000 in
theorem specResidOk_any (w : World) (B : Nat) (A : Option Addr) (n c : Nat) (l : List (Int × Int)) (s : Int) (hB : B ≤ w.heap.size) (hl : TokR w B A n l) (hn : (n : Int) ≤ 140737488355328) :
    Calls Tryd.prog 98 #[.slice A n c, .int .i64 s] w fun e w' => e = .returned (.bool (Nm.residOk s l)) ∧ Below w.heap.size w w' := by
  cases hs : Sg.isSign s with
  | false =>
    have HF : Hid (Nm.residOk s l = false) := Nm.residOk_no (fun h => by rw [h.1] at hs; cases hs)
    clear hl
    go_enter Tryd.func98, Tryd.ntmps98
    go_wp2_with fail
    refine (l03Sign_any w s).mono ?_
    rintro e w' ⟨rfl, rfl⟩
    rw [hs]
    go_wp2
    go_ret
    exact ⟨by rw [HF.out]; rfl, Below.refl _ _⟩
  | true =>
  by_cases h0 : n = 0
  · subst h0
    have HF : Hid (Nm.residOk s l = false) := Nm.residOk_no (fun h => by have h1 := h.2.1; rw [hl.1] at h1; omega)
    clear hl
    go_enter Tryd.func98, Tryd.ntmps98
    go_wp2_with fail
    refine (l03Sign_any w s).mono ?_
    rintro e w' ⟨rfl, rfl⟩
    rw [hs]
    go_wp2
    go_ret
    exact ⟨by rw [HF.out]; rfl, Below.refl _ _⟩
  · have h1 : 1 ≤ n := by omega
    have hi0 : 0 < n := by omega
    obtain ⟨b, off, rfl, hb, hc⟩ := hl.2 (by omega)
    have HC := Lib.hid hc
    have HL := Lib.hid hl.1
    obtain ⟨t0, ht0⟩ : ∃ t, l.getD 0 (0, 0) = t := ⟨_, rfl⟩
    have c0 := hc 0 (by omega)
    rw [ht0] at c0
    obtain ⟨p0, x0⟩ := t0
    simp only [Nat.zero_mul, Nat.add_zero] at c0
    obtain ⟨c01, c02⟩ := c0
    have HT0 := Lib.hid ht0
    have HSG := Lib.hid hs
    clear hc hl ht0
    go_enter Tryd.func98, Tryd.ntmps98
    go_wp2_with fail
    refine (l03Sign_any w s).mono ?_
    rintro e w' ⟨rfl, rfl⟩
    rw [hs]
    clear hs
    go_wp2
    go_loopw [5] (fun i wr => ∃ k : Nat, k ≤ n ∧ i = .int .i64 k ∧ Hid (SeenR s l k) ∧ Below w'.heap.size w' wr) (fun i _ => n - (intOf i).toNat)
    case atStart => exact ⟨0, Nat.zero_le _, rfl, (fun j hj => absurd hj (by omega)), Below.refl _ _⟩
    case round =>
      obtain ⟨k, hk, rfl, HA, hbel⟩ := hrel
      by_cases hlt : k < n
      · obtain ⟨t, ht⟩ : ∃ t, l.getD k (0, 0) = t := ⟨_, rfl⟩
        obtain ⟨c1, c2⟩ := HC.out k hlt
        rw [ht] at c1 c2
        obtain ⟨p, x⟩ := t
        have HT := Lib.hid ht
        have hbr : b < wr.heap.size := by have := hbel.size; omega
        have k1 : ∀ d : Later wr, d.out.cell? ⟨b, off + k * 2, none⟩ = some (.int .i64 p) := fun d => d.cell hbr ((hbel.cell (p := ⟨b, off + k * 2, none⟩) (by show b < _; omega)).trans c1)
        have k2 : ∀ d : Later wr, d.out.cell? ⟨b, off + k * 2 + 1, none⟩ = some (.int .i64 x) := fun d => d.cell hbr ((hbel.cell (p := ⟨b, off + k * 2 + 1, none⟩) (by show b < _; omega)).trans c2)
        have k3 : ∀ d : Later wr, d.out.cell? ⟨b, off, none⟩ = some (.int .i64 p0) := fun d => d.cell hbr ((hbel.cell (p := ⟨b, off, none⟩) (by show b < _; omega)).trans c01)
        have k4 : ∀ d : Later wr, d.out.cell? ⟨b, off + 1, none⟩ = some (.int .i64 x0) := fun d => d.cell hbr ((hbel.cell (p := ⟨b, off + 1, none⟩) (by show b < _; omega)).trans c02)
        clear c1 c2 ht
        have hki : (k : Int) < (n : Int) := by omega
        have fail_of : ¬ (Nm.atOk (p, x) = true ∧ (p = -1 ∨ Sg.has s p = true) ∧ (0 < k → (l.getD (k - 1) (0, 0)).1 < p ∧ (p0 = -1 → x + 2 ≤ x0))) → Hid (Nm.residOk s l = false) := by
          intro hno
          refine Nm.residOk_no (fun h => hno ?_)
          have := seenR_of h (k := k) (by rw [HL.out]; exact hlt)
          unfold RAt at this
          rw [HT.out, HT0.out] at this
          exact this
        have step_of : (Nm.atOk (p, x) = true ∧ (p = -1 ∨ Sg.has s p = true) ∧ (0 < k → (l.getD (k - 1) (0, 0)).1 < p ∧ (p0 = -1 → x + 2 ≤ x0))) → Hid (SeenR s l (k + 1)) := by
          intro h
          refine seenR_step HA.out ?_
          unfold RAt
          rw [HT.out, HT0.out]
          exact h
        have HSH : Hid (∀ d : Later wr, Calls Tryd.prog 121 #[.int .i64 s, .int .i64 p] d.out fun e w'' => e = .returned (.bool (Sg.has s p)) ∧ ∃ d' : Later wr, w'' = d'.out) := fun d => calls_later_same ((specSignHas_any d.out s p).mono fun _ _ ⟨h, h'⟩ => ⟨h, h'.symm⟩)
        cases hok : Nm.atOk (p, x) with
        | false =>
          have HF := fail_of (by intro h; rw [hok] at h; cases h.1)
          have HO := Lib.hid hok
          have HCALL : Hid (∀ d : Later wr, Calls Tryd.prog 139 #[.agg #[.int .i64 p, .int .i64 x]] d.out fun e w'' => e = .returned (.bool false) ∧ ∃ d' : Later wr, w'' = d'.out) := fun d => calls_later (by have h := specAtom_any p x d.out; rw [HO.out] at h; exact h)
          clear hok fail_of step_of
          go_wp2_with fail
          refine region_later (by kernel_rfl) (by kernel_rfl) ?_
          repeat (go_big_quiet_step (first | exact HCALL.out _ | exact HSH.out _))
          refine wpQuiet_nil ?_
          intro w1 hb1
          have HB := Lib.hid (hbel.trans (hb1.mono hbel.size))
          clear hb1
          go_wp2
          go_ret
          exact ⟨by rw [HF.out]; rfl, HB.out⟩
        | true =>
          have HO := Lib.hid hok
          have HCALL : Hid (∀ d : Later wr, Calls Tryd.prog 139 #[.agg #[.int .i64 p, .int .i64 x]] d.out fun e w'' => e = .returned (.bool true) ∧ ∃ d' : Later wr, w'' = d'.out) := fun d => calls_later (by have h := specAtom_any p x d.out; rw [HO.out] at h; exact h)
          have hat := (Nm.atOk_iff _).1 hok
          simp only at hat
          obtain ⟨a1, a2, a3, a4⟩ := hat
          have hx2 : IntKind.i64.wrap (x + 2) = x + 2 := by rw [IntKind.wrap_i64]; omega
          clear hok
          by_cases hp : p = -1
          · subst hp
            by_cases hk0 : k = 0
            · have HS := step_of ⟨HO.out, Or.inl rfl, fun h => absurd h (by omega)⟩
              have dk : decide (0 < k) = false := by simp; omega
              clear fail_of step_of hk0
              go_wp2_with fail
              refine region_later (by kernel_rfl) (by kernel_rfl) ?_
              repeat (go_big_quiet_step (first | exact HCALL.out _ | exact HSH.out _))
              refine wpQuiet_nil ?_
              intro w1 hb1
              have HB := Lib.hid (hbel.trans (hb1.mono hbel.size))
              clear hb1
              go_wp2
              go_roundw
              case rel => exact ⟨k + 1, by omega, by go_num, HS.out, HB.out⟩
              case measure => simp [intOf]; omega
            · have hk1 : 0 < k := by omega
              have hw1 : IntKind.i64.wrap ((k : Int) - 1) = ((k - 1 : Nat) : Int) := by rw [IntKind.wrap_i64]; omega
              have hw2 : ((k - 1 : Nat) : Int) < (n : Int) := by omega
              obtain ⟨q, hq⟩ : ∃ q, (l.getD (k - 1) (0, 0)).1 = q := ⟨_, rfl⟩
              have c5 := (HC.out (k - 1) (by omega)).1
              rw [hq] at c5 fail_of step_of
              have k5 : ∀ d : Later wr, d.out.cell? ⟨b, off + (k - 1) * 2, none⟩ = some (.int .i64 q) := fun d => d.cell hbr ((hbel.cell (p := ⟨b, off + (k - 1) * 2, none⟩) (by show b < _; omega)).trans c5)
              clear c5 hq
              by_cases hqp : -1 ≤ q
              · have HF := fail_of (by intro h; have := (h.2.2 (by omega)).1; omega)
                clear fail_of step_of hk0
                go_wp2_with fail
                refine region_later (by kernel_rfl) (by kernel_rfl) ?_
                repeat (go_big_quiet_step (first | exact HCALL.out _ | exact HSH.out _))
                refine wpQuiet_nil ?_
                intro w1 hb1
                have HB := Lib.hid (hbel.trans (hb1.mono hbel.size))
                clear hb1
                go_wp2
                go_ret
                exact ⟨by rw [HF.out]; rfl, HB.out⟩
              · have hqp' : q < -1 := by omega
                have dpq : decide (-1 ≤ q) = false := by simp; omega
                by_cases hp0 : p0 = -1
                · subst hp0
                  by_cases hx : x0 < x + 2
                  · have HF := fail_of (by intro h; have := (h.2.2 (by omega)).2 rfl; omega)
                    clear fail_of step_of hk0 hqp
                    go_wp2_with fail
                    refine region_later (by kernel_rfl) (by kernel_rfl) ?_
                    repeat (go_big_quiet_step (first | exact HCALL.out _ | exact HSH.out _))
                    refine wpQuiet_nil ?_
                    intro w1 hb1
                    have HB := Lib.hid (hbel.trans (hb1.mono hbel.size))
                    clear hb1
                    go_wp2
                    go_ret
                    exact ⟨by rw [HF.out]; rfl, HB.out⟩
                  · have hx' : x + 2 ≤ x0 := by omega
                    have dx : decide (x0 < x + 2) = false := by simp; omega
                    have HS := step_of ⟨HO.out, Or.inl rfl, fun _ => ⟨hqp', fun _ => hx'⟩⟩
                    clear fail_of step_of hk0 hqp hx
                    go_wp2_with fail
                    refine region_later (by kernel_rfl) (by kernel_rfl) ?_
                    repeat (go_big_quiet_step (first | exact HCALL.out _ | exact HSH.out _))
                    refine wpQuiet_nil ?_
                    intro w1 hb1
                    have HB := Lib.hid (hbel.trans (hb1.mono hbel.size))
                    clear hb1
                    go_wp2
                    go_roundw
                    case rel => exact ⟨k + 1, by omega, by go_num, HS.out, HB.out⟩
                    case measure => simp [intOf]; omega
                · have dp0 : (p0 == -1) = false := by simpa using hp0
                  have HS := step_of ⟨HO.out, Or.inl rfl, fun _ => ⟨hqp', fun e => absurd e hp0⟩⟩
                  clear fail_of step_of hk0 hqp hp0
                  go_wp2_with fail
                  refine region_later (by kernel_rfl) (by kernel_rfl) ?_
                  repeat (go_big_quiet_step (first | exact HCALL.out _ | exact HSH.out _))
                  refine wpQuiet_nil ?_
                  intro w1 hb1
                  have HB := Lib.hid (hbel.trans (hb1.mono hbel.size))
                  clear hb1
                  go_wp2
                  go_roundw
                  case rel => exact ⟨k + 1, by omega, by go_num, HS.out, HB.out⟩
                  case measure => simp [intOf]; omega
          · have hp' : 0 ≤ p := by omega
            cases hh : Sg.has s p with
            | false =>
              rw [hh] at HSH
              have HF := fail_of (fun h => h.2.1.elim (fun h => hp h) (fun h => by rw [hh] at h; cases h))
              clear fail_of step_of hp hh
              go_wp2_with fail
              refine region_later (by kernel_rfl) (by kernel_rfl) ?_
              repeat (go_big_quiet_step (first | exact HCALL.out _ | exact HSH.out _))
              refine wpQuiet_nil ?_
              intro w1 hb1
              have HB := Lib.hid (hbel.trans (hb1.mono hbel.size))
              clear hb1
              go_wp2
              go_ret
              exact ⟨by rw [HF.out]; rfl, HB.out⟩
            | true =>
              rw [hh] at HSH
              clear hp
              by_cases hk0 : k = 0
              · have HS := step_of ⟨HO.out, Or.inr hh, fun h => absurd h (by omega)⟩
                have dk : decide (0 < k) = false := by simp; omega
                clear fail_of step_of hk0
                go_wp2_with fail
                refine region_later (by kernel_rfl) (by kernel_rfl) ?_
                repeat (go_big_quiet_step (first | exact HCALL.out _ | exact HSH.out _))
                refine wpQuiet_nil ?_
                intro w1 hb1
                have HB := Lib.hid (hbel.trans (hb1.mono hbel.size))
                clear hb1
                go_wp2
                go_roundw
                case rel => exact ⟨k + 1, by omega, by go_num, HS.out, HB.out⟩
                case measure => simp [intOf]; omega
              · have hk1 : 0 < k := by omega
                have hw1 : IntKind.i64.wrap ((k : Int) - 1) = ((k - 1 : Nat) : Int) := by rw [IntKind.wrap_i64]; omega
                have hw2 : ((k - 1 : Nat) : Int) < (n : Int) := by omega
                obtain ⟨q, hq⟩ : ∃ q, (l.getD (k - 1) (0, 0)).1 = q := ⟨_, rfl⟩
                have c5 := (HC.out (k - 1) (by omega)).1
                rw [hq] at c5 fail_of step_of
                have k5 : ∀ d : Later wr, d.out.cell? ⟨b, off + (k - 1) * 2, none⟩ = some (.int .i64 q) := fun d => d.cell hbr ((hbel.cell (p := ⟨b, off + (k - 1) * 2, none⟩) (by show b < _; omega)).trans c5)
                clear c5 hq
                by_cases hqp : p ≤ q
                · have HF := fail_of (by intro h; have := (h.2.2 (by omega)).1; omega)
                  clear fail_of step_of hk0
                  go_wp2_with fail
                  refine region_later (by kernel_rfl) (by kernel_rfl) ?_
                  repeat (go_big_quiet_step (first | exact HCALL.out _ | exact HSH.out _))
                  refine wpQuiet_nil ?_
                  intro w1 hb1
                  have HB := Lib.hid (hbel.trans (hb1.mono hbel.size))
                  clear hb1
                  go_wp2
                  go_ret
                  exact ⟨by rw [HF.out]; rfl, HB.out⟩
                · have hqp' : q < p := by omega
                  have dpq : decide (p ≤ q) = false := by simp; omega
                  by_cases hp0 : p0 = -1
                  · subst hp0
                    by_cases hx : x0 < x + 2
                    · have HF := fail_of (by intro h; have := (h.2.2 (by omega)).2 rfl; omega)
                      clear fail_of step_of hk0 hqp
                      go_wp2_with fail
                      refine region_later (by kernel_rfl) (by kernel_rfl) ?_
                      repeat (go_big_quiet_step (first | exact HCALL.out _ | exact HSH.out _))
                      refine wpQuiet_nil ?_
                      intro w1 hb1
                      have HB := Lib.hid (hbel.trans (hb1.mono hbel.size))
                      clear hb1
                      go_wp2
                      go_ret
                      exact ⟨by rw [HF.out]; rfl, HB.out⟩
                    · have hx' : x + 2 ≤ x0 := by omega
                      have dx : decide (x0 < x + 2) = false := by simp; omega
                      have HS := step_of ⟨HO.out, Or.inr hh, fun _ => ⟨hqp', fun _ => hx'⟩⟩
                      clear fail_of step_of hk0 hqp hx
                      go_wp2_with fail
                      refine region_later (by kernel_rfl) (by kernel_rfl) ?_
                      repeat (go_big_quiet_step (first | exact HCALL.out _ | exact HSH.out _))
                      refine wpQuiet_nil ?_
                      intro w1 hb1
                      have HB := Lib.hid (hbel.trans (hb1.mono hbel.size))
                      clear hb1
                      go_wp2
                      go_roundw
                      case rel => exact ⟨k + 1, by omega, by go_num, HS.out, HB.out⟩
                      case measure => simp [intOf]; omega
                  · have dp0 : (p0 == -1) = false := by simpa using hp0
                    have HS := step_of ⟨HO.out, Or.inr hh, fun _ => ⟨hqp', fun e => absurd e hp0⟩⟩
                    clear fail_of step_of hk0 hqp hp0
                    go_wp2_with fail
                    refine region_later (by kernel_rfl) (by kernel_rfl) ?_
                    repeat (go_big_quiet_step (first | exact HCALL.out _ | exact HSH.out _))
                    refine wpQuiet_nil ?_
                    intro w1 hb1
                    have HB := Lib.hid (hbel.trans (hb1.mono hbel.size))
                    clear hb1
                    go_wp2
                    go_roundw
                    case rel => exact ⟨k + 1, by omega, by go_num, HS.out, HB.out⟩
                    case measure => simp [intOf]; omega
      · have HF : Hid (Nm.residOk s l = true) := (Nm.residOk_iff s l).2 (seenR_all HSG.out (by rw [HL.out]; exact h1) (by have h := HA.out; rw [HL.out, show n = k by omega]; exact h))
        go_wp2
        go_ret
        exact ⟨by rw [HF.out]; rfl, hbel⟩
end Go.Proofs.YtmbcjddahncocaaDoor

namespace Go.Proofs.YtmbcjddahncocaaDoor
open Go.RowKit
open Cs (Cn Tb)

set_option maxRecDepth 100000 in
set_option maxHeartbeats 1600000 in
theorem l06Atom_any (w : World) (B base g cap : Nat) (rw' cp : Nat → Nat) (T : Tb) (p x : Int) (A : Option Addr) (n c : Nat) (l : List (Int × Int)) (hB : B ≤ w.heap.size) (ht : TabN w base g cap 6 rw' cp T) (hl : TokR w B A n l) (hn : (n : Int) ≤ 140737488355328) (hok : Nm.AllOk l) (hp1 : -1 ≤ p) (hp2 : p < 5) (hT : ∀ i j, -1 ≤ T i j ∧ T i j ≤ 1000) :
    Calls Tryd.prog 100 #[.slice (some ⟨g, 0, none⟩) 6 cap, .agg #[.int .i64 p, .int .i64 x], .slice A n c] w fun e w' => e = .returned (.bool (Un.atB T (p, x) l)) ∧ Below w.heap.size w w' := by
  obtain ⟨W0, hW0⟩ : ∃ W, w.alloc (.cells #[.int .i64 p, .int .i64 x] 68) = W := ⟨_, rfl⟩
  have HB0 : Hid (Below w.heap.size w W0) := by show Below _ _ _; rw [← hW0]; exact (Below.refl _ _).alloc (Nat.le_refl _) _
  have HK0 : Hid (Blk W0 w.heap.size 68 #[.int .i64 p, .int .i64 x]) := by show Blk _ _ _ _; rw [← hW0]; exact Blk.made _ _ _
  obtain ⟨u, hu⟩ : ∃ u : Nat, p + 1 = u := ⟨(p + 1).toNat, by omega⟩
  have hu6 : u < 6 := by omega
  have hui : (u : Int) < 6 := by omega
  have HU := Lib.hid hu
  have HOK := Lib.hid hok
  have HTB := Lib.hid hT
  have HTD := Lib.hid ht
  clear hok hT ht
  go_enter Tryd.func100, Tryd.ntmps100
  go_wp2
  clear hW0
  go_loopw [7] (fun i wr => ∃ k : Nat, k ≤ n ∧ i = .int .i64 k ∧ Hid (∀ j, j < k → Un.leB T (p, x) (l.getD j (0, 0)) = false) ∧ Hid (Below w.heap.size w wr) ∧ Hid (Blk wr w.heap.size 68 #[.int .i64 p, .int .i64 x])) (fun i _ => n - (intOf i).toNat)
  case atStart => exact ⟨0, Nat.zero_le _, rfl, (fun j hj => absurd hj (by omega)), HB0.out, HK0.out⟩
  case round =>
    clear HB0 HK0
    obtain ⟨k, hk, rfl, HA, HB, HK⟩ := hrel
    by_cases hlt : k < n
    · have hki : (k : Int) < (n : Int) := by omega
      obtain ⟨b, off, rfl, hb, hc⟩ := hl.2 (by omega)
      obtain ⟨c1, c2⟩ := hc k hlt
      have HL := Lib.hid hl.1
      have hat := (Nm.atOk_iff _).1 (HOK.out k (by rw [hl.1]; exact hlt))
      obtain ⟨t, ht⟩ : ∃ t, l.getD k (0, 0) = t := ⟨_, rfl⟩
      rw [ht] at c1 c2 hat
      obtain ⟨q, y⟩ := t
      simp only at hat
      obtain ⟨a1, a2, a3, a4⟩ := hat
      have HT := Lib.hid ht
      have k1 := (HB.out.cell (p := ⟨b, off + k * 2, none⟩) (by show b < _; omega)).trans c1
      have k2 := (HB.out.cell (p := ⟨b, off + k * 2 + 1, none⟩) (by show b < _; omega)).trans c2
      obtain ⟨v, hv⟩ : ∃ v : Nat, q + 1 = v := ⟨(q + 1).toNat, by omega⟩
      have hv6 : v < 6 := by omega
      have hvi : (v : Int) < 6 := by omega
      have z0 : wr.cell? ⟨w.heap.size, 0, none⟩ = some (.int .i64 p) := HK.out.cell 0
      have z1 : wr.cell? ⟨w.heap.size, 1, none⟩ = some (.int .i64 x) := HK.out.cell 1
      have q1 := (HTD.out.below HB.out).head hu6
      obtain ⟨q2, _⟩ := (HTD.out.below HB.out).spot hu6 hv6
      have wu : IntKind.i64.wrap (u : Int) = u := IntWalk.i64_in _ ⟨by omega, by omega⟩
      have wv : IntKind.i64.wrap (v : Int) = v := IntWalk.i64_in _ ⟨by omega, by omega⟩
      have hu0 : 0 ≤ (u : Int) := by omega
      have hv0 : 0 ≤ (v : Int) := by omega
      obtain ⟨f, hf⟩ : ∃ f, T u v = f := ⟨_, rfl⟩
      have hfb := HTB.out u v
      rw [hf] at hfb q2
      have HLE : Hid (Un.leB T (p, x) (q, y) = (decide (0 ≤ f) && decide (x ≤ f + y))) := by show _ = _; rw [Un.leB_at HU.out hv, hf]
      have yes_of : 0 ≤ f → x ≤ f + y → Hid (Un.atB T (p, x) l = true) := fun h1 h2 => Un.atB_some (k := k) (by rw [HL.out]; exact hlt) (by rw [HT.out, HLE.out, decide_eq_true h1, decide_eq_true h2]; rfl)
      have no_of : ¬ (0 ≤ f ∧ x ≤ f + y) → Hid (∀ j, j < k + 1 → Un.leB T (p, x) (l.getD j (0, 0)) = false) := by
        intro h j hj
        by_cases e : j = k
        · subst e
          rw [HT.out, HLE.out, Bool.and_eq_false_iff]
          by_cases h1 : 0 ≤ f
          · exact .inr (decide_eq_false fun h2 => h ⟨h1, h2⟩)
          · exact .inl (decide_eq_false h1)
        · exact HA.out j (by omega)
      have HB2 : Hid (Below w.heap.size w wr.drew) := HB.out.drew
      have HB3 : Hid (Below w.heap.size w wr.drew.drew) := HB.out.drew.drew
      have HK2 : Hid (Blk wr.drew w.heap.size 68 #[.int .i64 p, .int .i64 x]) := HK.out
      have HK3 : Hid (Blk wr.drew.drew w.heap.size 68 #[.int .i64 p, .int .i64 x]) := HK.out
      have wf : IntKind.i64.wrap (f + y) = f + y := IntWalk.i64_in _ ⟨by omega, by omega⟩
      clear c1 c2 hc ht hf hl
      by_cases h1 : 0 ≤ f
      · have df : decide (0 ≤ f) = true := decide_eq_true h1
        by_cases h2 : x ≤ f + y
        · have dx : decide (x ≤ f + y) = true := decide_eq_true h2
          have HR := yes_of h1 h2
          clear yes_of no_of
          go_wp2_with fail
          refine region_tail 14 (by kernel_rfl) (by kernel_rfl) ?_
          simp only [List.take_succ_cons, List.take_zero, List.drop_succ_cons, List.drop_zero]
          repeat still_step
          refine wpStill_nil ?_
          go_wp2_with fail
          refine region_tail 13 (by kernel_rfl) (by kernel_rfl) ?_
          simp only [List.take_succ_cons, List.take_zero, List.drop_succ_cons, List.drop_zero]
          repeat still_step
          refine wpStill_nil ?_
          go_wp2
          go_ret
          exact ⟨by rw [HR.out]; rfl, HB3.out⟩
        · have dx : decide (x ≤ f + y) = false := decide_eq_false h2
          have HA2 := no_of (fun h => h2 h.2)
          clear yes_of no_of
          go_wp2_with fail
          refine region_tail 14 (by kernel_rfl) (by kernel_rfl) ?_
          simp only [List.take_succ_cons, List.take_zero, List.drop_succ_cons, List.drop_zero]
          repeat still_step
          refine wpStill_nil ?_
          go_wp2_with fail
          refine region_tail 13 (by kernel_rfl) (by kernel_rfl) ?_
          simp only [List.take_succ_cons, List.take_zero, List.drop_succ_cons, List.drop_zero]
          repeat still_step
          refine wpStill_nil ?_
          go_wp2
          go_roundw
          case rel => exact ⟨k + 1, by omega, by go_num, HA2.out, HB3.out, HK3.out⟩
          case measure => simp [intOf]; omega
      · have HA2 := no_of (fun h => h1 h.1)
        obtain rfl : f = -1 := by omega
        clear yes_of no_of wf hfb h1
        go_wp2_with fail
        refine region_tail 14 (by kernel_rfl) (by kernel_rfl) ?_
        simp only [List.take_succ_cons, List.take_zero, List.drop_succ_cons, List.drop_zero]
        repeat still_step
        refine wpStill_nil ?_
        go_wp2_with fail
        go_region
        go_wp2
        go_roundw
        case rel => exact ⟨k + 1, by omega, by go_num, HA2.out, HB3.out, HK3.out⟩
        case measure => simp [intOf]; omega
    · have HR : Hid (Un.atB T (p, x) l = false) := Un.atB_not (fun j hj => HA.out j (by have := hl.1; omega))
      clear hl
      have hki : ¬ (k : Int) < (n : Int) := by omega
      go_wp2
      go_ret
      exact ⟨by rw [HR.out]; rfl, HB.out⟩
end Go.Proofs.YtmbcjddahncocaaDoor

namespace Go.Proofs.YtmbcjddahncocaaDoor
open Go.RowKit
open Cs (Cn Tb)

/-- the answer of AtomUnder -/
noncomputable def atmR (l : List Cn) (s : Int) (x : Int × Int) (n : List (Int × Int)) : Bool := sgnB l s && (Nm.residOk s [x] && (Nm.residOk s n && Un.atB (Cs.tab (Un.sgL l s)) x n))
theorem atmR_sgn {l : List Cn} {s : Int} {x : Int × Int} {n : List (Int × Int)} (h : sgnB l s = false) : atmR l s x n = false := by unfold atmR; rw [h, Bool.false_and]
theorem atmR_x {l : List Cn} {s : Int} {x : Int × Int} {n : List (Int × Int)} (h : Nm.residOk s [x] = false) : atmR l s x n = false := by unfold atmR; rw [h, Bool.false_and, Bool.and_false]
theorem atmR_n {l : List Cn} {s : Int} {x : Int × Int} {n : List (Int × Int)} (h : Nm.residOk s n = false) : atmR l s x n = false := by unfold atmR; rw [h, Bool.false_and, Bool.and_false, Bool.and_false]
theorem atmR_yes {l : List Cn} {s : Int} {x : Int × Int} {n : List (Int × Int)} (h : sgnB l s = true) (h1 : Nm.residOk s [x] = true) (h2 : Nm.residOk s n = true) : atmR l s x n = Un.atB (Cs.tab (Un.sgL l s)) x n := by
  unfold atmR
  rw [h, h1, h2, Bool.true_and, Bool.true_and, Bool.true_and]
theorem sgnB_flat {l : List Cn} {s : Int} (h : sgnB l s = true) : Cs.flat (Un.sgL l s) = true := by
  unfold sgnB at h
  rw [Bool.and_eq_true] at h
  exact h.2
theorem sgnB_cons {l : List Cn} {s : Int} (h : sgnB l s = true) : consOkR l = true := by
  unfold sgnB at h
  rw [Bool.and_eq_true, Bool.and_eq_true] at h
  exact h.1.1
theorem residOk_all {s : Int} {n : List (Int × Int)} (h : Nm.residOk s n = true) : Nm.AllOk n := ((Nm.residOk_iff s n).1 h).2.2.1
theorem residOk_one {s p x : Int} (h : Nm.residOk s [(p, x)] = true) : -1 ≤ p ∧ p < 5 := by
  have := (Nm.atOk_iff _).1 (residOk_all h 0 (Nat.lt_succ_self 0))
  exact ⟨this.1, this.2.1⟩
/-- a row of one atom -/
theorem tokR_one (w : World) (p x : Int) : TokR (w.alloc (.cells #[.int .i64 p, .int .i64 x] 68)) (w.heap.size + 1) (some ⟨w.heap.size, 0, none⟩) 1 [(p, x)] := by
  have hb : Blk (w.alloc (.cells #[.int .i64 p, .int .i64 x] 68)) w.heap.size 68 #[.int .i64 p, .int .i64 x] := Blk.made _ _ _
  refine ⟨rfl, fun _ => ⟨w.heap.size, 0, rfl, Nat.lt_succ_self _, fun k hk => ?_⟩⟩
  obtain rfl : k = 0 := by omega
  exact ⟨hb.cell 0, hb.cell 1⟩

set_option maxRecDepth 100000 in
set_option maxHeartbeats 1600000 in
theorem implAtomUnder_any (w : World) (B b off n c : Nat) (l : List Cn) (s p x : Int) (A2 : Option Addr) (n2 c2 : Nat) (m : List (Int × Int)) (hB : B ≤ w.heap.size) (hl : ConR w B (some ⟨b, off, none⟩) n l) (hn : (n : Int) ≤ 140737488355328)
    (hm : TokR w B A2 n2 m) (hn2 : (n2 : Int) ≤ 140737488355328) (hnc : n2 ≤ c2) :
    Calls Tryd.prog 38 #[.slice (some ⟨b, off, none⟩) n c, .int .i64 s, .agg #[.int .i64 p, .int .i64 x], .slice A2 n2 c2] w fun e w' => e = .returned (.bool (atmR l s (p, x) m)) ∧ Below w.heap.size w w' := by
  have hz := zeros_tab
  obtain ⟨W0, hW0⟩ : ∃ W, w.alloc (.cells #[.int .i64 p, .int .i64 x] 68) = W := ⟨_, rfl⟩
  have hs0 : W0.heap.size = w.heap.size + 1 := by rw [← hW0]; simp
  have HB0 : Hid (Below w.heap.size w W0) := by show Below _ _ _; rw [← hW0]; exact (Below.refl _ _).alloc (Nat.le_refl _) _
  have HK0 : Hid (Blk W0 w.heap.size 68 #[.int .i64 p, .int .i64 x]) := by show Blk _ _ _ _; rw [← hW0]; exact Blk.made _ _ _
  have HL := Lib.hid (hl.below (HB0.out.mono hB))
  have HM := Lib.hid (hm.below (HB0.out.mono hB))
  clear hl hm
  go_enter Tryd.func38, Tryd.ntmps38
  go_wp2_with fail
  refine (signedPaths_any W0 B b off n c l s (by omega) HL.out hn).mono ?_
  rintro e w1 ⟨rfl, hb1⟩
  clear hW0
  have HB1 := Lib.hid (HB0.out.trans (hb1.mono HB0.out.size))
  have HK1 := Lib.hid (Blk.below HK0.out hb1 HK0.out.lt)
  have HM1 := Lib.hid (HM.out.below (hb1.mono (by omega)))
  have hs1 := hb1.size
  clear hb1
  obtain ⟨T, hT⟩ : ∃ T, sgnT l s = T := ⟨_, rfl⟩
  rw [hT]
  have HT := Lib.hid hT
  clear hT
  obtain ⟨W1, hW1⟩ : ∃ W, w1.alloc (.cells (tabA zeroT) 111) = W := ⟨_, rfl⟩
  have k1 : Blk W1 w1.heap.size 111 (tabA zeroT) := by rw [← hW1]; exact Blk.made _ _ _
  obtain ⟨S, hS⟩ : ∃ S, w1.heap.size = S := ⟨_, rfl⟩
  rw [hS] at k1
  obtain ⟨W2, hW2⟩ : ∃ W, W1.setRow S (tabA T) = W := ⟨_, rfl⟩
  have HC2 : Hid (Blk W2 S 111 (tabA T)) := by show Blk _ _ _ _; rw [← hW2]; exact BlkT.lay k1 T
  have hbl : Below w1.heap.size w1 W2 := by
    have q1 : Below w1.heap.size w1 W1 := by rw [← hW1]; exact (Below.refl _ _).alloc (Nat.le_refl _) _
    rw [← hW2]
    exact (Wrote.row _ _ _).below q1 (by have := q1.size; omega) (by omega)
  have HB2 := Lib.hid (HB1.out.trans (hbl.mono (by omega)))
  have HK2 := Lib.hid (Blk.below HK1.out hbl HK1.out.lt)
  have HM2 := Lib.hid (HM1.out.below (hbl.mono (by omega)))
  clear hbl
  cases h1 : sgnB l s with
  | false =>
    have HF := Lib.hid (atmR_sgn (x := (p, x)) (n := m) h1)
    clear h1
    go_wp2_with (refine wpList_store_row rfl 111 _ _ rfl S (tabA T) rfl rfl 111 (tabA zeroT) k1 (size_tab T) rfl (tabA_one T) ?_)
    go_ret
    exact ⟨by rw [HF.out]; rfl, HB2.out⟩
  | true =>
    have H1 := Lib.hid h1
    clear h1
    have z0 : W2.cell? ⟨w.heap.size, 0, none⟩ = some (.int .i64 p) := HK2.out.cell 0
    have z1 : W2.cell? ⟨w.heap.size, 1, none⟩ = some (.int .i64 x) := HK2.out.cell 1
    obtain ⟨W3, hW3⟩ : ∃ W, W2.alloc (.cells #[.int .i64 p, .int .i64 x] 68) = W := ⟨_, rfl⟩
    go_wp2_with (refine wpList_store_row rfl 111 _ _ rfl S (tabA T) rfl rfl 111 (tabA zeroT) k1 (size_tab T) rfl (tabA_one T) ?_)
    have hb3 : Below W2.heap.size W2 W3 := by rw [← hW3]; exact (Below.refl _ _).alloc (Nat.le_refl _) _
    have hs3 : W3.heap.size = W2.heap.size + 1 := by rw [← hW3]; simp
    have HO3 : Hid (TokR W3 (W2.heap.size + 1) (some ⟨W2.heap.size, 0, none⟩) 1 [(p, x)]) := by show TokR _ _ _ _ _; rw [← hW3]; exact tokR_one W2 p x
    have HB3 := Lib.hid (HB2.out.trans (hb3.mono HB2.out.size))
    have HK3 := Lib.hid (Blk.below HK2.out hb3 HK2.out.lt)
    have HC3 := Lib.hid (Blk.below HC2.out hb3 HC2.out.lt)
    have HM3 := Lib.hid (HM2.out.below (hb3.mono (by have := HB2.out.size; omega)))
    clear hb3 z0 z1 hW3
    refine (implResidOk_any W3 (W2.heap.size + 1) (some ⟨W2.heap.size, 0, none⟩) 1 1 [(p, x)] s (by omega) HO3.out (by omega) (Nat.le_refl _)).mono ?_
    rintro e w4 ⟨rfl, hb4⟩
    have HB4 := Lib.hid (HB3.out.trans (hb4.mono HB3.out.size))
    have HK4 := Lib.hid (Blk.below HK3.out hb4 HK3.out.lt)
    have HC4 := Lib.hid (Blk.below HC3.out hb4 HC3.out.lt)
    have HM4 := Lib.hid (HM3.out.below (hb4.mono (by have := HB3.out.size; omega)))
    clear hb4 k1 hW2 hW1
    cases h2 : Nm.residOk s [(p, x)] with
    | false =>
      have HF := Lib.hid (atmR_x (l := l) (n := m) h2)
      clear h2
      go_wp2
      go_ret
      exact ⟨by rw [HF.out]; rfl, HB4.out⟩
    | true =>
      have H2 := Lib.hid h2
      have HPB := Lib.hid (residOk_one h2)
      clear h2
      go_wp2_with fail
      refine (implResidOk_any w4 B A2 n2 c2 m s (by have := HB4.out.size; omega) HM4.out hn2 hnc).mono ?_
      rintro e w5 ⟨rfl, hb5⟩
      have HB5 := Lib.hid (HB4.out.trans (hb5.mono HB4.out.size))
      have HK5 := Lib.hid (Blk.below HK4.out hb5 HK4.out.lt)
      have HC5 := Lib.hid (Blk.below HC4.out hb5 HC4.out.lt)
      have HM5 := Lib.hid (HM4.out.below (hb5.mono (by have := HB4.out.size; omega)))
      clear hb5
      cases h3 : Nm.residOk s m with
      | false =>
        have HF := Lib.hid (atmR_n (l := l) (x := (p, x)) h3)
        clear h3
        go_wp2
        go_ret
        exact ⟨by rw [HF.out]; rfl, HB5.out⟩
      | true =>
        have HF := Lib.hid (atmR_yes H1.out H2.out h3)
        have HOM := Lib.hid (residOk_all h3)
        have HTT : Hid (T = Cs.tab (Un.sgL l s)) := by show _ = _; rw [← HT.out, sgnT_yes H1.out]
        have HTB : Hid (∀ i j, -1 ≤ T i j ∧ T i j ≤ 1000) := by
          show ∀ i j, _
          rw [HTT.out]
          exact fun i j => ⟨(Cs.tab_bd (sgnB_flat H1.out) i j).1, Int.le_trans (Cs.tab_bd (sgnB_flat H1.out) i j).2 (by decide)⟩
        clear h3
        have z0 : w5.cell? ⟨w.heap.size, 0, none⟩ = some (.int .i64 p) := HK5.out.cell 0
        have z1 : w5.cell? ⟨w.heap.size, 1, none⟩ = some (.int .i64 x) := HK5.out.cell 1
        have c5 : Blk w5 S 111 (tabA T) := HC5.out
        go_wp2_with (refine wpList_load_row_g rfl 111 _ rfl S rfl 111 (tabA T) (0, 0) _ c5 Tryd.underlying111 rfl (size_tab T) ?_)
        refine (atomLe_any w5 B T p x A2 n2 c2 m (by have := HB5.out.size; omega) HM5.out hn2 HOM.out HPB.out.1 HPB.out.2 HTB.out).mono ?_
        rintro e w6 ⟨rfl, hb6⟩
        have HB6 := Lib.hid (HB5.out.trans (hb6.mono HB5.out.size))
        rw [← HTT.out] at HF
        obtain ⟨R, hR⟩ : ∃ R, Un.atB T (p, x) m = R := ⟨_, rfl⟩
        rw [hR] at HF ⊢
        clear hb6 hR c5 z0 z1
        go_wp2
        go_ret
        exact ⟨by rw [HF.out]; rfl, HB6.out⟩
end Go.Proofs.YtmbcjddahncocaaDoor
