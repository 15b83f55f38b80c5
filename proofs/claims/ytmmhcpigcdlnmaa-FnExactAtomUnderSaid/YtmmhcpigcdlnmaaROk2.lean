/- ResidOk of the reference model (written by tools/mkrok2.py). -/
import Derived.Test.YtmmhcpigcdlnmaaROk
import Derived.Test.YtmmhcpigcdlnmaaSgMath2
import Derived.Test.YtmmhcpigcdlnmaaNUp

namespace Go.Proofs.Ytmmhcpigcdlnmaa
open Go.RowKit

/-- what the model asks of one atom of a residual -/
def RAt (s : Int) (l : List (Int × Int)) (k : Nat) : Prop := Nm.atOk (l.getD k (0, 0)) = true ∧ ((l.getD k (0, 0)).1 = -1 ∨ Sg.has s (l.getD k (0, 0)).1 = true) ∧ (0 < k → (l.getD (k - 1) (0, 0)).1 < (l.getD k (0, 0)).1 ∧ ((l.getD 0 (0, 0)).1 = -1 → (l.getD k (0, 0)).2 + 2 ≤ (l.getD 0 (0, 0)).2))
/-- what the model has seen of the first k atoms -/
def SeenR (s : Int) (l : List (Int × Int)) (k : Nat) : Prop := ∀ j, j < k → RAt s l j
theorem seenR_step {s : Int} {l : List (Int × Int)} {k : Nat} (h : SeenR s l k) (h1 : RAt s l k) : SeenR s l (k + 1) := by
  intro j hj
  by_cases e : j = k
  · subst e; exact h1
  · exact h j (by omega)
theorem seenR_all {s : Int} {l : List (Int × Int)} (hs : Sg.isSign s = true) (h0 : 1 ≤ l.length) (h : SeenR s l l.length) : Nm.ROk s l := by
  refine ⟨hs, h0, fun k hk => (h k hk).1, fun k h0 hk => ((h k hk).2.2 h0).1, fun k hk => (h k hk).2.1, fun e k hk => ?_⟩
  rw [List.length_drop] at hk
  rw [Nm.getD_drop1]
  have := ((h (k + 1) (by omega)).2.2 (by omega)).2 e
  omega
theorem seenR_of {s : Int} {l : List (Int × Int)} (h : Nm.ROk s l) {k : Nat} (hk : k < l.length) : RAt s l k := by
  refine ⟨h.2.2.1 k hk, h.2.2.2.2.1 k hk, fun h0 => ⟨h.2.2.2.1 k h0 hk, fun e => ?_⟩⟩
  have := h.2.2.2.2.2 e (k - 1) (by rw [List.length_drop]; omega)
  rw [Nm.getD_drop1, show k - 1 + 1 = k by omega] at this
  omega

set_option maxRecDepth 100000 in
set_option maxHeartbeats 6400000 in
theorem specResidOk_any (w : World) (B : Nat) (A : Option Addr) (n c : Nat) (l : List (Int × Int)) (s : Int) (hB : B ≤ w.heap.size) (hl : TokR w B A n l) (hn : (n : Int) ≤ 140737488355328) :
    Calls Try.prog 80 #[.slice A n c, .int .i64 s] w fun e w' => e = .returned (.bool (Nm.residOk s l)) ∧ Below w.heap.size w w' := by
  cases hs : Sg.isSign s with
  | false =>
    have HF : Hid (Nm.residOk s l = false) := Nm.residOk_no (fun h => by rw [h.1] at hs; cases hs)
    clear hl
    go_enter Try.func80, Try.ntmps80
    go_wp2_with fail
    refine (l03Sign_any w s).mono ?_
    rintro e w' ⟨rfl, rfl⟩
    rw [hs]
    go_wp2
    go_ret
    exact ⟨by rw [HF.out]; rfl, Below.refl _ _⟩
  | true =>
  by_cases h0 : n = 0
  · subst h0
    have HF : Hid (Nm.residOk s l = false) := Nm.residOk_no (fun h => by have h1 := h.2.1; rw [hl.1] at h1; omega)
    clear hl
    go_enter Try.func80, Try.ntmps80
    go_wp2_with fail
    refine (l03Sign_any w s).mono ?_
    rintro e w' ⟨rfl, rfl⟩
    rw [hs]
    go_wp2
    go_ret
    exact ⟨by rw [HF.out]; rfl, Below.refl _ _⟩
  · have h1 : 1 ≤ n := by omega
    have hi0 : 0 < n := by omega
    obtain ⟨b, off, rfl, hb, hc⟩ := hl.2 (by omega)
    have HC := Lib.hid hc
    have HL := Lib.hid hl.1
    obtain ⟨t0, ht0⟩ : ∃ t, l.getD 0 (0, 0) = t := ⟨_, rfl⟩
    have c0 := hc 0 (by omega)
    rw [ht0] at c0
    obtain ⟨p0, x0⟩ := t0
    simp only [Nat.zero_mul, Nat.add_zero] at c0
    obtain ⟨c01, c02⟩ := c0
    have HT0 := Lib.hid ht0
    have HSG := Lib.hid hs
    clear hc hl ht0
    go_enter Try.func80, Try.ntmps80
    go_wp2_with fail
    refine (l03Sign_any w s).mono ?_
    rintro e w' ⟨rfl, rfl⟩
    rw [hs]
    clear hs
    go_wp2
    go_loopw [5] (fun i wr => ∃ k : Nat, k ≤ n ∧ i = .int .i64 k ∧ Hid (SeenR s l k) ∧ Below w'.heap.size w' wr) (fun i _ => n - (intOf i).toNat)
    case atStart => exact ⟨0, Nat.zero_le _, rfl, (fun j hj => absurd hj (by omega)), Below.refl _ _⟩
    case round =>
      obtain ⟨k, hk, rfl, HA, hbel⟩ := hrel
      by_cases hlt : k < n
      · obtain ⟨t, ht⟩ : ∃ t, l.getD k (0, 0) = t := ⟨_, rfl⟩
        obtain ⟨c1, c2⟩ := HC.out k hlt
        rw [ht] at c1 c2
        obtain ⟨p, x⟩ := t
        have HT := Lib.hid ht
        have hbr : b < wr.heap.size := by have := hbel.size; omega
        have k1 : ∀ d : Later wr, d.out.cell? ⟨b, off + k * 2, none⟩ = some (.int .i64 p) := fun d => d.cell hbr ((hbel.cell (p := ⟨b, off + k * 2, none⟩) (by show b < _; omega)).trans c1)
        have k2 : ∀ d : Later wr, d.out.cell? ⟨b, off + k * 2 + 1, none⟩ = some (.int .i64 x) := fun d => d.cell hbr ((hbel.cell (p := ⟨b, off + k * 2 + 1, none⟩) (by show b < _; omega)).trans c2)
        have k3 : ∀ d : Later wr, d.out.cell? ⟨b, off, none⟩ = some (.int .i64 p0) := fun d => d.cell hbr ((hbel.cell (p := ⟨b, off, none⟩) (by show b < _; omega)).trans c01)
        have k4 : ∀ d : Later wr, d.out.cell? ⟨b, off + 1, none⟩ = some (.int .i64 x0) := fun d => d.cell hbr ((hbel.cell (p := ⟨b, off + 1, none⟩) (by show b < _; omega)).trans c02)
        clear c1 c2 ht
        have hki : (k : Int) < (n : Int) := by omega
        have fail_of : ¬ (Nm.atOk (p, x) = true ∧ (p = -1 ∨ Sg.has s p = true) ∧ (0 < k → (l.getD (k - 1) (0, 0)).1 < p ∧ (p0 = -1 → x + 2 ≤ x0))) → Hid (Nm.residOk s l = false) := by
          intro hno
          refine Nm.residOk_no (fun h => hno ?_)
          have := seenR_of h (k := k) (by rw [HL.out]; exact hlt)
          unfold RAt at this
          rw [HT.out, HT0.out] at this
          exact this
        have step_of : (Nm.atOk (p, x) = true ∧ (p = -1 ∨ Sg.has s p = true) ∧ (0 < k → (l.getD (k - 1) (0, 0)).1 < p ∧ (p0 = -1 → x + 2 ≤ x0))) → Hid (SeenR s l (k + 1)) := by
          intro h
          refine seenR_step HA.out ?_
          unfold RAt
          rw [HT.out, HT0.out]
          exact h
        have HSH : Hid (∀ d : Later wr, Calls Try.prog 95 #[.int .i64 s, .int .i64 p] d.out fun e w'' => e = .returned (.bool (Sg.has s p)) ∧ ∃ d' : Later wr, w'' = d'.out) := fun d => calls_later_same ((specSignHas_any d.out s p).mono fun _ _ ⟨h, h'⟩ => ⟨h, h'.symm⟩)
        cases hok : Nm.atOk (p, x) with
        | false =>
          have HF := fail_of (by intro h; rw [hok] at h; cases h.1)
          have HO := Lib.hid hok
          have HCALL : Hid (∀ d : Later wr, Calls Try.prog 97 #[.agg #[.int .i64 p, .int .i64 x]] d.out fun e w'' => e = .returned (.bool false) ∧ ∃ d' : Later wr, w'' = d'.out) := fun d => calls_later (by have h := specAtom_any p x d.out; rw [HO.out] at h; exact h)
          clear hok fail_of step_of
          go_wp2_with fail
          refine region_later (by kernel_rfl) (by kernel_rfl) ?_
          repeat (go_big_quiet_step (first | exact HCALL.out _ | exact HSH.out _))
          refine wpQuiet_nil ?_
          intro w1 hb1
          have HB := Lib.hid (hbel.trans (hb1.mono hbel.size))
          clear hb1
          go_wp2
          go_ret
          exact ⟨by rw [HF.out]; rfl, HB.out⟩
        | true =>
          have HO := Lib.hid hok
          have HCALL : Hid (∀ d : Later wr, Calls Try.prog 97 #[.agg #[.int .i64 p, .int .i64 x]] d.out fun e w'' => e = .returned (.bool true) ∧ ∃ d' : Later wr, w'' = d'.out) := fun d => calls_later (by have h := specAtom_any p x d.out; rw [HO.out] at h; exact h)
          have hat := (Nm.atOk_iff _).1 hok
          simp only at hat
          obtain ⟨a1, a2, a3, a4⟩ := hat
          have hx2 : IntKind.i64.wrap (x + 2) = x + 2 := by rw [IntKind.wrap_i64]; omega
          clear hok
          by_cases hp : p = -1
          · subst hp
            by_cases hk0 : k = 0
            · have HS := step_of ⟨HO.out, Or.inl rfl, fun h => absurd h (by omega)⟩
              have dk : decide (0 < k) = false := by simp; omega
              clear fail_of step_of hk0
              go_wp2_with fail
              refine region_later (by kernel_rfl) (by kernel_rfl) ?_
              repeat (go_big_quiet_step (first | exact HCALL.out _ | exact HSH.out _))
              refine wpQuiet_nil ?_
              intro w1 hb1
              have HB := Lib.hid (hbel.trans (hb1.mono hbel.size))
              clear hb1
              go_wp2
              go_roundw
              case rel => exact ⟨k + 1, by omega, by go_num, HS.out, HB.out⟩
              case measure => simp [intOf]; omega
            · have hk1 : 0 < k := by omega
              have hw1 : IntKind.i64.wrap ((k : Int) - 1) = ((k - 1 : Nat) : Int) := by rw [IntKind.wrap_i64]; omega
              have hw2 : ((k - 1 : Nat) : Int) < (n : Int) := by omega
              obtain ⟨q, hq⟩ : ∃ q, (l.getD (k - 1) (0, 0)).1 = q := ⟨_, rfl⟩
              have c5 := (HC.out (k - 1) (by omega)).1
              rw [hq] at c5 fail_of step_of
              have k5 : ∀ d : Later wr, d.out.cell? ⟨b, off + (k - 1) * 2, none⟩ = some (.int .i64 q) := fun d => d.cell hbr ((hbel.cell (p := ⟨b, off + (k - 1) * 2, none⟩) (by show b < _; omega)).trans c5)
              clear c5 hq
              by_cases hqp : -1 ≤ q
              · have HF := fail_of (by intro h; have := (h.2.2 (by omega)).1; omega)
                clear fail_of step_of hk0
                go_wp2_with fail
                refine region_later (by kernel_rfl) (by kernel_rfl) ?_
                repeat (go_big_quiet_step (first | exact HCALL.out _ | exact HSH.out _))
                refine wpQuiet_nil ?_
                intro w1 hb1
                have HB := Lib.hid (hbel.trans (hb1.mono hbel.size))
                clear hb1
                go_wp2
                go_ret
                exact ⟨by rw [HF.out]; rfl, HB.out⟩
              · have hqp' : q < -1 := by omega
                have dpq : decide (-1 ≤ q) = false := by simp; omega
                by_cases hp0 : p0 = -1
                · subst hp0
                  by_cases hx : x0 < x + 2
                  · have HF := fail_of (by intro h; have := (h.2.2 (by omega)).2 rfl; omega)
                    clear fail_of step_of hk0 hqp
                    go_wp2_with fail
                    refine region_later (by kernel_rfl) (by kernel_rfl) ?_
                    repeat (go_big_quiet_step (first | exact HCALL.out _ | exact HSH.out _))
                    refine wpQuiet_nil ?_
                    intro w1 hb1
                    have HB := Lib.hid (hbel.trans (hb1.mono hbel.size))
                    clear hb1
                    go_wp2
                    go_ret
                    exact ⟨by rw [HF.out]; rfl, HB.out⟩
                  · have hx' : x + 2 ≤ x0 := by omega
                    have dx : decide (x0 < x + 2) = false := by simp; omega
                    have HS := step_of ⟨HO.out, Or.inl rfl, fun _ => ⟨hqp', fun _ => hx'⟩⟩
                    clear fail_of step_of hk0 hqp hx
                    go_wp2_with fail
                    refine region_later (by kernel_rfl) (by kernel_rfl) ?_
                    repeat (go_big_quiet_step (first | exact HCALL.out _ | exact HSH.out _))
                    refine wpQuiet_nil ?_
                    intro w1 hb1
                    have HB := Lib.hid (hbel.trans (hb1.mono hbel.size))
                    clear hb1
                    go_wp2
                    go_roundw
                    case rel => exact ⟨k + 1, by omega, by go_num, HS.out, HB.out⟩
                    case measure => simp [intOf]; omega
                · have dp0 : (p0 == -1) = false := by simpa using hp0
                  have HS := step_of ⟨HO.out, Or.inl rfl, fun _ => ⟨hqp', fun e => absurd e hp0⟩⟩
                  clear fail_of step_of hk0 hqp hp0
                  go_wp2_with fail
                  refine region_later (by kernel_rfl) (by kernel_rfl) ?_
                  repeat (go_big_quiet_step (first | exact HCALL.out _ | exact HSH.out _))
                  refine wpQuiet_nil ?_
                  intro w1 hb1
                  have HB := Lib.hid (hbel.trans (hb1.mono hbel.size))
                  clear hb1
                  go_wp2
                  go_roundw
                  case rel => exact ⟨k + 1, by omega, by go_num, HS.out, HB.out⟩
                  case measure => simp [intOf]; omega
          · have hp' : 0 ≤ p := by omega
            cases hh : Sg.has s p with
            | false =>
              rw [hh] at HSH
              have HF := fail_of (fun h => h.2.1.elim (fun h => hp h) (fun h => by rw [hh] at h; cases h))
              clear fail_of step_of hp hh
              go_wp2_with fail
              refine region_later (by kernel_rfl) (by kernel_rfl) ?_
              repeat (go_big_quiet_step (first | exact HCALL.out _ | exact HSH.out _))
              refine wpQuiet_nil ?_
              intro w1 hb1
              have HB := Lib.hid (hbel.trans (hb1.mono hbel.size))
              clear hb1
              go_wp2
              go_ret
              exact ⟨by rw [HF.out]; rfl, HB.out⟩
            | true =>
              rw [hh] at HSH
              clear hp
              by_cases hk0 : k = 0
              · have HS := step_of ⟨HO.out, Or.inr hh, fun h => absurd h (by omega)⟩
                have dk : decide (0 < k) = false := by simp; omega
                clear fail_of step_of hk0
                go_wp2_with fail
                refine region_later (by kernel_rfl) (by kernel_rfl) ?_
                repeat (go_big_quiet_step (first | exact HCALL.out _ | exact HSH.out _))
                refine wpQuiet_nil ?_
                intro w1 hb1
                have HB := Lib.hid (hbel.trans (hb1.mono hbel.size))
                clear hb1
                go_wp2
                go_roundw
                case rel => exact ⟨k + 1, by omega, by go_num, HS.out, HB.out⟩
                case measure => simp [intOf]; omega
              · have hk1 : 0 < k := by omega
                have hw1 : IntKind.i64.wrap ((k : Int) - 1) = ((k - 1 : Nat) : Int) := by rw [IntKind.wrap_i64]; omega
                have hw2 : ((k - 1 : Nat) : Int) < (n : Int) := by omega
                obtain ⟨q, hq⟩ : ∃ q, (l.getD (k - 1) (0, 0)).1 = q := ⟨_, rfl⟩
                have c5 := (HC.out (k - 1) (by omega)).1
                rw [hq] at c5 fail_of step_of
                have k5 : ∀ d : Later wr, d.out.cell? ⟨b, off + (k - 1) * 2, none⟩ = some (.int .i64 q) := fun d => d.cell hbr ((hbel.cell (p := ⟨b, off + (k - 1) * 2, none⟩) (by show b < _; omega)).trans c5)
                clear c5 hq
                by_cases hqp : p ≤ q
                · have HF := fail_of (by intro h; have := (h.2.2 (by omega)).1; omega)
                  clear fail_of step_of hk0
                  go_wp2_with fail
                  refine region_later (by kernel_rfl) (by kernel_rfl) ?_
                  repeat (go_big_quiet_step (first | exact HCALL.out _ | exact HSH.out _))
                  refine wpQuiet_nil ?_
                  intro w1 hb1
                  have HB := Lib.hid (hbel.trans (hb1.mono hbel.size))
                  clear hb1
                  go_wp2
                  go_ret
                  exact ⟨by rw [HF.out]; rfl, HB.out⟩
                · have hqp' : q < p := by omega
                  have dpq : decide (p ≤ q) = false := by simp; omega
                  by_cases hp0 : p0 = -1
                  · subst hp0
                    by_cases hx : x0 < x + 2
                    · have HF := fail_of (by intro h; have := (h.2.2 (by omega)).2 rfl; omega)
                      clear fail_of step_of hk0 hqp
                      go_wp2_with fail
                      refine region_later (by kernel_rfl) (by kernel_rfl) ?_
                      repeat (go_big_quiet_step (first | exact HCALL.out _ | exact HSH.out _))
                      refine wpQuiet_nil ?_
                      intro w1 hb1
                      have HB := Lib.hid (hbel.trans (hb1.mono hbel.size))
                      clear hb1
                      go_wp2
                      go_ret
                      exact ⟨by rw [HF.out]; rfl, HB.out⟩
                    · have hx' : x + 2 ≤ x0 := by omega
                      have dx : decide (x0 < x + 2) = false := by simp; omega
                      have HS := step_of ⟨HO.out, Or.inr hh, fun _ => ⟨hqp', fun _ => hx'⟩⟩
                      clear fail_of step_of hk0 hqp hx
                      go_wp2_with fail
                      refine region_later (by kernel_rfl) (by kernel_rfl) ?_
                      repeat (go_big_quiet_step (first | exact HCALL.out _ | exact HSH.out _))
                      refine wpQuiet_nil ?_
                      intro w1 hb1
                      have HB := Lib.hid (hbel.trans (hb1.mono hbel.size))
                      clear hb1
                      go_wp2
                      go_roundw
                      case rel => exact ⟨k + 1, by omega, by go_num, HS.out, HB.out⟩
                      case measure => simp [intOf]; omega
                  · have dp0 : (p0 == -1) = false := by simpa using hp0
                    have HS := step_of ⟨HO.out, Or.inr hh, fun _ => ⟨hqp', fun e => absurd e hp0⟩⟩
                    clear fail_of step_of hk0 hqp hp0
                    go_wp2_with fail
                    refine region_later (by kernel_rfl) (by kernel_rfl) ?_
                    repeat (go_big_quiet_step (first | exact HCALL.out _ | exact HSH.out _))
                    refine wpQuiet_nil ?_
                    intro w1 hb1
                    have HB := Lib.hid (hbel.trans (hb1.mono hbel.size))
                    clear hb1
                    go_wp2
                    go_roundw
                    case rel => exact ⟨k + 1, by omega, by go_num, HS.out, HB.out⟩
                    case measure => simp [intOf]; omega
      · have HF : Hid (Nm.residOk s l = true) := (Nm.residOk_iff s l).2 (seenR_all HSG.out (by rw [HL.out]; exact h1) (by have h := HA.out; rw [HL.out, show n = k by omega]; exact h))
        go_wp2
        go_ret
        exact ⟨by rw [HF.out]; rfl, hbel⟩
end Go.Proofs.Ytmmhcpigcdlnmaa
