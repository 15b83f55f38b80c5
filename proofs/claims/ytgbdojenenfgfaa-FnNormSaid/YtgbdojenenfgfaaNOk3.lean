/- NormOk of the reference model. -/
import Derived.Test.YtgbdojenenfgfaaNOk1
import Derived.Test.YtgbdojenenfgfaaCls
namespace Go.Proofs.Ytgbdojenenfgfaa
open Go.RowKit

set_option maxHeartbeats 800000 in
theorem specAtom_any (p x : Int) (w : World) :
    Calls Try.prog 42 #[.agg #[.int .i64 p, .int .i64 x]] w fun e w' => e = .returned (.bool (Nm.atOk (p, x))) ∧ Below w.heap.size w w' := by
  have HB : Hid (Below w.heap.size w (w.alloc (.cells #[.int .i64 p, .int .i64 x] 32))) := (Below.refl _ _).alloc (Nat.le_refl _) _
  by_cases g1 : p < -1
  · have HF : Hid (Nm.atOk (p, x) = false) := by show _ = _; simp [Nm.atOk]; omega
    go_enter Try.func42, Try.ntmps42
    go_wp2
    go_ret
    exact ⟨by rw [HF.out]; rfl, HB.out⟩
  · have g1' : -1 ≤ p := by omega
    by_cases g2 : 5 ≤ p
    · have HF : Hid (Nm.atOk (p, x) = false) := by show _ = _; simp [Nm.atOk]; omega
      go_enter Try.func42, Try.ntmps42
      go_wp2
      go_ret
      exact ⟨by rw [HF.out]; rfl, HB.out⟩
    · have g2' : p < 5 := by omega
      by_cases g3 : x < 0
      · have HF : Hid (Nm.atOk (p, x) = false) := by show _ = _; simp [Nm.atOk]; omega
        go_enter Try.func42, Try.ntmps42
        go_wp2
        go_ret
        exact ⟨by rw [HF.out]; rfl, HB.out⟩
      · have g3' : 0 ≤ x := by omega
        have HF : Hid (Nm.atOk (p, x) = decide (x ≤ 1000)) := by show _ = _; simp [Nm.atOk]; omega
        go_enter Try.func42, Try.ntmps42
        go_wp2
        go_ret
        exact ⟨by rw [HF.out]; rfl, HB.out⟩

/-- what the model has seen of the first k atoms -/
def SeenOk (l : List (Int × Int)) (k : Nat) : Prop := ∀ j, j < k → Nm.atOk (l.getD j (0, 0)) = true ∧ (0 < j → (l.getD (j - 1) (0, 0)).1 < (l.getD j (0, 0)).1 ∧ ((l.getD 0 (0, 0)).1 = -1 → (l.getD j (0, 0)).2 < (l.getD 0 (0, 0)).2))
theorem seen_step {l : List (Int × Int)} {k : Nat} (h : SeenOk l k) (h1 : Nm.atOk (l.getD k (0, 0)) = true) (h2 : 0 < k → (l.getD (k - 1) (0, 0)).1 < (l.getD k (0, 0)).1 ∧ ((l.getD 0 (0, 0)).1 = -1 → (l.getD k (0, 0)).2 < (l.getD 0 (0, 0)).2)) : SeenOk l (k + 1) := by
  intro j hj
  by_cases e : j = k
  · subst e; exact ⟨h1, h2⟩
  · exact h j (by omega)
theorem seen_all {l : List (Int × Int)} (h0 : 1 ≤ l.length) (h : SeenOk l l.length) : Nm.Ok l := by
  refine ⟨h0, fun k hk => (h k hk).1, fun k h0 hk => ((h k hk).2 h0).1, fun e k hk => ?_⟩
  rw [List.length_drop] at hk
  rw [Nm.getD_drop1]
  exact ((h (k + 1) (by omega)).2 (by omega)).2 e
theorem seen_of {l : List (Int × Int)} (h : Nm.Ok l) {k : Nat} (hk : k < l.length) : Nm.atOk (l.getD k (0, 0)) = true ∧ (0 < k → (l.getD (k - 1) (0, 0)).1 < (l.getD k (0, 0)).1 ∧ ((l.getD 0 (0, 0)).1 = -1 → (l.getD k (0, 0)).2 < (l.getD 0 (0, 0)).2)) := by
  refine ⟨h.2.1 k hk, fun h0 => ⟨h.2.2.1 k h0 hk, fun e => ?_⟩⟩
  have := h.2.2.2 e (k - 1) (by rw [List.length_drop]; omega)
  rw [Nm.getD_drop1, show k - 1 + 1 = k by omega] at this
  exact this

set_option maxRecDepth 100000 in
set_option maxHeartbeats 3200000 in
theorem specNormOk_any (w : World) (B : Nat) (A : Option Addr) (n c : Nat) (l : List (Int × Int)) (hB : B ≤ w.heap.size) (hl : TokR w B A n l) (hn : (n : Int) ≤ 140737488355328) :
    Calls Try.prog 20 #[.slice A n c] w fun e w' => e = .returned (.bool (Nm.normOk l)) ∧ Below w.heap.size w w' := by
  by_cases h0 : n = 0
  · subst h0
    have HF : Hid (Nm.normOk l = false) := Nm.normOk_no (fun h => by have h1 := h.1; rw [hl.1] at h1; omega)
    clear hl
    go_enter Try.func20, Try.ntmps20
    go_wp2
    go_ret
    exact ⟨by rw [HF.out]; rfl, Below.refl _ _⟩
  · have h1 : 1 ≤ n := by omega
    have hi0 : 0 < n := by omega
    obtain ⟨b, off, rfl, hb, hc⟩ := hl.2 (by omega)
    have HC := Lib.hid hc
    have HL := Lib.hid hl.1
    obtain ⟨t0, ht0⟩ : ∃ t, l.getD 0 (0, 0) = t := ⟨_, rfl⟩
    have c0 := hc 0 (by omega)
    rw [ht0] at c0
    obtain ⟨p0, x0⟩ := t0
    simp only [Nat.zero_mul, Nat.add_zero] at c0
    obtain ⟨c01, c02⟩ := c0
    have HT0 := Lib.hid ht0
    clear hc hl ht0
    go_enter Try.func20, Try.ntmps20
    go_wp2
    go_loopw [3] (fun i wr => ∃ k : Nat, k ≤ n ∧ i = .int .i64 k ∧ Hid (SeenOk l k) ∧ Below w.heap.size w wr) (fun i _ => n - (intOf i).toNat)
    case atStart => exact ⟨0, Nat.zero_le _, rfl, (fun j hj => absurd hj (by omega)), Below.refl _ _⟩
    case round =>
      obtain ⟨k, hk, rfl, HA, hbel⟩ := hrel
      by_cases hlt : k < n
      · obtain ⟨t, ht⟩ : ∃ t, l.getD k (0, 0) = t := ⟨_, rfl⟩
        obtain ⟨c1, c2⟩ := HC.out k hlt
        rw [ht] at c1 c2
        obtain ⟨p, x⟩ := t
        have HT := Lib.hid ht
        have hbr : b < wr.heap.size := by have := hbel.size; omega
        have k1 : ∀ d : Later wr, d.out.cell? ⟨b, off + k * 2, none⟩ = some (.int .i64 p) := fun d => d.cell hbr ((hbel.cell (p := ⟨b, off + k * 2, none⟩) (by show b < _; omega)).trans c1)
        have k2 : ∀ d : Later wr, d.out.cell? ⟨b, off + k * 2 + 1, none⟩ = some (.int .i64 x) := fun d => d.cell hbr ((hbel.cell (p := ⟨b, off + k * 2 + 1, none⟩) (by show b < _; omega)).trans c2)
        have k3 : ∀ d : Later wr, d.out.cell? ⟨b, off, none⟩ = some (.int .i64 p0) := fun d => d.cell hbr ((hbel.cell (p := ⟨b, off, none⟩) (by show b < _; omega)).trans c01)
        have k4 : ∀ d : Later wr, d.out.cell? ⟨b, off + 1, none⟩ = some (.int .i64 x0) := fun d => d.cell hbr ((hbel.cell (p := ⟨b, off + 1, none⟩) (by show b < _; omega)).trans c02)
        clear c1 c2 ht
        have hki : (k : Int) < (n : Int) := by omega
        have fail_of : ¬ (Nm.atOk (p, x) = true ∧ (0 < k → (l.getD (k - 1) (0, 0)).1 < p ∧ (p0 = -1 → x < x0))) → Hid (Nm.normOk l = false) := by
          intro hno
          refine Nm.normOk_no (fun h => hno ?_)
          have := seen_of h (k := k) (by rw [HL.out]; exact hlt)
          rw [HT.out, HT0.out] at this
          exact this
        cases hok : Nm.atOk (p, x) with
        | false =>
          have HF := fail_of (by intro h; rw [hok] at h; cases h.1)
          have HO := Lib.hid hok
          have HCALL : Hid (∀ d : Later wr, Calls Try.prog 42 #[.agg #[.int .i64 p, .int .i64 x]] d.out fun e w'' => e = .returned (.bool false) ∧ ∃ d' : Later wr, w'' = d'.out) := fun d => calls_later (by have h := specAtom_any p x d.out; rw [HO.out] at h; exact h)
          clear hok fail_of
          go_wp2_with fail
          refine region_later (by kernel_rfl) (by kernel_rfl) ?_
          repeat (go_big_quiet_step (exact HCALL.out _))
          refine wpQuiet_nil ?_
          intro w1 hb1
          have HB := Lib.hid (hbel.trans (hb1.mono hbel.size))
          clear hb1
          go_wp2
          go_ret
          exact ⟨by rw [HF.out]; rfl, HB.out⟩
        | true =>
          have HO := Lib.hid hok
          have HCALL : Hid (∀ d : Later wr, Calls Try.prog 42 #[.agg #[.int .i64 p, .int .i64 x]] d.out fun e w'' => e = .returned (.bool true) ∧ ∃ d' : Later wr, w'' = d'.out) := fun d => calls_later (by have h := specAtom_any p x d.out; rw [HO.out] at h; exact h)
          by_cases hk0 : k = 0
          · have HS : Hid (SeenOk l (k + 1)) := seen_step HA.out (by rw [HT.out]; exact hok) (fun h => absurd h (by omega))
            have dk : decide (0 < k) = false := by simp; omega
            clear hok fail_of hk0
            go_wp2_with fail
            refine region_later (by kernel_rfl) (by kernel_rfl) ?_
            repeat (go_big_quiet_step (exact HCALL.out _))
            refine wpQuiet_nil ?_
            intro w1 hb1
            have HB := Lib.hid (hbel.trans (hb1.mono hbel.size))
            clear hb1
            go_wp2
            go_roundw
            case rel => exact ⟨k + 1, by omega, by go_num, HS.out, HB.out⟩
            case measure => simp [intOf]; omega
          · have hk1 : 0 < k := by omega
            have hw1 : IntKind.i64.wrap ((k : Int) - 1) = ((k - 1 : Nat) : Int) := by rw [IntKind.wrap_i64]; omega
            have hw2 : ((k - 1 : Nat) : Int) < (n : Int) := by omega
            obtain ⟨q, hq⟩ : ∃ q, (l.getD (k - 1) (0, 0)).1 = q := ⟨_, rfl⟩
            have c5 := (HC.out (k - 1) (by omega)).1
            rw [hq] at c5 fail_of
            have HQ := Lib.hid hq
            have k5 : ∀ d : Later wr, d.out.cell? ⟨b, off + (k - 1) * 2, none⟩ = some (.int .i64 q) := fun d => d.cell hbr ((hbel.cell (p := ⟨b, off + (k - 1) * 2, none⟩) (by show b < _; omega)).trans c5)
            clear c5 hq
            by_cases hqp : p ≤ q
            · have HF := fail_of (by intro h; have := (h.2 (by omega)).1; omega)
              clear hok fail_of hk0
              go_wp2_with fail
              refine region_later (by kernel_rfl) (by kernel_rfl) ?_
              repeat (go_big_quiet_step (exact HCALL.out _))
              refine wpQuiet_nil ?_
              intro w1 hb1
              have HB := Lib.hid (hbel.trans (hb1.mono hbel.size))
              clear hb1
              go_wp2
              go_ret
              exact ⟨by rw [HF.out]; rfl, HB.out⟩
            · have hqp' : q < p := by omega
              have dpq : decide (p ≤ q) = false := by simp; omega
              by_cases hp0 : p0 = -1
              · subst hp0
                by_cases hx : x0 ≤ x
                · have HF := fail_of (by intro h; have := (h.2 (by omega)).2 rfl; omega)
                  clear hok fail_of hk0 hqp
                  go_wp2_with fail
                  refine region_later (by kernel_rfl) (by kernel_rfl) ?_
                  repeat (go_big_quiet_step (exact HCALL.out _))
                  refine wpQuiet_nil ?_
                  intro w1 hb1
                  have HB := Lib.hid (hbel.trans (hb1.mono hbel.size))
                  clear hb1
                  go_wp2
                  go_ret
                  exact ⟨by rw [HF.out]; rfl, HB.out⟩
                · have hx' : x < x0 := by omega
                  have dx : decide (x0 ≤ x) = false := by simp; omega
                  have HS : Hid (SeenOk l (k + 1)) := seen_step HA.out (by rw [HT.out]; exact hok) (fun h => ⟨by rw [HT.out, HQ.out]; exact hqp', fun _ => by rw [HT.out, HT0.out]; exact hx'⟩)
                  clear hok fail_of hk0 hqp hx
                  go_wp2_with fail
                  refine region_later (by kernel_rfl) (by kernel_rfl) ?_
                  repeat (go_big_quiet_step (exact HCALL.out _))
                  refine wpQuiet_nil ?_
                  intro w1 hb1
                  have HB := Lib.hid (hbel.trans (hb1.mono hbel.size))
                  clear hb1
                  go_wp2
                  go_roundw
                  case rel => exact ⟨k + 1, by omega, by go_num, HS.out, HB.out⟩
                  case measure => simp [intOf]; omega
              · have dp0 : (p0 == -1) = false := by simpa using hp0
                have HS : Hid (SeenOk l (k + 1)) := seen_step HA.out (by rw [HT.out]; exact hok) (fun h => ⟨by rw [HT.out, HQ.out]; exact hqp', fun e => by rw [HT0.out] at e; exact absurd e hp0⟩)
                clear hok fail_of hk0 hqp hp0
                go_wp2_with fail
                refine region_later (by kernel_rfl) (by kernel_rfl) ?_
                repeat (go_big_quiet_step (exact HCALL.out _))
                refine wpQuiet_nil ?_
                intro w1 hb1
                have HB := Lib.hid (hbel.trans (hb1.mono hbel.size))
                clear hb1
                go_wp2
                go_roundw
                case rel => exact ⟨k + 1, by omega, by go_num, HS.out, HB.out⟩
                case measure => simp [intOf]; omega
      · have HF : Hid (Nm.normOk l = true) := (Nm.normOk_iff l).2 (seen_all (by rw [HL.out]; exact h1) (by have h := HA.out; rw [HL.out, show n = k by omega]; exact h))
        go_wp2
        go_ret
        exact ⟨by rw [HF.out]; rfl, hbel⟩
end Go.Proofs.Ytgbdojenenfgfaa
