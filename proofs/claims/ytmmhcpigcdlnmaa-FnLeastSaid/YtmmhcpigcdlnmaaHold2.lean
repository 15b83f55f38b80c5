/- ConsHold, of the program and of the reference model. -/
import Derived.Test.YtmmhcpigcdlnmaaHold

namespace Go.Proofs.Ytmmhcpigcdlnmaa
open Go.RowKit
open Cs (Cn)

theorem consHold_bad {l : List Cn} {env : List Int} {k : Nat} {t : Cn} (hk : k < l.length) (ht : l.getD k (0, 0, 0) = t) (h : conHoldsR t env = false) : consHoldR l env = false := by
  cases e : consHoldR l env with
  | false => rfl
  | true =>
    unfold consHoldR at e
    simp only [Bool.and_eq_true, List.all_eq_true] at e
    have hm : t ∈ l := by rw [← ht, List.getD_eq_getElem?_getD, List.getElem?_eq_getElem hk]; exact List.getElem_mem _
    have : conHoldsR t env = true := by unfold conHoldsR; rw [(consOkR_ok e.1.1).1 t hm, e.1.2, e.2 t hm]; rfl
    rw [h] at this
    cases this
theorem consHold_all {l : List Cn} {env : List Int} (h : ∀ j, j < l.length → conHoldsR (l.getD j (0, 0, 0)) env = true) : consHoldR l env = (consOkR l && envOk env) := by
  unfold consHoldR
  have : l.all (holdR env) = true := by
    rw [List.all_eq_true]
    intro t ht
    obtain ⟨j, hj, rfl⟩ := List.getElem_of_mem ht
    have := h j hj
    unfold conHoldsR at this
    simp only [Bool.and_eq_true] at this
    rw [List.getD_eq_getElem?_getD, List.getElem?_eq_getElem hj] at this
    exact this.2
  rw [this, Bool.and_true]
theorem consHold_no {l : List Cn} {env : List Int} {k : Nat} {t : Cn} (hk : k < l.length) (ht : l.getD k (0, 0, 0) = t) (h : holdR env t = false) : consHoldR l env = false := by
  refine consHold_bad hk ht ?_
  unfold conHoldsR
  rw [h, Bool.and_false]
theorem consHold_yes {l : List Cn} {env : List Int} (h1 : consOkR l = true) (h2 : envOk env = true) (h : ∀ j, j < l.length → holdR env (l.getD j (0, 0, 0)) = true) : consHoldR l env = true := by
  rw [consHold_all fun j hj => ?_, h1, h2]
  · rfl
  · unfold conHoldsR
    rw [h j hj, h2, (consOkR_ok h1).1 (l.getD j (0, 0, 0)) (by rw [List.getD_eq_getElem?_getD, List.getElem?_eq_getElem hj]; exact List.getElem_mem _)]
    rfl

set_option maxRecDepth 100000 in
set_option maxHeartbeats 1600000 in
theorem implConsHold_any (w : World) (B : Nat) (A : Option Addr) (n c : Nat) (l : List Cn) (A1 : Option Addr) (n1 c1 : Nat) (env : List Int) (hB : B ≤ w.heap.size) (hl : ConR w B A n l) (hn : (n : Int) ≤ 140737488355328) (hR : IntR w B A1 n1 env) (hn1 : (n1 : Int) ≤ 140737488355328) :
    Calls Try.prog 19 #[.slice A n c, .slice A1 n1 c1] w fun e w' => e = .returned (.bool (consHoldR l env)) ∧ Below w.heap.size w w' := by
  have HR := Lib.hid hR
  have HLL := Lib.hid hl
  clear hR
  go_enter Try.func19, Try.ntmps19
  go_wp2_with fail
  refine (implConsOk_any w B A n c l hB hl hn).mono ?_
  rintro e w1 ⟨rfl, hb1⟩
  have HB1 := Lib.hid hb1
  have hs1 := hb1.size
  clear hb1
  cases h1 : consOkR l with
  | false =>
    have HF : Hid (consHoldR l env = false) := by show _ = _; unfold consHoldR; rw [h1]; rfl
    clear h1
    go_wp2
    go_ret
    exact ⟨by rw [HF.out]; rfl, HB1.out⟩
  | true =>
    have H1 := Lib.hid h1
    clear h1
    go_wp2_with fail
    refine (envOk_any w1 B A1 n1 c1 env (HR.out.below (HB1.out.mono hB)) hn1).mono ?_
    rintro e w2 ⟨rfl, rfl⟩
    cases h2 : envOk env with
    | false =>
      have HF : Hid (consHoldR l env = false) := by show _ = _; unfold consHoldR; rw [H1.out, h2]; rfl
      clear h2
      go_wp2
      go_ret
      exact ⟨by rw [HF.out]; rfl, HB1.out⟩
    | true =>
      have H2 := Lib.hid h2
      obtain rfl : n1 = 5 := by rw [← HR.out.1]; exact envOk_len h2
      clear h2
      go_wp2
      go_loopw [17] (fun i wr => ∃ k : Nat, k ≤ n ∧ i = .int .i64 k ∧ Hid (∀ j, j < k → holdR env (l.getD j (0, 0, 0)) = true) ∧ Hid (Below w.heap.size w wr)) (fun i _ => n - (intOf i).toNat)
      case atStart => exact ⟨0, Nat.zero_le _, rfl, (fun j hj => absurd hj (by omega)), HB1.out⟩
      case round =>
        obtain ⟨k, hk, rfl, HA, HBR⟩ := hrel
        have hszr := HBR.out.size
        by_cases hlt : k < n
        · have hki : (k : Int) < (n : Int) := by omega
          obtain ⟨b, off, hA, hb, hc⟩ := hl.2 (by omega)
          obtain ⟨x1, x2, x3⟩ := hc k hlt
          have HL := Lib.hid hl.1
          obtain ⟨t, ht⟩ : ∃ t, l.getD k (0, 0, 0) = t := ⟨_, rfl⟩
          have hkl : k < l.length := by rw [HL.out]; exact hlt
          have HOK := Lib.hid ((consOkR_ok H1.out).1 (l.getD k (0, 0, 0)) (by rw [List.getD_eq_getElem?_getD, List.getElem?_eq_getElem hkl]; exact List.getElem_mem _))
          rw [ht] at x1 x2 x3 HOK
          obtain ⟨U, R, V⟩ := t
          have HT := Lib.hid ht
          subst hA
          have k1 := (HBR.out.cell (p := ⟨b, off + k * 3, none⟩) (by show b < _; omega)).trans x1
          have k2 := (HBR.out.cell (p := ⟨b, off + k * 3 + 1, none⟩) (by show b < _; omega)).trans x2
          have k3 := (HBR.out.cell (p := ⟨b, off + k * 3 + 2, none⟩) (by show b < _; omega)).trans x3
          obtain ⟨W1, hW1⟩ : ∃ W1, wr.alloc (.cells #[.int .i64 U, .int .i64 R, .int .i64 V] 34) = W1 := ⟨_, rfl⟩
          have hb1 : Below wr.heap.size wr W1 := by rw [← hW1]; exact (Below.refl _ _).alloc (Nat.le_refl _) _
          have hbx : Blk W1 wr.heap.size 34 #[.int .i64 U, .int .i64 R, .int .i64 V] := by rw [← hW1]; exact Blk.made _ _ _
          have y0 : W1.cell? ⟨wr.heap.size, 0, none⟩ = some (.int .i64 U) := hbx.cell 0
          have y1 : W1.cell? ⟨wr.heap.size, 1, none⟩ = some (.int .i64 R) := hbx.cell 1
          have y2 : W1.cell? ⟨wr.heap.size, 2, none⟩ = some (.int .i64 V) := hbx.cell 2
          have HBW := Lib.hid (HBR.out.trans (hb1.mono hszr))
          have hsw := HBW.out.size
          clear hc ht x1 x2 x3 hl hbx hb1
          go_wp2_with fail
          refine (conHolds_any W1 B A1 c1 env U R V (by omega) (HR.out.below (HBW.out.mono hB)) HOK.out).mono ?_
          rintro e w2 ⟨rfl, hb2⟩
          have HB2 := Lib.hid (HBW.out.trans (hb2.mono hsw))
          clear hb2
          cases hok : holdR env (U, R, V) with
          | true =>
            have HA2 : Hid (∀ j, j < k + 1 → holdR env (l.getD j (0, 0, 0)) = true) := fun j hj => by
              by_cases e : j = k
              · subst e; rw [HT.out]; exact hok
              · exact HA.out j (by omega)
            clear hok
            go_wp2
            go_roundw
            case rel => exact ⟨k + 1, by omega, by go_num, HA2.out, HB2.out⟩
            case measure => simp [intOf]; omega
          | false =>
            have HF := Lib.hid (consHold_no (l := l) (by rw [HL.out]; exact hlt) HT.out hok)
            clear hok
            go_wp2
            go_ret
            exact ⟨by rw [HF.out]; rfl, HB2.out⟩
        · obtain rfl : k = n := by omega
          have hkk : ¬ (k : Int) < (k : Int) := by omega
          have HF := Lib.hid (consHold_yes (l := l) H1.out H2.out (fun j hj => HA.out j (by rw [← hl.1]; exact hj)))
          clear hl
          go_wp2
          go_ret
          exact ⟨by rw [HF.out]; rfl, HBR.out⟩
end Go.Proofs.Ytmmhcpigcdlnmaa
