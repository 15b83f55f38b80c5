/- ConsSat of the reference model. -/
import Derived.Test.YtmmhcpigcdlnmaaCoPath
namespace Go.Proofs.Ytmmhcpigcdlnmaa
open Go.RowKit
open Cs (Cn Tb)

theorem consOk_parts {l : List Cn} (h : consOkR l = true) : Cs.ok l ∧ l.length ≤ 1000 := by
  unfold consOkR at h
  simp only [Bool.and_eq_true, decide_eq_true_eq, List.all_eq_true] at h
  exact ⟨fun c hc => h.1 c hc, by omega⟩
/-- the answer of ConsSat -/
def satR (l : List Cn) : Bool := consOkR l && Cs.flat l
theorem satR_no {l : List Cn} (h : consOkR l = false) : satR l = false := by unfold satR; rw [h]; rfl
theorem satR_ok {l : List Cn} (h : consOkR l = true) : satR l = Cs.flat l := by unfold satR; rw [h, Bool.true_and]

set_option maxRecDepth 100000 in
set_option maxHeartbeats 1600000 in
theorem specConsSat_any (w : World) (B : Nat) (A : Option Addr) (n c : Nat) (l : List Cn) (hB : B ≤ w.heap.size) (hl : ConR w B A n l) (hn : (n : Int) ≤ 140737488355328) :
    Calls Try.prog 23 #[.slice A n c] w fun e w' => e = .returned (.bool (satR l)) ∧ Below w.heap.size w w' := by
  have HL := Lib.hid hl
  clear hl
  go_enter Try.func23, Try.ntmps23
  go_wp2_with fail
  refine (specConsOk_any w B A n c l hB HL.out hn).mono ?_
  rintro e w1 ⟨rfl, hb1⟩
  have HB1 := Lib.hid hb1
  have hs1 := hb1.size
  clear hb1
  cases hc : consOkR l with
  | false =>
    have HF := Lib.hid (satR_no hc)
    clear hc
    go_wp2
    go_ret
    exact ⟨by rw [HF.out]; rfl, HB1.out⟩
  | true =>
    have HF := Lib.hid (satR_ok hc)
    have HP := Lib.hid (consOk_parts hc)
    clear hc
    go_wp2_with fail
    refine (l05Paths_any w1 B A n c l (Nat.le_trans hB hs1) (HL.out.below (HB1.out.mono hB)) HP.out.1 (by rw [← HL.out.1]; exact HP.out.2)).mono ?_
    rintro e w2 ⟨hb2, ⟨hf, g, cap, rw', cp, rfl, _⟩ | ⟨hf, rfl⟩⟩
    · have HR : Hid (satR l = true) := HF.out.trans hf
      have HB2 := Lib.hid (HB1.out.trans (hb2.mono hs1))
      clear hb2 hf HF HP
      go_wp2
      go_ret
      exact ⟨by rw [HR.out]; rfl, HB2.out⟩
    · have HR : Hid (satR l = false) := HF.out.trans hf
      have HB2 := Lib.hid (HB1.out.trans (hb2.mono hs1))
      clear hb2 hf HF HP
      go_wp2
      go_ret
      exact ⟨by rw [HR.out]; rfl, HB2.out⟩
end Go.Proofs.Ytmmhcpigcdlnmaa
