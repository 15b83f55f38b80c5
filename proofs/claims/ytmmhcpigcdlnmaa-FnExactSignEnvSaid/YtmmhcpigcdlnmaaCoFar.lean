/- ConsFar of the reference model. -/
import Derived.Test.YtmmhcpigcdlnmaaCoSat
namespace Go.Proofs.Ytmmhcpigcdlnmaa
open Go.RowKit
open Cs (Cn Tb)

/-- the answer of ConsFar -/
def farR (l : List Cn) (i j : Int) : Int := if satR l = true ∧ nodeR i = true ∧ nodeR j = true then Cs.tab l (Cs.node i) (Cs.node j) else -1
theorem satR_parts {l : List Cn} (h : satR l = true) : Cs.ok l ∧ l.length ≤ 1000 ∧ Cs.flat l = true := by
  unfold satR at h
  rw [Bool.and_eq_true] at h
  exact ⟨(consOk_parts h.1).1, (consOk_parts h.1).2, h.2⟩
theorem nodeR_nat {n : Int} (h : nodeR n = true) : ∃ u : Nat, n + 1 = u ∧ u < 6 := by
  simp [nodeR] at h
  exact ⟨(n + 1).toNat, by omega, by omega⟩
/-- the table of a list that can be satisfied -/
theorem l05Paths_sat (w : World) (B : Nat) (A : Option Addr) (n c : Nat) (l : List Cn) (hB : B ≤ w.heap.size) (hl : ConR w B A n l) (hs : satR l = true) :
    Calls Try.prog 55 #[.slice A n c] w fun e w' => Below w.heap.size w w' ∧ ∃ g cap rw cp, e = .returned (.tuple #[.slice (some ⟨g, 0, none⟩) 6 cap, .bool true]) ∧ TabN w' w.heap.size g cap 6 rw cp (Cs.tab l) := by
  have hp := satR_parts hs
  refine (l05Paths_any w B A n c l hB hl hp.1 (by rw [← hl.1]; exact hp.2.1)).mono ?_
  rintro e w2 ⟨hb2, ⟨_, g, cap, rw', cp, he, ht⟩ | ⟨hf, _⟩⟩
  · exact ⟨hb2, g, cap, rw', cp, he, ht⟩
  · rw [hp.2.2] at hf; cases hf

set_option maxRecDepth 100000 in
set_option maxHeartbeats 1600000 in
theorem specConsFar_any (w : World) (B : Nat) (A : Option Addr) (n c : Nat) (l : List Cn) (i j : Int) (hB : B ≤ w.heap.size) (hl : ConR w B A n l) (hn : (n : Int) ≤ 140737488355328) :
    Calls Try.prog 22 #[.slice A n c, .int .i64 i, .int .i64 j] w fun e w' => e = .returned (.int .i64 (farR l i j)) ∧ Below w.heap.size w w' := by
  have HL := Lib.hid hl
  clear hl
  go_enter Try.func22, Try.ntmps22
  go_wp2_with fail
  refine (specConsSat_any w B A n c l hB HL.out hn).mono ?_
  rintro e w1 ⟨rfl, hb1⟩
  have HB1 := Lib.hid hb1
  have hs1 := hb1.size
  clear hb1
  cases h1 : satR l with
  | false =>
    have HF : Hid (farR l i j = -1) := if_neg (fun h => by rw [h1] at h; exact absurd h.1 (by decide))
    clear h1
    go_wp2
    go_ret
    exact ⟨by rw [HF.out]; rfl, HB1.out⟩
  | true =>
    have H1 := Lib.hid h1
    clear h1
    go_wp2_with fail
    refine (l05Node_any w1 i).mono ?_
    rintro e w2 ⟨rfl, rfl⟩
    cases h2 : nodeR i with
    | false =>
      have HF : Hid (farR l i j = -1) := if_neg (fun h => by rw [h2] at h; exact absurd h.2.1 (by decide))
      clear h2
      go_wp2
      go_ret
      exact ⟨by rw [HF.out]; rfl, HB1.out⟩
    | true =>
      have H2 := Lib.hid h2
      clear h2
      go_wp2_with fail
      refine (l05Node_any w2 j).mono ?_
      rintro e w3 ⟨rfl, rfl⟩
      cases h3 : nodeR j with
      | false =>
        have HF : Hid (farR l i j = -1) := if_neg (fun h => by rw [h3] at h; exact absurd h.2.2 (by decide))
        clear h3
        go_wp2
        go_ret
        exact ⟨by rw [HF.out]; rfl, HB1.out⟩
      | true =>
        obtain ⟨u, hu, hu6⟩ := nodeR_nat H2.out
        obtain ⟨v, hv, hv6⟩ := nodeR_nat h3
        have HF : Hid (farR l i j = Cs.tab l u v) := (if_pos ⟨H1.out, H2.out, h3⟩).trans (by rw [node_of hu, node_of hv])
        clear h3
        have hui : (u : Int) < 6 := by omega
        have hvi : (v : Int) < 6 := by omega
        go_wp2_with fail
        refine (l05Paths_sat w3 B A n c l (Nat.le_trans hB hs1) (HL.out.below (HB1.out.mono hB)) H1.out).mono ?_
        rintro e w4 ⟨hb4, g, cap, rw', cp, rfl, ht⟩
        have HB4 := Lib.hid (HB1.out.trans (hb4.mono hs1))
        have q1 := ht.head hu6
        obtain ⟨q2, _⟩ := ht.spot hu6 hv6
        clear hb4 ht
        go_wp2
        go_ret
        exact ⟨by rw [HF.out]; rfl, HB4.out⟩
end Go.Proofs.Ytmmhcpigcdlnmaa
