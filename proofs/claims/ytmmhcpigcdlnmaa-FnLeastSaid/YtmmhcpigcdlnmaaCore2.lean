/- ConsCore of the program. -/
import Derived.Test.YtmmhcpigcdlnmaaLeaveC

namespace Go.Proofs.Ytmmhcpigcdlnmaa
open Go.RowKit
open Cs (Cn Tb)

set_option maxRecDepth 100000 in
set_option maxHeartbeats 800000 in
theorem core1_any (w : World) (g c : Nat) (l : List Cn) (U R V : Int) (hl : ConR w w.heap.size (some ⟨g, 0, none⟩) l.length l) (hok : Cs.ok l) (hn : l.length ≤ 24) :
    Calls Try.prog 59 #[.slice (some ⟨g, 0, none⟩) l.length c, .agg #[.int .i64 U, .int .i64 R, .int .i64 V]] w fun e w' => e = .returned (.bool (!Cs.flat l)) ∧ Below w.heap.size w w' := by
  obtain ⟨W0, hW0⟩ : ∃ W, w.alloc (.cells #[.int .i64 U, .int .i64 R, .int .i64 V] 34) = W := ⟨_, rfl⟩
  have HB0 : Hid (Below w.heap.size w W0) := by show Below _ _ _; rw [← hW0]; exact (Below.refl _ _).alloc (Nat.le_refl _) _
  have HL := Lib.hid (hl.below HB0.out)
  have HOK := Lib.hid hok
  obtain ⟨n, hn'⟩ : ∃ n, l.length = n := ⟨_, rfl⟩
  rw [hn'] at HL hn ⊢
  clear hl hok hn'
  go_enter Try.func59, Try.ntmps59
  go_wp2_with fail
  refine (satisfiable_any W0 w.heap.size (some ⟨g, 0, none⟩) n c l HB0.out.size HL.out HOK.out (by omega)).mono ?_
  rintro e w1 ⟨rfl, hb1⟩
  have HB1 := Lib.hid (HB0.out.trans (hb1.mono HB0.out.size))
  clear hb1
  go_wp2
  go_ret
  exact ⟨rfl, HB1.out⟩

set_option maxRecDepth 100000 in
set_option maxHeartbeats 1600000 in
theorem implConsCore_any (w : World) (B : Nat) (A : Option Addr) (n c : Nat) (l : List Cn) (hB : B ≤ w.heap.size) (hl : ConR w B A n l) (hn : (n : Int) ≤ 140737488355328) :
    Calls Try.prog 13 #[.slice A n c] w fun e w' => ∃ Ao co, e = .returned (.slice Ao (coreR l).length co) ∧ OwnI w' w.heap.size Ao (coreR l).length co (coreR l) ∧ Below w.heap.size w w' := by
  have HL := Lib.hid hl
  clear hl
  go_enter Try.func13, Try.ntmps13
  go_wp2_with fail
  refine (implConsOk_any w B A n c l hB HL.out hn).mono ?_
  rintro e w1 ⟨rfl, hb1⟩
  have HB1 := Lib.hid hb1
  have hs1 := hb1.size
  clear hb1
  cases h1 : consOkR l with
  | false =>
    have HF : Hid (coreR l = []) := if_neg (fun h => by rw [h1] at h; exact absurd h.1 (by decide))
    clear h1
    go_wp2
    go_ret
    rw [HF.out]
    exact ⟨none, 0, rfl, World.ownsRow_nil _ _ _ _, HB1.out⟩
  | true =>
    have H1 := Lib.hid h1
    have HP := Lib.hid (consOkR_ok h1)
    have hn24 : n ≤ 24 := by have := (consOkR_ok h1).2; rw [HL.out.1] at this; exact this
    clear h1
    go_wp2_with fail
    refine (satisfiable_any w1 B A n c l (by omega) (HL.out.below (HB1.out.mono hB)) HP.out.1 (by omega)).mono ?_
    rintro e w2 ⟨rfl, hb2⟩
    have HB2 := Lib.hid (HB1.out.trans (hb2.mono hs1))
    have hs2 := HB2.out.size
    clear hb2
    cases h2 : Cs.flat l with
    | true =>
      have HF : Hid (coreR l = []) := if_neg (fun h => by rw [satR_ok H1.out, h2] at h; exact absurd h.2 (by decide))
      clear h2
      go_wp2
      go_ret
      rw [HF.out]
      exact ⟨none, 0, rfl, World.ownsRow_nil _ _ _ _, HB2.out⟩
    | false =>
      have HF : Hid (coreR l = natI (Cs.keptI l (Cs.coreTo l n))) := by show _ = _; rw [← HL.out.1]; exact if_pos ⟨H1.out, (satR_ok H1.out).trans h2⟩
      clear h2
      go_wp2_with fail
      refine (leaveCore_any w2 B A n c l (fun l2 _ => !Cs.flat l2) (Cs.coreTo l) (by omega) (HL.out.below (HB2.out.mono hB)) HP.out.1 hn24 (fun w2 g2 c2 l2 U R V h1 h2 h3 => core1_any w2 g2 c2 l2 U R V h1 h2 h3) rfl (fun k => Cs.coreTo_late l k k (Nat.le_refl _))
        (fun k _ h => (core_no (by simpa using h)).symm) (fun k _ h => by
          have h' : Cs.flat (Cs.skip l (Cs.mark (Cs.coreTo l k) k true)) = true := by simpa using h
          simp only [Cs.coreTo]
          rw [if_pos h'])).mono ?_
      rintro e w3 ⟨g3, c3, rfl, ho3, hb3⟩
      have HB3 := Lib.hid (HB2.out.trans (hb3.mono hs2))
      have HO3 := Lib.hid (own_base ho3 hs2)
      clear ho3 hb3
      obtain ⟨K, hK⟩ : ∃ K, Cs.keptI l (Cs.coreTo l n) = K := ⟨_, rfl⟩
      rw [hK] at HF HO3 ⊢
      obtain ⟨m, hm⟩ : ∃ m, K.length = m := ⟨_, rfl⟩
      rw [hm] at HO3 ⊢
      have HM := Lib.hid hm
      clear hK hm
      go_wp2
      go_ret
      rw [HF.out, natI_len, HM.out]
      exact ⟨_, _, rfl, HO3.out, HB3.out⟩
end Go.Proofs.Ytmmhcpigcdlnmaa
