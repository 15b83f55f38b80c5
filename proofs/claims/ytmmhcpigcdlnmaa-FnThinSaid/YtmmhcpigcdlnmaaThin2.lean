/- ConsThin of the program. -/
import Derived.Test.YtmmhcpigcdlnmaaLeaveT
import Derived.Test.YtmmhcpigcdlnmaaThin1
import Derived.Test.YtmmhcpigcdlnmaaPtImp

namespace Go.Proofs.Ytmmhcpigcdlnmaa
open Go.RowKit
open Cs (Cn Tb)

theorem mark_back {g : Nat → Bool} {k : Nat} (h : g k = false) : Cs.mark g k false = g := by
  funext x
  unfold Cs.mark
  by_cases hx : x = k
  · rw [if_pos hx, hx, h]
  · rw [if_neg hx]
set_option maxRecDepth 100000 in
set_option maxHeartbeats 1600000 in
theorem implConsThin_any (w : World) (B : Nat) (A : Option Addr) (n c : Nat) (l : List Cn) (hB : B ≤ w.heap.size) (hl : ConR w B A n l) (hn : (n : Int) ≤ 140737488355328) :
    Calls Try.prog 27 #[.slice A n c] w (ResC w (thinO l)) := by
  have HL := Lib.hid hl
  clear hl
  go_enter Try.func27, Try.ntmps27
  go_wp2_with fail
  refine (implConsSat_any w B A n c l hB HL.out hn).mono ?_
  rintro e w1 ⟨rfl, hb1⟩
  have HB1 := Lib.hid hb1
  have hs1 := hb1.size
  clear hb1
  cases h1 : satR l with
  | false =>
    have HF := Lib.hid (thinO_no h1)
    clear h1
    go_wp2
    go_ret2
    rw [HF.out]
    exact resC_none HB1.out
  | true =>
    have H1 := Lib.hid h1
    have HF := Lib.hid (thinO_yes h1)
    have hn24 : n ≤ 24 := by have := (consOkR_ok (satR_cons h1)).2; rw [HL.out.1] at this; exact this
    clear h1
    go_wp2_with fail
    refine (leaveThin_any w1 B A n c l impR (Cs.thinTo l) (by omega) (HL.out.below (HB1.out.mono hB)) (satR_parts H1.out).1 hn24 (fun w2 g2 c2 l2 U R V h1 _ h3 => implConsImply_any w2 w2.heap.size (some ⟨g2, 0, none⟩) l2.length c2 l2 U R V (Nat.le_refl _) h1 (by omega)) rfl (fun k => Cs.thinTo_late l k k (Nat.le_refl _))
      (fun k hk h => by rw [← thin_next H1.out (by rw [HL.out.1]; exact hk), h]) (fun k hk h => by rw [← thin_next H1.out (by rw [HL.out.1]; exact hk), h, mark_back (Cs.thinTo_late l k k (Nat.le_refl _))])).mono ?_
    rintro e w2 ⟨g2, c2, rfl, ho2, hb2⟩
    have HB2 := Lib.hid (HB1.out.trans (hb2.mono hs1))
    have hs2 := HB2.out.size
    have HR2 := Lib.hid (OwnI.reads ho2)
    have HS : Hid (Cs.skip l (Cs.thinTo l n) = Cs.pickC l (Cs.keptI l (Cs.thinTo l n))) := Cs.skip_eq _ _
    have hkl := Cs.kept_len l (Cs.thinTo l n)
    rw [HL.out.1] at HF hkl
    obtain ⟨m, hm⟩ : ∃ m, (Cs.keptI l (Cs.thinTo l n)).length = m := ⟨_, rfl⟩
    rw [hm] at HR2 hkl ⊢
    have HM : Hid ((Cs.skip l (Cs.thinTo l n)).length = m) := by show _ = _; rw [HS.out, pickC_len]; exact hm
    clear ho2 hb2 hm
    go_wp2_with fail
    refine (picked_any w2 B A n c l (some ⟨g2, 0, none⟩) m c2 (Cs.keptI l (Cs.thinTo l n)) (by omega) (HL.out.below (HB2.out.mono hB)) w2.heap.size (Nat.le_refl _) HR2.out (fun i hi => by rw [← HL.out.1]; exact Cs.kept_lt hi) (by omega) (by omega)).mono ?_
    rintro e w3 ⟨g3, c3, rfl, ho3, hb3⟩
    have HB3 := Lib.hid (HB2.out.trans (hb3.mono hs2))
    have HO3 := Lib.hid (own_base ho3 hs2)
    rw [← HS.out] at HO3
    clear ho3 hb3
    go_wp2
    go_ret2
    rw [HF.out]
    refine ⟨some ⟨g3, 0, none⟩, c3, ?_, ?_, HB3.out⟩
    · show _ = Ending.returned (.tuple #[.slice (some ⟨g3, 0, none⟩) (Cs.skip l (Cs.thinTo l n)).length c3, .bool true])
      rw [HM.out]; rfl
    · show OwnC _ _ _ (Cs.skip l (Cs.thinTo l n)).length _ (Cs.skip l (Cs.thinTo l n))
      rw [HM.out]; exact HO3.out
end Go.Proofs.Ytmmhcpigcdlnmaa
