/- NormOk of the program. -/
import Derived.Test.YtijiohdddfdjfaaDoorNOk1
namespace Go.Proofs.YtijiohdddfdjfaaDoor
open Go.RowKit

theorem TokR.tail {w : World} {B b off n : Nat} {l : List (Int × Int)} (h : TokR w B (some ⟨b, off, none⟩) n l) (hn : 1 ≤ n) : TokR w B (some ⟨b, off + 2, none⟩) (n - 1) (l.drop 1) := by
  refine ⟨by rw [List.length_drop, h.1], fun h0 => ?_⟩
  obtain ⟨b', off', e, hb, hc⟩ := h.2 (by omega)
  injection e with e
  injection e with e1 e2
  subst e1; subst e2
  refine ⟨b, off + 2, rfl, hb, fun k hk => ?_⟩
  have := hc (k + 1) (by omega)
  rw [Nm.getD_drop1, show off + 2 + k * 2 = off + (k + 1) * 2 by omega]
  exact this

set_option maxRecDepth 100000 in
/-- 'n[1:]' of a slice of atoms that is not empty -/
theorem run_tail (b off n c : Nat) (h1 : 1 ≤ n) (hnc : n ≤ c) : ∃ A', (∀ wx : World, (Instr.slice 34 (.slice (some ⟨b, off, none⟩) n c) (some (.int .i64 1)) none none).run Tryd.prog wx = .ok (.slice A' (n - 1) (c - 1)) wx) ∧
    ∀ (w : World) (B : Nat) (l : List (Int × Int)), TokR w B (some ⟨b, off, none⟩) n l → TokR w B A' (n - 1) (l.drop 1) := by
  by_cases e : c = 1
  · refine ⟨some ⟨b, off, none⟩, fun wx => ?_, fun w B l h => ?_⟩
    · have hr := run_slice_l (P := Tryd.prog) (w := wx) 34 (some ⟨b, off, none⟩) n c Tryd.underlying34 .i64 1 (by omega) (by omega)
      have hs : (sizeOf (Tryd.prog.elem 34)).run Tryd.prog wx = .ok 2 wx := by kernel_rfl
      rw [hs] at hr
      simpa [Result.andThen, sliced, e] using hr
    · exact ⟨by rw [List.length_drop, h.1], fun h0 => absurd h0 (by omega)⟩
  · refine ⟨some ⟨b, off + 2, none⟩, fun wx => ?_, fun w B l h => h.tail h1⟩
    have hr := run_slice_l (P := Tryd.prog) (w := wx) 34 (some ⟨b, off, none⟩) n c Tryd.underlying34 .i64 1 (by omega) (by omega)
    have hs : (sizeOf (Tryd.prog.elem 34)).run Tryd.prog wx = .ok 2 wx := by kernel_rfl
    rw [hs] at hr
    simpa [Result.andThen, sliced, e, Addr.add] using hr

end Go.Proofs.YtijiohdddfdjfaaDoor
