/- Plain facts: a list of constraints that are left, with one of them taken out; a part of a row. -/
import Derived.Test.YtmmhcpigcdlnmaaPicked

namespace Go.Proofs.Ytmmhcpigcdlnmaa
open Go.RowKit
open Cs (Cn)

theorem natI_inj {a b : List Nat} (h : natI a = natI b) : a = b := by
  unfold natI at h
  exact (List.map_inj_right (fun x y e => by omega)).1 h
theorem map_erase {α β : Type} (f : α → β) : ∀ (l : List α) (i : Nat), (l.map f).eraseIdx i = (l.eraseIdx i).map f
  | [], _ => rfl
  | _ :: _, 0 => rfl
  | _ :: l, i + 1 => by simp [map_erase f l i]
theorem kept_mem {l : List Cn} {g : Nat → Bool} {j : Nat} (h : j ∈ Cs.keptI l g) : j < l.length ∧ g j = false := by
  unfold Cs.keptI at h
  rw [List.mem_filter, List.mem_range] at h
  exact ⟨h.1, by simpa using h.2⟩
/-- one of the constraints that are left is taken out -/
theorem skip_erase {l : List Cn} {g : Nat → Bool} {i : Nat} (hi : i < (Cs.skip l g).length) :
    ∃ j, j < l.length ∧ g j = false ∧ (Cs.skip l g).getD i (0, 0, 0) = l.getD j (0, 0, 0) ∧ (Cs.skip l g).eraseIdx i = Cs.skip l (Cs.mark g j true) := by
  rw [Cs.skip_eq] at hi ⊢
  have hi2 : i < (Cs.keptI l g).length := by simpa [Cs.pickC] using hi
  have hm := kept_mem (List.getElem_mem hi2)
  refine ⟨(Cs.keptI l g)[i], hm.1, hm.2, ?_, ?_⟩
  · simp [Cs.pickC, List.getD_eq_getElem?_getD, List.getElem?_map, List.getElem?_eq_getElem hi2]
  · rw [Cs.skip_eq]
    have hp := List.pairwise_iff_getElem.1 (kept_nodup l g)
    have he := kept_erase (l := l) (g := g) (k := (Cs.keptI l g)[i]) (j := i) hi2 (by rw [natI_get _ hi2, List.getD_eq_getElem?_getD, List.getElem?_eq_getElem hi2]; rfl) (fun q hq hne h => by
      rw [natI_get _ hq, List.getD_eq_getElem?_getD, List.getElem?_eq_getElem hq] at h
      have h' : (Cs.keptI l g)[q] = (Cs.keptI l g)[i] := by
        have : (((Cs.keptI l g)[q] : Nat) : Int) = (((Cs.keptI l g)[i] : Nat) : Int) := h
        omega
      rcases Nat.lt_or_gt_of_ne hne with c | c
      · exact hp q i hq hi2 c h'
      · exact hp i q hi2 hq c h'.symm)
    have h2 : (Cs.keptI l g).eraseIdx i = Cs.keptI l (Cs.mark g (Cs.keptI l g)[i] true) := by
      refine natI_inj ?_
      rw [← he]
      unfold natI
      rw [map_erase]
    rw [← h2]
    unfold Cs.pickC
    rw [map_erase]
theorem conCells_drop : ∀ (l : List Cn) (k : Nat), conCells (l.drop k) = (conCells l).drop (k * 3)
  | _, 0 => rfl
  | [], k + 1 => by simp [conCells]
  | t :: l, k + 1 => by
    rw [List.drop_succ_cons, conCells_drop l k, conCells_cons, show (k + 1) * 3 = k * 3 + 1 + 1 + 1 by omega]
    rfl
theorem conCells_take (l : List Cn) (k j : Nat) (u : Value) (h : (conCells (l.take k))[j]? = some u) : (conCells l)[j]? = some u := by
  have e : conCells l = conCells (l.take k) ++ conCells (l.drop k) := by rw [← conCells_append, List.take_append_drop]
  rw [e, List.getElem?_append_left (List.getElem?_eq_some_iff.1 h).1]
  exact h
set_option maxRecDepth 100000 in
/-- the end of a row, from its k-th constraint on -/
theorem run_from (g n c k : Nat) (hk : k ≤ n) (hnc : n ≤ c) : ∃ A', (∀ wx : World, (Instr.slice 24 (.slice (some ⟨g, 0, none⟩) n c) (some (.int .i64 (k : Int))) none none).run Try.prog wx = .ok (.slice (some A') (n - k) (c - k)) wx) ∧
    ∀ (wx : World) (l : List Cn), l.length = n → (∀ j u, (conCells l)[j]? = some u → wx.cell? ⟨g, j, none⟩ = some u) → ∀ j u, (conCells (l.drop k))[j]? = some u → wx.cell? (A'.add j) = some u := by
  by_cases e : c = k
  · refine ⟨⟨g, 0, none⟩, fun wx => ?_, fun wx l hl _ j u hu => ?_⟩
    · have hr := run_slice_l (P := Try.prog) (w := wx) 24 (some ⟨g, 0, none⟩) n c Try.underlying24 .i64 (k : Int) (by omega) (by omega)
      have hs : (sizeOf (Try.prog.elem 24)).run Try.prog wx = .ok 3 wx := by kernel_rfl
      rw [hs] at hr
      simpa [Result.andThen, sliced, e] using hr
    · rw [List.drop_eq_nil_of_le (by omega)] at hu
      simp [conCells] at hu
  · refine ⟨⟨g, k * 3, none⟩, fun wx => ?_, fun wx l hl hc j u hu => ?_⟩
    · have hr := run_slice_l (P := Try.prog) (w := wx) 24 (some ⟨g, 0, none⟩) n c Try.underlying24 .i64 (k : Int) (by omega) (by omega)
      have hs : (sizeOf (Try.prog.elem 24)).run Try.prog wx = .ok 3 wx := by kernel_rfl
      rw [hs] at hr
      have hadd : (⟨g, 0, none⟩ : Addr).add (k * 3) = ⟨g, k * 3, none⟩ := by
        unfold Addr.add
        by_cases h : k * 3 = 0
        · rw [if_pos h, h]
        · rw [if_neg h, Nat.zero_add]
      simpa [Result.andThen, sliced, e, hadd] using hr
    · have hadd : (⟨g, k * 3, none⟩ : Addr).add j = ⟨g, k * 3 + j, none⟩ := by
        unfold Addr.add
        by_cases h : j = 0
        · subst h; rfl
        · rw [if_neg h]
      rw [hadd]
      refine hc _ u ?_
      rw [conCells_drop, List.getElem?_drop] at hu
      exact hu
set_option maxRecDepth 100000 in
theorem run_upto (g n c k : Nat) (hk : k ≤ n) (hnc : n ≤ c) : ∀ wx : World, (Instr.slice 24 (.slice (some ⟨g, 0, none⟩) n c) none (some (.int .i64 (k : Int))) none).run Try.prog wx = .ok (.slice (some ⟨g, 0, none⟩) k c) wx := by
  intro wx
  have hr := run_slice_h (P := Try.prog) (w := wx) 24 (some ⟨g, 0, none⟩) n c Try.underlying24 .i64 (k : Int) (by omega) (by omega)
  have hs : (sizeOf (Try.prog.elem 24)).run Try.prog wx = .ok 3 wx := by kernel_rfl
  have e0 : (⟨g, 0, none⟩ : Addr).add 0 = ⟨g, 0, none⟩ := by simp [Addr.add]
  simp only [sliced, Int.toNat_natCast] at hr
  simpa [Result.andThen, e0, hs] using hr
end Go.Proofs.Ytmmhcpigcdlnmaa
