/- NormOf and NormMax of the program and of the reference model. -/
import Derived.Test.YtmmhcpigcdlnmaaNNorm
import Derived.Test.YtmmhcpigcdlnmaaAtConcat

namespace Go.Proofs.Ytmmhcpigcdlnmaa
open Go.RowKit Go.Maps

theorem normOf_no {l : List (Int × Int)} (h : ¬ (1 ≤ l.length ∧ l.length ≤ 100 ∧ Nm.AllOk l)) : Nm.normOf l = none := by unfold Nm.normOf; rw [if_neg h]
theorem normOf_yes {l : List (Int × Int)} (h : 1 ≤ l.length ∧ l.length ≤ 100 ∧ Nm.AllOk l) : Nm.normOf l = some (Nm.norm l) := by unfold Nm.normOf; rw [if_pos h]

/-- the keys that are left, where the number is redundant -/
def cutB (l : List (Int × Int)) (p : Int) : Bool := if p = -1 then false else hasB l p
theorem cut_reads {D : DataW Unit} {l : List (Int × Int)} (h : GM D l) : Reads (D.del (ik (-1))) (cutB l) (fun p => Nm.best p l) := by
  intro p
  by_cases e : p = -1
  · subst e
    exact ⟨by rw [has_del_same]; simp [cutB], fun h => by simp [cutB] at h⟩
  · have h1 := h p
    refine ⟨by rw [has_del_other (ik_ne e), h1.1]; simp [cutB, e], fun hu z => ?_⟩
    rw [atKey_del_other (ik_ne e)]
    exact h1.2 (by simpa [cutB, e] using hu) z
theorem keep_of_red {l : List (Int × Int)} (h : redB l = true) : Nm.readOut (cutB l) (fun p => Nm.best p l) 6 = Nm.norm l := by
  rw [← Nm.readOut_norm]
  refine Nm.readOut_congr 6 fun p h1 h2 => ⟨?_, fun _ => rfl⟩
  simp only [redB, decide_eq_true_eq] at h
  unfold cutB Nm.keepB hasB
  split
  · symm; simp; omega
  · rfl
theorem keep_of_not {l : List (Int × Int)} (h : redB l = false) : Nm.readOut (hasB l) (fun p => Nm.best p l) 6 = Nm.norm l := by
  rw [← Nm.readOut_norm]
  refine Nm.readOut_congr 6 fun p h1 h2 => ⟨?_, fun _ => rfl⟩
  simp only [redB, decide_eq_false_iff_not] at h
  have g1 := Nm.most_ge l 5
  have g2 := Nm.best_ge (-1) l
  unfold Nm.keepB hasB
  split
  · rename_i e; subst e
    rw [decide_eq_decide]
    omega
  · rfl

end Go.Proofs.Ytmmhcpigcdlnmaa
