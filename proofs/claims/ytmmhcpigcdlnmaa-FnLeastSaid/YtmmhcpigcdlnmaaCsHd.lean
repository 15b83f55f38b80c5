/- Plain facts: what it is that a list of constraints holds in an env. -/
import Derived.Test.YtmmhcpigcdlnmaaHold

namespace Go.Proofs.Ytmmhcpigcdlnmaa
open Cs (Cn)

theorem valR_of {env : List Int} {p : Int} (h : -1 ≤ p) : valR env p = Cs.valOf env (Cs.node p) := by
  unfold valR Cs.node
  by_cases e : p < 0
  · rw [if_pos e, show (p + 1).toNat = 0 by omega]
    rfl
  · rw [if_neg e, show (p + 1).toNat = p.toNat + 1 by omega]
    rfl
theorem hold_sat {env : List Int} {c : Cn} (hc : Cs.cOk c = true) : holdR env c = true ↔ Cs.Sat (Cs.valOf env) c := by
  have h := (Cs.cOk_iff c).1 hc
  unfold holdR Cs.Sat
  rw [valR_of h.1.1, valR_of h.2.1.1]
  split
  · simp
  · split
    · simp
    · simp
theorem envOk_pos {env : List Int} (h : envOk env = true) : env.length = 5 ∧ ∀ p, 0 ≤ env.getD p 0 := by
  unfold envOk at h
  simp only [Bool.and_eq_true, decide_eq_true_eq, List.all_eq_true] at h
  refine ⟨h.1, fun p => ?_⟩
  rw [List.getD_eq_getElem?_getD]
  cases hg : env[p]? with
  | none => exact Int.le_refl _
  | some x => exact (h.2 x (List.mem_of_getElem? hg)).1
theorem consHold_sat {l : List Cn} {env : List Int} (hok : consOkR l = true) (he : envOk env = true) : consHoldR l env = true ↔ Cs.SatAll (Cs.valOf env) l := by
  have h1 := (consOkR_ok hok).1
  unfold consHoldR
  rw [hok, he, Bool.true_and, Bool.true_and, List.all_eq_true]
  exact ⟨fun h => ⟨Cs.valOf_val (envOk_pos he).2, fun c hc => (hold_sat (h1 c hc)).1 (h c hc)⟩, fun h c hc => (hold_sat (h1 c hc)).2 (h.2 c hc)⟩
theorem consHold_ok {l : List Cn} {env : List Int} (h : consHoldR l env = true) : consOkR l = true ∧ envOk env = true := by
  unfold consHoldR at h
  simp only [Bool.and_eq_true] at h
  exact h.1
theorem leastEnv_ok {l : List Cn} (hf : Cs.flat l = true) : envOk (Cs.leastEnv l) = true := by
  unfold envOk
  simp only [Bool.and_eq_true, decide_eq_true_eq, List.all_eq_true]
  exact ⟨Cs.leastEnv_len l, fun x hx => Cs.leastEnv_bd hf x hx⟩
end Go.Proofs.Ytmmhcpigcdlnmaa
