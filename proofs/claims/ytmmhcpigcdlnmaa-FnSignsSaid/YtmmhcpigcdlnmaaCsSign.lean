/- Plain facts: what it is that a list of constraints holds in an env; the signs that it allows. -/
import Derived.Test.YtmmhcpigcdlnmaaHold
import Derived.Test.YtmmhcpigcdlnmaaSgMath2
import Derived.Test.YtmmhcpigcdlnmaaUnSgn
import Derived.Test.YtmmhcpigcdlnmaaSigns1

namespace Go.Proofs.Ytmmhcpigcdlnmaa
open Cs (Cn)

theorem valR_of {env : List Int} {p : Int} (h : -1 ≤ p) : valR env p = Cs.valOf env (Cs.node p) := by
  unfold valR Cs.node
  by_cases e : p < 0
  · rw [if_pos e, show (p + 1).toNat = 0 by omega]
    rfl
  · rw [if_neg e, show (p + 1).toNat = p.toNat + 1 by omega]
    rfl
theorem hold_sat {env : List Int} {c : Cn} (hc : Cs.cOk c = true) : holdR env c = true ↔ Cs.Sat (Cs.valOf env) c := by
  have h := (Cs.cOk_iff c).1 hc
  unfold holdR Cs.Sat
  rw [valR_of h.1.1, valR_of h.2.1.1]
  split
  · simp
  · split
    · simp
    · simp
theorem envOk_pos {env : List Int} (h : envOk env = true) : env.length = 5 ∧ ∀ p, 0 ≤ env.getD p 0 := by
  unfold envOk at h
  simp only [Bool.and_eq_true, decide_eq_true_eq, List.all_eq_true] at h
  refine ⟨h.1, fun p => ?_⟩
  rw [List.getD_eq_getElem?_getD]
  cases hg : env[p]? with
  | none => exact Int.le_refl _
  | some x => exact (h.2 x (List.mem_of_getElem? hg)).1
theorem consHold_sat {l : List Cn} {env : List Int} (hok : consOkR l = true) (he : envOk env = true) : consHoldR l env = true ↔ Cs.SatAll (Cs.valOf env) l := by
  have h1 := (consOkR_ok hok).1
  unfold consHoldR
  rw [hok, he, Bool.true_and, Bool.true_and, List.all_eq_true]
  exact ⟨fun h => ⟨Cs.valOf_val (envOk_pos he).2, fun c hc => (hold_sat (h1 c hc)).1 (h c hc)⟩, fun h c hc => (hold_sat (h1 c hc)).2 (h.2 c hc)⟩
theorem consHold_ok {l : List Cn} {env : List Int} (h : consHoldR l env = true) : consOkR l = true ∧ envOk env = true := by
  unfold consHoldR at h
  simp only [Bool.and_eq_true] at h
  exact h.1
theorem leastEnv_ok {l : List Cn} (hf : Cs.flat l = true) : envOk (Cs.leastEnv l) = true := by
  unfold envOk
  simp only [Bool.and_eq_true, decide_eq_true_eq, List.all_eq_true]
  exact ⟨Cs.leastEnv_len l, fun x hx => Cs.leastEnv_bd hf x hx⟩
theorem sgR_is {S : Nat} {env : List Int} (hS : S < 32) (hok : envOk env = true) (he : ∀ k : Nat, k < 5 → decide (0 < env.getD k 0) = Sg.has (S : Int) (k : Int)) : Sg.sgR env = S := by
  have hm := (envOk_pos hok).1
  unfold Sg.sgR
  rw [if_pos hok]
  have hb := fun k hk => Sg.bits_has hm k hk
  have h1 := Sg.bits_sign hm
  have key : ∀ x y : Fin 32, (∀ k : Fin 5, Sg.has ((x : Nat) : Int) ((k : Nat) : Int) = Sg.has ((y : Nat) : Int) ((k : Nat) : Int)) → x = y := by decide +kernel
  have hbx : 0 ≤ Sg.bits env ∧ Sg.bits env ≤ 31 := by simpa [Sg.isSign] using h1
  have hk := key ⟨(Sg.bits env).toNat, by omega⟩ ⟨S, hS⟩ (fun k => by
    have e1 : (((Sg.bits env).toNat : Nat) : Int) = Sg.bits env := by omega
    simp only [e1]
    rw [hb k k.2, he k k.2])
  have := congrArg Fin.val hk
  simp only at this
  omega
/-- the least env of a sign that the list allows -/
theorem least_sign {l : List Cn} {S : Nat} (hS : S < 32) (hok : consOkR l = true) (hf : Cs.flat (Un.sgL l (S : Int)) = true) :
    Sg.sgR (Cs.leastEnv (Un.sgL l (S : Int))) = S ∧ consHoldR l (Cs.leastEnv (Un.sgL l (S : Int))) = true := by
  have h1 := (consOkR_ok hok).1
  have he := leastEnv_ok hf
  have hs := Cs.leastEnv_sat (Un.sgL_ok h1 _) hf
  have hs2 := Cs.signed_sat.1 hs
  refine ⟨sgR_is hS he fun k hk => ?_, (consHold_sat hok he).2 hs2.1⟩
  have h2 : Sg.has (S : Int) (k : Int) = true ↔ 0 < (Cs.leastEnv (Un.sgL l (S : Int))).getD k 0 := hs2.2 k hk
  cases hh : Sg.has (S : Int) (k : Int) with
  | true => exact decide_eq_true (h2.1 hh)
  | false => exact decide_eq_false fun q => by rw [h2.2 q] at hh; cases hh
theorem signs_eq {l : List Cn} (hok : consOkR l = true) : signsR l = natI (Cs.foundI (gS l) 32) := if_pos hok
theorem natI_at {F : List Nat} {k : Nat} (hk : k < F.length) : (natI F).getD k 0 = ((F[k] : Nat) : Int) := by
  unfold natI
  rw [List.getD_eq_getElem?_getD, List.getElem?_map, List.getElem?_eq_getElem hk]
  rfl
theorem found_mem {g : Nat → Bool} {N S : Nat} (h : S ∈ Cs.foundI g N) : S < N ∧ g S = false := by
  unfold Cs.foundI at h
  rw [List.mem_filter, List.mem_range] at h
  exact ⟨h.1, by simpa using h.2⟩
theorem mem_found {g : Nat → Bool} {N S : Nat} (h : S < N) (hg : g S = false) : S ∈ Cs.foundI g N := by
  unfold Cs.foundI
  rw [List.mem_filter, List.mem_range]
  exact ⟨h, by rw [hg]; rfl⟩
theorem gS_no {l : List Cn} {S : Nat} (h : gS l S = false) : Cs.flat (Un.sgL l (S : Int)) = true := by
  unfold gS at h
  cases hf : Cs.flat (Un.sgL l (S : Int)) with
  | true => rfl
  | false =>
    rw [show Cs.flat (Cs.signed l fun p => Sg.has (S : Int) (p : Int)) = false from hf] at h
    cases h
theorem gS_yes {l : List Cn} {S : Nat} (h : Cs.flat (Un.sgL l (S : Int)) = true) : gS l S = false := by
  unfold gS
  rw [show Cs.flat (Cs.signed l fun p => Sg.has (S : Int) (p : Int)) = true from h]
  rfl
theorem signs_get {l : List Cn} (hok : consOkR l = true) {k : Nat} (hk : k < (signsR l).length) : ∃ S : Nat, S < 32 ∧ (signsR l).getD k 0 = (S : Int) ∧ Cs.flat (Un.sgL l (S : Int)) = true := by
  rw [signs_eq hok] at hk ⊢
  rw [natI_len] at hk
  have hm := found_mem (List.getElem_mem hk)
  exact ⟨_, hm.1, natI_at hk, gS_no hm.2⟩
theorem signs_mem {l : List Cn} (hok : consOkR l = true) {S : Nat} (hS : S < 32) (hf : Cs.flat (Un.sgL l (S : Int)) = true) : (S : Int) ∈ signsR l := by
  rw [signs_eq hok]
  exact List.mem_map.2 ⟨S, mem_found hS (gS_yes hf), rfl⟩
theorem hold_mem {l : List Cn} {env : List Int} (h : consHoldR l env = true) : Sg.sgR env ∈ signsR l := by
  obtain ⟨hok, he⟩ := consHold_ok h
  have hs := (consHold_sat hok he).1 h
  have hm := (envOk_pos he).1
  have h1 := Sg.bits_sign hm
  have hbx : 0 ≤ Sg.bits env ∧ Sg.bits env ≤ 31 := by simpa [Sg.isSign] using h1
  obtain ⟨S, hS⟩ : ∃ S : Nat, Sg.bits env = S := ⟨(Sg.bits env).toNat, by omega⟩
  have hb : Sg.sgR env = S := by unfold Sg.sgR; rw [if_pos he, hS]
  rw [hb]
  refine signs_mem hok (by omega) ((Cs.sat_iff (Un.sgL_ok (consOkR_ok hok).1 _)).2 ⟨_, Cs.signed_sat.2 ⟨hs, fun p hp => ?_⟩⟩)
  have := Sg.bits_has hm p hp
  rw [hS] at this
  show Sg.has (S : Int) (p : Int) = true ↔ 0 < env.getD p 0
  rw [this, decide_eq_true_iff]
theorem signs_sat {l : List Cn} (hok : consOkR l = true) : decide (0 < (signsR l).length) = satR l := by
  rw [satR_ok hok]
  cases hf : Cs.flat l with
  | true =>
    have hsat : consHoldR l (Cs.leastEnv l) = true := (consHold_sat hok (leastEnv_ok hf)).2 (Cs.leastEnv_sat (consOkR_ok hok).1 hf)
    exact decide_eq_true (List.length_pos_of_mem (hold_mem hsat))
  | false =>
    refine decide_eq_false fun h => ?_
    obtain ⟨S, hS, _, hf2⟩ := signs_get hok h
    have hs := Cs.leastEnv_sat (Un.sgL_ok (consOkR_ok hok).1 _) hf2
    rw [(Cs.sat_iff (consOkR_ok hok).1).2 ⟨_, (Cs.signed_sat.1 hs).1⟩] at hf
    cases hf
/-- a number is among the first k -/
def hereB (l : List Int) (v : Int) (k : Nat) : Bool := (l.take k).any fun x => x == v
theorem hereB_zero (l : List Int) (v : Int) : hereB l v 0 = false := by simp [hereB]
theorem hereB_succ {l : List Int} {v : Int} {k : Nat} (hk : k < l.length) : hereB l v (k + 1) = (hereB l v k || (l.getD k 0 == v)) := by
  unfold hereB
  rw [List.take_succ_eq_append_getElem hk, List.any_append, List.getD_eq_getElem?_getD, List.getElem?_eq_getElem hk]
  simp
theorem hereB_all {l : List Int} {v : Int} (h : v ∈ l) : hereB l v l.length = true := by
  unfold hereB
  rw [List.take_length, List.any_eq_true]
  exact ⟨v, h, by simp⟩
end Go.Proofs.Ytmmhcpigcdlnmaa
