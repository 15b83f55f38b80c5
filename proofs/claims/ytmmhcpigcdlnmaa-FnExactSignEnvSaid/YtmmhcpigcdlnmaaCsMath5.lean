/- Plain facts for constraints: envs that satisfy a list; the least env; the signs of satisfying envs. -/
import Derived.Test.YtmmhcpigcdlnmaaCsMath4
namespace Go.Proofs.Ytmmhcpigcdlnmaa.Cs

/-- the values of the nodes in an env -/
def valOf (env : List Int) : Nat → Int
  | 0 => 0
  | x + 1 => env.getD x 0
theorem valOf_val {env : List Int} (h : ∀ p, 0 ≤ env.getD p 0) : Val (valOf env) := ⟨rfl, fun x => by
  cases x with
  | zero => exact Int.le_refl _
  | succ x => exact h x⟩
/-- the env of the least values -/
def leastEnv (l : List Cn) : List Int := (List.range 5).map fun p => tab l 0 (p + 1)
theorem leastEnv_len (l : List Cn) : (leastEnv l).length = 5 := by simp [leastEnv]
theorem leastEnv_get (l : List Cn) {p : Nat} (hp : p < 5) : (leastEnv l).getD p 0 = tab l 0 (p + 1) := by
  simp [leastEnv, List.getD_eq_getElem?_getD, hp]
/-- values that agree on the six nodes satisfy the same constraints -/
theorem sat_congr {v u : Nat → Int} {c : Cn} (hc : cOk c = true) (h : ∀ x, x < 6 → v x = u x) : Sat v c ↔ Sat u c := by
  have ho := (cOk_iff c).1 hc
  unfold Sat
  rw [h _ (node_lt ho.1.1 ho.1.2), h _ (node_lt ho.2.1.1 ho.2.1.2)]
theorem valOf_least {l : List Cn} (hf : flat l = true) : ∀ x, x < 6 → valOf (leastEnv l) x = least l x := by
  intro x hx
  cases x with
  | zero => exact (tab_diag hf (by omega)).symm
  | succ x => exact leastEnv_get l (by omega)
/-- the least env satisfies the list -/
theorem leastEnv_sat {l : List Cn} (hok : ok l) (hf : flat l = true) : SatAll (valOf (leastEnv l)) l := by
  refine ⟨valOf_val fun p => ?_, fun c hc => ?_⟩
  · by_cases hp : p < 5
    · rw [leastEnv_get l hp]; exact tab_zero l _
    · have := leastEnv_len l
      rw [List.getD_eq_getElem?_getD, List.getElem?_eq_none (by omega)]
      exact Int.le_refl _
  · exact (sat_congr (hok c hc) (valOf_least hf)).2 ((least_sat hok hf).2 c hc)
theorem leastEnv_bd {l : List Cn} (hf : flat l = true) : ∀ x ∈ leastEnv l, 0 ≤ x ∧ x ≤ 1000 := fun x hx => by
  simp only [leastEnv, List.mem_map] at hx
  obtain ⟨p, _, rfl⟩ := hx
  have := tab_zero l (p + 1)
  have := (tab_bd hf 0 (p + 1)).2
  omega
/-- it is at most every env that does -/
theorem leastEnv_le {l : List Cn} (hok : ok l) {env : List Int} (h : SatAll (valOf env) l) {p : Nat} (hp : p < 5) : (leastEnv l).getD p 0 ≤ env.getD p 0 := by
  rw [leastEnv_get l hp]
  exact least_le hok h (p + 1)
/-- a list is satisfiable by some env just where no way goes round and grows -/
theorem env_iff {l : List Cn} (hok : ok l) : flat l = true ↔ ∃ env : List Int, env.length = 5 ∧ (∀ x ∈ env, 0 ≤ x ∧ x ≤ 1000) ∧ SatAll (valOf env) l :=
  ⟨fun h => ⟨leastEnv l, leastEnv_len l, leastEnv_bd h, leastEnv_sat hok h⟩, fun ⟨_, _, _, h⟩ => (sat_iff hok).2 ⟨_, h⟩⟩

/-- the constraint that a sign lays on a parameter: positive, or 0 -/
def signC (pos : Bool) (p : Nat) : Cn := if pos = true then (-1, 1, (p : Int)) else ((p : Int), 0, -1)
theorem signC_ok (pos : Bool) {p : Nat} (hp : p < 5) : cOk (signC pos p) = true := by
  rw [cOk_iff]
  unfold signC
  split <;> (simp only; omega)
theorem signC_sat {v : Nat → Int} (hv : Val v) (pos : Bool) (p : Nat) : Sat v (signC pos p) ↔ (pos = true ↔ 0 < v (p + 1)) := by
  have h0 := hv.1
  have h1 := hv.2 (p + 1)
  have n1 : node (p : Int) = p + 1 := by unfold node; omega
  have n2 : node (-1) = 0 := rfl
  cases pos with
  | true =>
    have e : Sat v (signC true p) ↔ v 0 < v (p + 1) := by
      have e1 : signC true p = (-1, 1, (p : Int)) := rfl
      rw [e1, Sat, if_neg (show ¬ ((1 : Int) = 0) by decide), if_pos rfl, n1, n2]
    rw [e, h0]
    exact ⟨fun h => ⟨fun _ => h, fun _ => rfl⟩, fun h => h.1 rfl⟩
  | false =>
    have e : Sat v (signC false p) ↔ v (p + 1) ≤ v 0 := by
      have e1 : signC false p = ((p : Int), 0, -1) := rfl
      rw [e1, Sat, if_pos rfl, n1, n2]
    rw [e, h0]
    refine ⟨fun h => ⟨(fun e => by cases e), (fun e => by omega)⟩, fun h => ?_⟩
    apply Classical.byContradiction
    intro hn
    have := h.2 (by omega)
    cases this
/-- a list with the constraints of a sign -/
def signed (l : List Cn) (s : Nat → Bool) : List Cn := l ++ (List.range 5).map fun p => signC (s p) p
theorem signed_ok {l : List Cn} (h : ok l) (s : Nat → Bool) : ok (signed l s) := fun c hc => by
  rcases List.mem_append.1 hc with hc | hc
  · exact h c hc
  · obtain ⟨p, hp, rfl⟩ := List.mem_map.1 hc
    exact signC_ok _ (List.mem_range.1 hp)
theorem signed_sat {v : Nat → Int} {l : List Cn} {s : Nat → Bool} : SatAll v (signed l s) ↔ SatAll v l ∧ ∀ p, p < 5 → (s p = true ↔ 0 < v (p + 1)) := by
  constructor
  · rintro ⟨hv, h⟩
    refine ⟨⟨hv, fun c hc => h c (List.mem_append.2 (.inl hc))⟩, fun p hp => (signC_sat hv (s p) p).1 (h _ (List.mem_append.2 (.inr (List.mem_map.2 ⟨p, List.mem_range.2 hp, rfl⟩))))⟩
  · rintro ⟨⟨hv, h⟩, hs⟩
    refine ⟨hv, fun c hc => ?_⟩
    rcases List.mem_append.1 hc with hc | hc
    · exact h c hc
    · obtain ⟨p, hp, rfl⟩ := List.mem_map.1 hc
      exact (signC_sat hv (s p) p).2 (hs p (List.mem_range.1 hp))
/-- a sign is one of a satisfying env just where the list with its constraints is satisfiable -/
theorem signs_iff {l : List Cn} (hok : ok l) (s : Nat → Bool) : flat (signed l s) = true ↔ ∃ env : List Int, env.length = 5 ∧ (∀ x ∈ env, 0 ≤ x ∧ x ≤ 1000) ∧ SatAll (valOf env) l ∧ ∀ p, p < 5 → (s p = true ↔ 0 < env.getD p 0) := by
  rw [env_iff (signed_ok hok s)]
  constructor
  · rintro ⟨env, h5, hb, h⟩
    have := signed_sat.1 h
    exact ⟨env, h5, hb, this.1, this.2⟩
  · rintro ⟨env, h5, hb, h1, h2⟩
    exact ⟨env, h5, hb, signed_sat.2 ⟨h1, h2⟩⟩
end Go.Proofs.Ytmmhcpigcdlnmaa.Cs
