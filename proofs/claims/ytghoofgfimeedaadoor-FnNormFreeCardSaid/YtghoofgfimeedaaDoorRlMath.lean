/- Plain facts on ResidLe: it holds for every env of the sign, and else an env of the sign with one great parameter tells. -/
import Derived.Test.YtghoofgfimeedaaDoorRsMath3
import Derived.Test.YtghoofgfimeedaaDoorRLe

namespace Go.Proofs.YtghoofgfimeedaaDoor
namespace Nm

theorem rle_value {s : Int} {env : List Int} (he : EnvOf s env) {a b : List At} (hb : ROk s b) (h : ∀ k, k < a.length → ratomLe (a.getD k (0, 0)) b) : value env a ≤ value env b := by
  refine value_le (value_ge _ _) fun x hx => ?_
  obtain ⟨k, hk, rfl⟩ := getD_of_mem hx
  obtain ⟨j, hj, hf⟩ := h k hk
  have h3 := value_mem (env := env) (mem_getD hj)
  have h4 := hb.2.2.2.2.1 j hj
  generalize a.getD k (0, 0) = x at hf ⊢
  generalize b.getD j (0, 0) = y at hf h3 h4
  obtain ⟨p, u⟩ := x
  obtain ⟨q, v⟩ := y
  simp only [RFits] at hf h4
  rcases hf with ⟨rfl, h1⟩ | ⟨rfl, h1, h2⟩
  · by_cases ep : p = -1
    · simp only [val, ep, if_true] at h3 ⊢; omega
    · simp only [val, ep, if_false] at h3 ⊢; omega
  · rcases h4 with e | e
    · omega
    · have := he.2.1 q e
      simp only [val, if_true, show ¬ q = -1 by omega, if_false] at h3 ⊢
      omega

/-- the env of a sign that is great at p -/
def rpeak (s p : Int) : List Int := (List.range 5).map fun (i : Nat) => if Sg.has s i = true then (if (i : Int) = p then 1000 else 1) else 0
theorem rpeak_get (s p : Int) (k : Nat) (hk : k < 5) : (rpeak s p).getD k 0 = if Sg.has s k = true then (if (k : Int) = p then 1000 else 1) else 0 := by
  simp [rpeak, List.getD_eq_getElem?_getD, hk]
theorem not_rle {s : Int} {a b : List At} (ha : ROk s a) (hb : ROk s b) (h : ¬ ∀ k, k < a.length → ratomLe (a.getD k (0, 0)) b) (hb5 : ∀ y ∈ b, y.2 ≤ 500) : ∃ p : Int, -1 ≤ p ∧ p < 5 ∧ value (rpeak s p) b < value (rpeak s p) a := by
  simp only [Classical.not_forall] at h
  obtain ⟨k, hk, h⟩ := h
  have hx := mem_getD hk
  have hpx := ha.2.2.2.2.1 k hk
  generalize a.getD k (0, 0) = x at hx h hpx
  obtain ⟨p, u⟩ := x
  have hax := ha.2.2.1.mem hx
  simp only at hax hpx
  refine ⟨p, hax.1, hax.2.1, ?_⟩
  have hva := value_mem (env := rpeak s p) hx
  have H : ∀ y ∈ b, val (rpeak s p) y ≤ val (rpeak s p) (p, u) - 1 := by
    intro y hy
    obtain ⟨j, hj, rfl⟩ := getD_of_mem hy
    have hby := hb.2.2.1.mem hy
    have h5 := hb5 _ hy
    have hpy := hb.2.2.2.2.1 j hj
    have hn : ¬ RFits (p, u) (b.getD j (0, 0)) := fun hf => h ⟨j, hj, hf⟩
    generalize b.getD j (0, 0) = y at hby h5 hpy hn ⊢
    obtain ⟨q, v⟩ := y
    simp only [RFits] at hn
    simp only at hby h5 hpy
    have hq1 : ∀ _ : ¬ q = -1, (rpeak s p).getD q.toNat 0 = if q = p then 1000 else 1 := by
      intro eq
      rw [rpeak_get _ _ _ (by omega), show ((q.toNat : Nat) : Int) = q by omega]
      rcases hpy with e | e
      · exact absurd e eq
      · rw [if_pos e]
    by_cases ep : p = -1
    · subst ep
      simp only [val, if_true]
      by_cases eq : q = -1
      · simp only [eq, if_true]; omega
      · simp only [eq, if_false]
        rw [hq1 eq, if_neg eq]
        omega
    · have hpp : (rpeak s p).getD p.toNat 0 = 1000 := by
        rw [rpeak_get _ _ _ (by omega), show ((p.toNat : Nat) : Int) = p by omega]
        rcases hpx with e | e
        · exact absurd e ep
        · rw [if_pos e, if_pos rfl]
      simp only [val, ep, if_false]
      rw [hpp]
      by_cases eq : q = -1
      · simp only [eq, if_true]; omega
      · simp only [eq, if_false]
        rw [hq1 eq]
        by_cases eqp : q = p
        · rw [if_pos eqp]; omega
        · rw [if_neg eqp]; omega
  have hv0 : 1 ≤ val (rpeak s p) (p, u) := by
    by_cases ep : p = -1
    · have hb1 := hb.2.1
      have := H _ (mem_getD (l := b) (k := 0) (by omega))
      have h0 := hb.2.2.1.mem (mem_getD (l := b) (k := 0) (by omega))
      have h1 : (b.getD 0 (0, 0)).2 ≤ val (rpeak s p) (b.getD 0 (0, 0)) := val_ge (fun x hx => by
        simp only [rpeak, List.mem_map] at hx
        obtain ⟨i, _, rfl⟩ := hx
        split
        · split <;> omega
        · omega) _
      omega
    · have hpp : (rpeak s p).getD p.toNat 0 = 1000 := by
        rw [rpeak_get _ _ _ (by omega), show ((p.toNat : Nat) : Int) = p by omega]
        rcases hpx with e | e
        · exact absurd e ep
        · rw [if_pos e, if_pos rfl]
      simp only [val, ep, if_false]
      rw [hpp]; omega
  have := value_le (env := rpeak s p) (l := b) (v := val (rpeak s p) (p, u) - 1) (by omega) H
  omega

/-- the first k values of an env of a sign; where the answer is no, of the one that is great at p -/
def Part (s p : Int) (yes : Bool) (k : Nat) (env : List Int) : Prop := env.length = k ∧ ∀ j, j < k → (Sg.has s j = true → 1 ≤ env.getD j 0 ∧ env.getD j 0 ≤ 1000) ∧ (Sg.has s j = false → env.getD j 0 = 0) ∧ (yes = false → env.getD j 0 = (rpeak s p).getD j 0)
theorem Part.nil (s p : Int) (yes : Bool) : Part s p yes 0 [] := ⟨rfl, fun j hj => absurd hj (by omega)⟩
theorem Part.snoc {s p : Int} {yes : Bool} {k : Nat} {env : List Int} (h : Part s p yes k env) (v : Int) (h1 : Sg.has s k = true → 1 ≤ v ∧ v ≤ 1000) (h2 : Sg.has s k = false → v = 0) (h3 : yes = false → v = (rpeak s p).getD k 0) : Part s p yes (k + 1) (env ++ [v]) := by
  refine ⟨by simp [h.1], fun j hj => ?_⟩
  by_cases e : j = k
  · subst e
    have hv : (env ++ [v]).getD j 0 = v := by rw [← h.1]; simp [List.getD_eq_getElem?_getD]
    rw [hv]
    exact ⟨h1, h2, h3⟩
  · have hv : (env ++ [v]).getD j 0 = env.getD j 0 := by rw [List.getD_eq_getElem?_getD, List.getElem?_append_left (by rw [h.1]; omega), ← List.getD_eq_getElem?_getD]
    rw [hv]
    exact h.2 j (by omega)
theorem Part.env {s p : Int} {yes : Bool} {env : List Int} (h : Part s p yes 5 env) : EnvOf s env ∧ envOk env = true := by
  have hall : ∀ x ∈ env, 0 ≤ x ∧ x ≤ 1000 := by
    intro x hx
    obtain ⟨j, hj, rfl⟩ := List.mem_iff_getElem.1 hx
    have h1 := h.2 j (by rw [← h.1]; exact hj)
    rw [List.getD_eq_getElem?_getD, List.getElem?_eq_getElem hj, Option.getD_some] at h1
    cases hh : Sg.has s j with
    | true => have := h1.1 hh; omega
    | false => have := h1.2.1 hh; omega
  refine ⟨⟨fun x hx => (hall x hx).1, fun p hp => ?_, fun p h0 h5' hp => ?_⟩, ?_⟩
  · have hb := has_bd hp
    exact ((h.2 p.toNat (by omega)).1 (by rw [show ((p.toNat : Nat) : Int) = p by omega]; exact hp)).1
  · exact (h.2 p.toNat (by omega)).2.1 (by rw [show ((p.toNat : Nat) : Int) = p by omega]; exact hp)
  · simp only [envOk, Bool.and_eq_true, decide_eq_true_eq, List.all_eq_true]
    exact ⟨h.1, fun x hx => hall x hx⟩
theorem Part.peak {s p : Int} {env : List Int} (h : Part s p false 5 env) : env = rpeak s p := by
  apply List.ext_getElem (by rw [h.1]; simp [rpeak])
  intro i hi hj
  have := (h.2 i (by rw [← h.1]; exact hi)).2.2 rfl
  simpa only [List.getD_eq_getElem?_getD, List.getElem?_eq_getElem hi, List.getElem?_eq_getElem hj, Option.getD_some] using this
end Nm
end Go.Proofs.YtghoofgfimeedaaDoor
