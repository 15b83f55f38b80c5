/- Plain facts for constraints, as the program goes: a table of ways lengthened by one edge until it stays as it is; where it stays it is the table of longest ways, and for six nodes it stays by the sixth time or never. Nothing of the program is imported. -/
/- Plain facts for constraints: what is left by its indices, as the program keeps it. Nothing of the program is imported. -/
/- Plain words: a list with the constraints of a sign; an atom and a list of atoms under a table of longest ways. -/
/- Words for memory: a slice that reads as a list of constraints; one that a call owns. -/
/- Words for memory: a table of six rows of six numbers, each row a block of the call's own. -/
import Derived.Test.YtgebjnoicgmdoaaGreatDoorCsMath5
import Derived.Test.YtgebjnoicgmdoaaGreatDoorSgMath
import Derived.Test.YtgebjnoicgmdoaaGreatDoorSlc

namespace Go.Proofs.YtgebjnoicgmdoaaGreatDoor.Cs

/-- one step of lengthening -/
def ext1 (t e : Tb) (i k j : Nat) (o : Tb) : Tb := if t i k ≠ -1 ∧ e k j ≠ -1 then put o i j (max (o i j) (t i k + e k j)) else o
def extJ (t e : Tb) (i k : Nat) : Nat → Tb → Tb
  | 0, o => o
  | n + 1, o => ext1 t e i k n (extJ t e i k n o)
def extK (t e : Tb) (i : Nat) : Nat → Tb → Tb
  | 0, o => o
  | n + 1, o => extJ t e i n 6 (extK t e i n o)
def extI (t e : Tb) : Nat → Tb → Tb
  | 0, o => o
  | n + 1, o => extK t e n 6 (extI t e n o)
/-- all ways with up to one more edge -/
def ext (t e : Tb) : Tb := extI t e 6 t
theorem extJ_skip {t e : Tb} {i k : Nat} (h : t i k = -1) : ∀ n o, extJ t e i k n o = o
  | 0, _ => rfl
  | n + 1, o => by
    show ext1 t e i k n (extJ t e i k n o) = o
    rw [extJ_skip h n o]
    exact if_neg (fun c => c.1 h)

theorem ext1_ge (t e : Tb) (i k j : Nat) (o : Tb) : Ge o (ext1 t e i k j o) := by
  unfold ext1
  split
  · exact ge_put o i j _
  · exact fun _ _ => Int.le_refl _
theorem ge_trans {a b c : Tb} (h : Ge a b) (k : Ge b c) : Ge a c := fun i j => Int.le_trans (h i j) (k i j)
theorem extJ_ge (t e : Tb) (i k : Nat) : ∀ n o, Ge o (extJ t e i k n o)
  | 0, _ => fun _ _ => Int.le_refl _
  | n + 1, o => ge_trans (extJ_ge t e i k n o) (ext1_ge t e i k n _)
theorem extK_ge (t e : Tb) (i : Nat) : ∀ n o, Ge o (extK t e i n o)
  | 0, _ => fun _ _ => Int.le_refl _
  | n + 1, o => ge_trans (extK_ge t e i n o) (extJ_ge t e i n 6 _)
theorem extI_ge (t e : Tb) : ∀ n o, Ge o (extI t e n o)
  | 0, _ => fun _ _ => Int.le_refl _
  | n + 1, o => ge_trans (extI_ge t e n o) (extK_ge t e n 6 _)
theorem ext_ge (t e : Tb) : Ge t (ext t e) := extI_ge t e 6 t

theorem extJ_has {t e : Tb} {i k : Nat} (h1 : t i k ≠ -1) : ∀ n o j, j < n → e k j ≠ -1 → t i k + e k j ≤ extJ t e i k n o i j
  | 0, _, j, hj, _ => absurd hj (by omega)
  | n + 1, o, j, hj, h2 => by
    by_cases h : j = n
    · subst h
      show _ ≤ ext1 t e i k j (extJ t e i k j o) i j
      unfold ext1
      rw [if_pos ⟨h1, h2⟩, put_same]
      omega
    · exact Int.le_trans (extJ_has h1 n o j (by omega) h2) (ext1_ge t e i k n _ i j)
theorem extK_has {t e : Tb} {i : Nat} : ∀ n o k j, k < n → j < 6 → t i k ≠ -1 → e k j ≠ -1 → t i k + e k j ≤ extK t e i n o i j
  | 0, _, k, _, hk, _, _, _ => absurd hk (by omega)
  | n + 1, o, k, j, hk, hj, h1, h2 => by
    by_cases h : k = n
    · subst h
      exact extJ_has h1 6 _ j hj h2
    · exact Int.le_trans (extK_has n o k j (by omega) hj h1 h2) (extJ_ge t e i n 6 _ i j)
theorem extI_has {t e : Tb} : ∀ n o i k j, i < n → k < 6 → j < 6 → t i k ≠ -1 → e k j ≠ -1 → t i k + e k j ≤ extI t e n o i j
  | 0, _, i, _, _, hi, _, _, _, _ => absurd hi (by omega)
  | n + 1, o, i, k, j, hi, hk, hj, h1, h2 => by
    by_cases h : i = n
    · subst h
      exact extK_has 6 _ k j hk hj h1 h2
    · exact Int.le_trans (extI_has n o i k j (by omega) hk hj h1 h2) (extK_ge t e n 6 _ i j)
theorem ext_has {t e : Tb} {i k j : Nat} (hi : i < 6) (hk : k < 6) (hj : j < 6) (h1 : t i k ≠ -1) (h2 : e k j ≠ -1) : t i k + e k j ≤ ext t e i j := extI_has 6 t i k j hi hk hj h1 h2

/-- each place is as it was, or a way with one more edge -/
def Of (t e o : Tb) : Prop := ∀ a b, o a b = t a b ∨ ∃ k, k < 6 ∧ t a k ≠ -1 ∧ e k b ≠ -1 ∧ o a b = t a k + e k b
theorem Of.ext1 {t e o : Tb} (h : Of t e o) {i k : Nat} (hk : k < 6) (j : Nat) : Of t e (ext1 t e i k j o) := by
  unfold Cs.ext1
  split
  · rename_i hc
    intro a b
    by_cases hab : a = i ∧ b = j
    · obtain ⟨rfl, rfl⟩ := hab
      rw [put_same]
      by_cases hm : o a b ≤ t a k + e k b
      · exact .inr ⟨k, hk, hc.1, hc.2, by omega⟩
      · rw [show max (o a b) (t a k + e k b) = o a b by omega]
        exact h a b
    · rw [put_other o _ hab]
      exact h a b
  · exact h
theorem Of.extJ {t e o : Tb} (h : Of t e o) {i k : Nat} (hk : k < 6) : ∀ n, Of t e (extJ t e i k n o)
  | 0 => h
  | n + 1 => (Of.extJ h hk n).ext1 hk n
theorem Of.extK {t e o : Tb} (h : Of t e o) {i : Nat} : ∀ n, n ≤ 6 → Of t e (extK t e i n o)
  | 0, _ => h
  | n + 1, hn => (Of.extK h n (by omega)).extJ (by omega) 6
theorem Of.extI {t e o : Tb} (h : Of t e o) : ∀ n, Of t e (extI t e n o)
  | 0 => h
  | n + 1 => (Of.extI h n).extK 6 (by omega)
theorem ext_of (t e : Tb) : Of t e (ext t e) := Of.extI (fun _ _ => .inl rfl) 6

/-- ways with up to n + 1 edges -/
def ways (e : Tb) : Nat → Tb
  | 0 => e
  | n + 1 => ext (ways e n) e
theorem ways_mono (e : Tb) (n i j : Nat) : ways e n i j ≤ ways e (n + 1) i j := ext_ge (ways e n) e i j
theorem ways_le (e : Tb) (i j : Nat) (n : Nat) : ∀ m, ways e n i j ≤ ways e (n + m) i j
  | 0 => Int.le_refl _
  | m + 1 => Int.le_trans (ways_le e i j n m) (ways_mono e (n + m) i j)
theorem ways_bd {e : Tb} (he : ∀ i j, -1 ≤ e i j ∧ e i j ≤ 1) : ∀ n i j, -1 ≤ ways e n i j ∧ ways e n i j ≤ (n : Int) + 1
  | 0, i, j => by have := he i j; exact ⟨this.1, by show e i j ≤ _; omega⟩
  | n + 1, i, j => by
    have h0 := ways_bd he n i j
    have hm := ways_mono e n i j
    rcases ext_of (ways e n) e i j with h | ⟨k, _, _, _, h⟩
    · have h' : ways e (n + 1) i j = ways e n i j := h
      omega
    · have h' : ways e (n + 1) i j = ways e n i k + e k j := h
      have h1 := ways_bd he n i k
      have h2 := he k j
      omega
/-- tables that are equal at the six nodes -/
def Same (a b : Tb) : Prop := ∀ i j, i < 6 → j < 6 → a i j = b i j

section
variable {l : List Cn} {n : Nat}
/-- a table that stays is closed -/
theorem fix_trans (h : Same (ways (start l) (n + 1)) (ways (start l) n)) : ∀ m i k j, i < 6 → k < 6 → j < 6 → 0 ≤ ways (start l) n i k → 0 ≤ ways (start l) m k j → ways (start l) n i k + ways (start l) m k j ≤ ways (start l) n i j := by
  intro m
  induction m with
  | zero =>
    intro i k j hi hk hj h1 h2
    rw [← h i j hi hj]
    exact ext_has hi hk hj (by omega) (by show start l k j ≠ -1; have : 0 ≤ start l k j := h2; omega)
  | succ m ih =>
    intro i k j hi hk hj h1 h2
    rcases ext_of (ways (start l) m) (start l) k j with hx | ⟨p, hp, q1, q2, hx⟩
    · have hx' : ways (start l) (m + 1) k j = ways (start l) m k j := hx
      rw [hx'] at h2 ⊢
      exact ih i k j hi hk hj h1 h2
    · have hx' : ways (start l) (m + 1) k j = ways (start l) m k p + start l p j := hx
      have b1 := (ways_bd (start_le l) m k p).1
      have c1 := ih i k p hi hk hp h1 (by omega)
      have c2 : ways (start l) n i p + start l p j ≤ ways (start l) n i j := by
        rw [← h i j hi hj]
        exact ext_has hi hp hj (by omega) q2
      omega
theorem le_relax {d T : Tb} (hT : ∀ i k j, i < 6 → k < 6 → j < 6 → 0 ≤ T i k → 0 ≤ T k j → T i k + T k j ≤ T i j) (h : ∀ i j, i < 6 → j < 6 → d i j ≤ T i j) {k i j : Nat} (hk : k < 6) (hi : i < 6) (hj : j < 6) : ∀ a b, a < 6 → b < 6 → relax k i j d a b ≤ T a b := by
  intro a b ha hb
  unfold relax
  split
  · rename_i hc
    by_cases hab : a = i ∧ b = j
    · obtain ⟨rfl, rfl⟩ := hab
      rw [put_same]
      have h1 := h a k ha hk
      have h2 := h k b hk hb
      have h3 := hT a k b ha hk hb (by omega) (by omega)
      have h4 := h a b ha hb
      omega
    · rw [put_other d _ hab]
      exact h a b ha hb
  · exact h a b ha hb
theorem le_relaxJ {d T : Tb} (hT : ∀ i k j, i < 6 → k < 6 → j < 6 → 0 ≤ T i k → 0 ≤ T k j → T i k + T k j ≤ T i j) (h : ∀ i j, i < 6 → j < 6 → d i j ≤ T i j) {k i : Nat} (hk : k < 6) (hi : i < 6) : ∀ n, n ≤ 6 → ∀ a b, a < 6 → b < 6 → relaxJ k i n d a b ≤ T a b
  | 0, _ => h
  | n + 1, hn => le_relax hT (le_relaxJ hT h hk hi n (by omega)) hk hi (by omega)
theorem le_relaxI {d T : Tb} (hT : ∀ i k j, i < 6 → k < 6 → j < 6 → 0 ≤ T i k → 0 ≤ T k j → T i k + T k j ≤ T i j) (h : ∀ i j, i < 6 → j < 6 → d i j ≤ T i j) {k : Nat} (hk : k < 6) : ∀ n, n ≤ 6 → ∀ a b, a < 6 → b < 6 → relaxI k n d a b ≤ T a b
  | 0, _ => h
  | n + 1, hn => le_relaxJ hT (le_relaxI hT h hk n (by omega)) hk (by omega) 6 (by omega)
theorem le_relaxK {d T : Tb} (hT : ∀ i k j, i < 6 → k < 6 → j < 6 → 0 ≤ T i k → 0 ≤ T k j → T i k + T k j ≤ T i j) (h : ∀ i j, i < 6 → j < 6 → d i j ≤ T i j) : ∀ n, n ≤ 6 → ∀ a b, a < 6 → b < 6 → relaxK n d a b ≤ T a b
  | 0, _ => h
  | n + 1, hn => le_relaxI hT (le_relaxK hT h n (by omega)) (by omega) 6 (by omega)
theorem ways_start (l : List Cn) (n i j : Nat) : start l i j ≤ ways (start l) n i j := by
  have := ways_le (start l) i j 0 n
  rw [Nat.zero_add] at this
  exact this
theorem tab_le_fix (h : Same (ways (start l) (n + 1)) (ways (start l) n)) : ∀ i j, i < 6 → j < 6 → tab l i j ≤ ways (start l) n i j :=
  le_relaxK (fun i k j hi hk hj h1 h2 => fix_trans h n i k j hi hk hj h1 h2) (fun i j _ _ => ways_start l n i j) 6 (by omega)
/-- where the table stays, no way goes round and grows -/
theorem fix_flat (h : Same (ways (start l) (n + 1)) (ways (start l) n)) : flat l = true := by
  rw [flat_iff]
  intro i hi
  have h1 := tab_le_fix h i i hi hi
  have h2 := fix_trans h n i i i hi hi hi
  omega
theorem ways_tab (hf : flat l = true) : ∀ n i j, i < 6 → j < 6 → ways (start l) n i j ≤ tab l i j
  | 0, i, j, _, _ => tab_ge l i j
  | n + 1, i, j, hi, hj => by
    rcases ext_of (ways (start l) n) (start l) i j with hx | ⟨k, hk, q1, q2, hx⟩
    · have hx' : ways (start l) (n + 1) i j = ways (start l) n i j := hx
      rw [hx']
      exact ways_tab hf n i j hi hj
    · have hx' : ways (start l) (n + 1) i j = ways (start l) n i k + start l k j := hx
      rw [hx']
      have b1 := (ways_bd (start_le l) n i k).1
      have b2 := (start_le l k j).1
      have c1 := ways_tab hf n i k hi hk
      have c2 := tab_ge l k j
      have c3 := tab_closed hf hi hj hk (by omega) (by omega)
      omega
theorem fix_tab (h : Same (ways (start l) (n + 1)) (ways (start l) n)) : Same (ways (start l) n) (tab l) := fun i j hi hj =>
  Int.le_antisymm (ways_tab (fix_flat h) n i j hi hj) (tab_le_fix h i j hi hj)
end

/-- a least one of finitely many -/
theorem least_of (P : Nat → Prop) (f : Nat → Int) : ∀ N, (∃ j, j < N ∧ P j) → ∃ j, j < N ∧ P j ∧ ∀ k, k < N → P k → f j ≤ f k
  | 0, h => by obtain ⟨j, hj, _⟩ := h; omega
  | N + 1, h => by
    by_cases hN : P N
    · by_cases hr : ∃ j, j < N ∧ P j
      · obtain ⟨j, hj, hp, hm⟩ := least_of P f N hr
        by_cases hc : f j ≤ f N
        · refine ⟨j, by omega, hp, fun k hk hpk => ?_⟩
          by_cases e : k = N
          · rw [e]; exact hc
          · exact hm k (by omega) hpk
        · refine ⟨N, by omega, hN, fun k hk hpk => ?_⟩
          by_cases e : k = N
          · rw [e]; exact Int.le_refl _
          · have := hm k (by omega) hpk; omega
      · refine ⟨N, by omega, hN, fun k hk hpk => ?_⟩
        by_cases e : k = N
        · rw [e]; exact Int.le_refl _
        · exact absurd ⟨k, by omega, hpk⟩ hr
    · obtain ⟨j, hj, hp⟩ := h
      have hjn : j ≠ N := fun e => hN (e ▸ hp)
      obtain ⟨j, hj, hp, hm⟩ := least_of P f N ⟨j, by omega, hp⟩
      refine ⟨j, by omega, hp, fun k hk hpk => ?_⟩
      have hkn : k ≠ N := fun e => hN (e ▸ hpk)
      exact hm k (by omega) hpk

section
variable {l : List Cn}
/-- node j's place in row i stays from n on -/
def Fin' (l : List Cn) (i n j : Nat) : Prop := ∀ m, ways (start l) (n + m) i j = ways (start l) n i j
theorem fin_step (hok : ok l) (hf : flat l = true) {i n : Nat} (hi6 : i < 6) (h : ∃ j, j < 6 ∧ ¬ Fin' l i n j) : ∃ j, j < 6 ∧ ¬ Fin' l i n j ∧ Fin' l i (n + 1) j := by
  have hk : Keeps (least l) (start l) := keeps_start (least_sat hok hf).1 hok (least_sat hok hf).2
  by_cases hA : ∃ j, j < 6 ∧ (¬ Fin' l i n j ∧ 0 ≤ ways (start l) (n + 1) i j)
  · obtain ⟨j, hj, ⟨hnf, h0⟩, hm⟩ := least_of (fun j => ¬ Fin' l i n j ∧ 0 ≤ ways (start l) (n + 1) i j) (fun j => least l j - ways (start l) (n + 1) i j) 6 hA
    have main : ∀ m x, x < 6 → ¬ Fin' l i n x → 0 ≤ ways (start l) (n + 1 + m) i x → least l j - ways (start l) (n + 1) i j ≤ least l x - ways (start l) (n + 1 + m) i x := by
      intro m
      induction m with
      | zero => intro x hx hn h0; exact hm x hx ⟨hn, h0⟩
      | succ m ih =>
        intro x hx hn h1
        rcases ext_of (ways (start l) (n + 1 + m)) (start l) i x with hx' | ⟨k, hk6, q1, q2, hx'⟩
        · have e : ways (start l) (n + 1 + (m + 1)) i x = ways (start l) (n + 1 + m) i x := hx'
          rw [e] at h1 ⊢
          exact ih x hx hn h1
        · have e : ways (start l) (n + 1 + (m + 1)) i x = ways (start l) (n + 1 + m) i k + start l k x := hx'
          have b1 := (ways_bd (start_le l) (n + 1 + m) i k).1
          have b2 := (start_le l k x).1
          have c1 := hk k x (by omega)
          by_cases hfk : Fin' l i n k
          · have e2 : ways (start l) (n + 1 + m) i k = ways (start l) n i k := by
              have := hfk (1 + m)
              rw [← Nat.add_assoc] at this
              exact this
            have c2 : ways (start l) n i k + start l k x ≤ ways (start l) (n + 1) i x := ext_has hi6 hk6 hx (by omega) q2
            have c3 := hm x hx ⟨hn, by omega⟩
            have c3' : least l j - ways (start l) (n + 1) i j ≤ least l x - ways (start l) (n + 1) i x := c3
            omega
          · have c4 := ih k hk6 hfk (by omega)
            omega
    refine ⟨j, hj, hnf, fun m => ?_⟩
    have c1 := ways_le (start l) i j (n + 1) m
    have c2 := main m j hj hnf (by omega)
    omega
  · exfalso
    obtain ⟨j, hj, hn⟩ := h
    have hst : ∀ x, x < 6 → ways (start l) (n + 1) i x = ways (start l) n i x := fun x hx => by
      by_cases hfx : Fin' l i n x
      · exact hfx 1
      · have h1 : ¬ 0 ≤ ways (start l) (n + 1) i x := fun h0 => hA ⟨x, hx, hfx, h0⟩
        have h2 := ways_mono (start l) n i x
        have h3 := (ways_bd (start_le l) n i x).1
        omega
    have all : ∀ m x, x < 6 → ways (start l) (n + m) i x = ways (start l) n i x := by
      intro m
      induction m with
      | zero => intro x _; rfl
      | succ m ih =>
        intro x hx
        have hmo := ways_mono (start l) (n + m) i x
        rw [ih x hx] at hmo
        refine Int.le_antisymm ?_ hmo
        rcases ext_of (ways (start l) (n + m)) (start l) i x with hx' | ⟨k, hk6, q1, q2, hx'⟩
        · have e : ways (start l) (n + (m + 1)) i x = ways (start l) (n + m) i x := hx'
          rw [e, ih x hx]
          exact Int.le_refl _
        · have e : ways (start l) (n + (m + 1)) i x = ways (start l) (n + m) i k + start l k x := hx'
          rw [ih k hk6] at e q1
          rw [e, ← hst x hx]
          exact ext_has hi6 hk6 hx q1 q2
    exact hn fun m => all m j hj
theorem fin_mono {i n j : Nat} (h : Fin' l i n j) : Fin' l i (n + 1) j := fun m => by
  have h1 := h (1 + m)
  have h2 := h 1
  rw [← Nat.add_assoc] at h1
  rw [h1, h2]
theorem fin_own (hf : flat l = true) {i : Nat} (hi : i < 6) : Fin' l i 0 i := fun m => by
  have h1 := ways_tab hf (0 + m) i i hi hi
  have h2 := ways_tab hf 0 i i hi hi
  have h3 := ways_start l (0 + m) i i
  have h4 := ways_start l 0 i i
  have h5 := start_base l i i
  have h6 : base i i = 0 := if_pos (.inl rfl)
  have h7 := tab_diag hf hi
  omega
open Classical in
/-- how many places of a row stay from n on -/
noncomputable def fins (l : List Cn) (i n : Nat) (j : Nat) : Nat := if Fin' l i n j then 1 else 0
theorem fins_le (i n j : Nat) : fins l i n j ≤ 1 := by unfold fins; split <;> omega
theorem fins_mono (i n j : Nat) : fins l i n j ≤ fins l i (n + 1) j := by
  unfold fins
  by_cases h : Fin' l i n j
  · rw [if_pos h, if_pos (fin_mono h)]; exact Nat.le_refl _
  · rw [if_neg h]; exact Nat.zero_le _
theorem fins_new {i n j : Nat} (h1 : ¬ Fin' l i n j) (h2 : Fin' l i (n + 1) j) : fins l i n j + 1 ≤ fins l i (n + 1) j := by
  unfold fins
  rw [if_neg h1, if_pos h2]
  omega
def cnt (f : Nat → Nat) : Nat := f 0 + f 1 + f 2 + f 3 + f 4 + f 5
theorem cnt_one (f : Nat → Nat) {j : Nat} (hj : j < 6) : f j ≤ cnt f := by
  unfold cnt
  obtain rfl | rfl | rfl | rfl | rfl | rfl : j = 0 ∨ j = 1 ∨ j = 2 ∨ j = 3 ∨ j = 4 ∨ j = 5 := by omega
  all_goals omega
theorem cnt_more (f g : Nat → Nat) (h : ∀ j, f j ≤ g j) {j : Nat} (hj : j < 6) (hs : f j + 1 ≤ g j) : cnt f + 1 ≤ cnt g := by
  unfold cnt
  have h0 := h 0; have h1 := h 1; have h2 := h 2; have h3 := h 3; have h4 := h 4; have h5 := h 5
  obtain rfl | rfl | rfl | rfl | rfl | rfl : j = 0 ∨ j = 1 ∨ j = 2 ∨ j = 3 ∨ j = 4 ∨ j = 5 := by omega
  all_goals omega
theorem cnt_full (f : Nat → Nat) (h : ∀ j, f j ≤ 1) (hc : 6 ≤ cnt f) {j : Nat} (hj : j < 6) : f j = 1 := by
  unfold cnt at hc
  have h0 := h 0; have h1 := h 1; have h2 := h 2; have h3 := h 3; have h4 := h 4; have h5 := h 5
  obtain rfl | rfl | rfl | rfl | rfl | rfl : j = 0 ∨ j = 1 ∨ j = 2 ∨ j = 3 ∨ j = 4 ∨ j = 5 := by omega
  all_goals omega
theorem fin_count (hok : ok l) (hf : flat l = true) {i : Nat} (hi : i < 6) : ∀ n, (∀ j, j < 6 → Fin' l i n j) ∨ n + 1 ≤ cnt (fins l i n)
  | 0 => .inr (by
      have h := cnt_one (fins l i 0) hi
      have : fins l i 0 i = 1 := if_pos (fin_own hf hi)
      omega)
  | n + 1 => by
    rcases fin_count hok hf hi n with h | h
    · exact .inl fun j hj => fin_mono (h j hj)
    · by_cases ha : ∃ j, j < 6 ∧ ¬ Fin' l i n j
      · obtain ⟨j, hj, h1, h2⟩ := fin_step hok hf hi ha
        have := cnt_more (fins l i n) (fins l i (n + 1)) (fun j => fins_mono i n j) hj (fins_new h1 h2)
        exact .inr (by omega)
      · refine .inl fun j hj => fin_mono ?_
        by_cases hx : Fin' l i n j
        · exact hx
        · exact absurd ⟨j, hj, hx⟩ ha
/-- a list that can be satisfied: the table stays by the sixth time -/
theorem ways_stay (hok : ok l) (hf : flat l = true) : Same (ways (start l) 6) (ways (start l) 5) := fun i j hi hj => by
  rcases fin_count hok hf hi 5 with h | h
  · exact h j hj 1
  · have h1 := cnt_full (fins l i 5) (fun j => fins_le i 5 j) h hj
    unfold fins at h1
    by_cases hx : Fin' l i 5 j
    · exact hx 1
    · rw [if_neg hx] at h1
      cases h1
end
end Go.Proofs.YtgebjnoicgmdoaaGreatDoor.Cs

namespace Go.Proofs.YtgebjnoicgmdoaaGreatDoor.Cs

/-- up to n: what the model has found so far -/
def foundI (g : Nat → Bool) (n : Nat) : List Nat := (List.range n).filter fun i => !g i
theorem foundI_succ (g : Nat → Bool) (n : Nat) : foundI g (n + 1) = if g n = true then foundI g n else foundI g n ++ [n] := by
  unfold foundI
  rw [List.range_succ, List.filter_append]
  by_cases h : g n = true
  · rw [if_pos h]; simp [h]
  · rw [if_neg h]; simp [h]
theorem foundI_len (g : Nat → Bool) (n : Nat) : (foundI g n).length ≤ n := by
  have := List.length_filter_le (fun i => !g i) (List.range n)
  rw [List.length_range] at this
  exact this
end Go.Proofs.YtgebjnoicgmdoaaGreatDoor.Cs

namespace Go.Proofs.YtgebjnoicgmdoaaGreatDoor.Un
open Go.Proofs.YtgebjnoicgmdoaaGreatDoor.Nm
open Go.Proofs.YtgebjnoicgmdoaaGreatDoor.Cs (Cn Tb)

/-- the list with the constraints of a sign -/
def sgL (l : List Cn) (s : Int) : List Cn := Cs.signed l fun p => Sg.has s (p : Int)
theorem sgL_ok {l : List Cn} (h : Cs.ok l) (s : Int) : Cs.ok (sgL l s) := Cs.signed_ok h _
/-- an atom is at most another one, and at most a list, by a table of longest ways -/
def leB (T : Tb) (x y : At) : Bool := decide (0 ≤ T (Cs.node x.1) (Cs.node y.1)) && decide (x.2 ≤ T (Cs.node x.1) (Cs.node y.1) + y.2)
def atB (T : Tb) (x : At) (n : List At) : Bool := n.any (leB T x)
/-- no atom serves up to k -/
theorem atB_none {T : Tb} {x : At} {n : List At} (h : ∀ k, k < n.length → leB T x (n.getD k (0, 0)) = false) : atB T x n = false := by
  unfold atB
  rw [List.any_eq_false]
  intro y hy
  obtain ⟨k, hk, rfl⟩ := List.mem_iff_getElem.1 hy
  have := h k hk
  rw [List.getD_eq_getElem?_getD, List.getElem?_eq_getElem hk, Option.getD_some] at this
  rw [this]
  decide
theorem atB_some {T : Tb} {x : At} {n : List At} {k : Nat} (hk : k < n.length) (h : leB T x (n.getD k (0, 0)) = true) : atB T x n = true := by
  unfold atB
  rw [List.any_eq_true]
  rw [List.getD_eq_getElem?_getD, List.getElem?_eq_getElem hk, Option.getD_some] at h
  exact ⟨n[k], List.getElem_mem hk, h⟩

theorem drop_get {l : List At} {k : Nat} (hk : k < l.length) : l.drop k = l.getD k (0, 0) :: l.drop (k + 1) := by
  rw [List.drop_eq_getElem_cons hk, List.getD_eq_getElem?_getD, List.getElem?_eq_getElem hk, Option.getD_some]
/-- the first atom that is not at most b -/
def exL (T : Tb) (b : List At) : List At → Option At
  | [] => none
  | x :: t => if atB T x b = true then exL T b t else some x
theorem exL_go {T : Tb} {b l : List At} {k : Nat} (hk : k < l.length) (h : atB T (l.getD k (0, 0)) b = true) : exL T b (l.drop k) = exL T b (l.drop (k + 1)) := by
  rw [drop_get hk, exL, if_pos h]
theorem exL_hit {T : Tb} {b l : List At} {k : Nat} (hk : k < l.length) (h : atB T (l.getD k (0, 0)) b = false) : exL T b (l.drop k) = some (l.getD k (0, 0)) := by
  rw [drop_get hk, exL, if_neg (by rw [h]; decide)]
theorem exL_end {T : Tb} {b l : List At} {k : Nat} (hk : l.length ≤ k) : exL T b (l.drop k) = none := by
  rw [List.drop_eq_nil_of_le hk, exL]
theorem exL_mem {T : Tb} {b l : List At} {x : At} (h : exL T b l = some x) : x ∈ l := by
  induction l with
  | nil => cases h
  | cons y t ih =>
    simp only [exL] at h
    split at h
    · exact List.mem_cons_of_mem _ (ih h)
    · injection h with h
      subst h
      exact List.mem_cons_self
theorem exL_no {T : Tb} {b l : List At} {x : At} (h : exL T b l = some x) : atB T x b = false := by
  induction l with
  | nil => cases h
  | cons y t ih =>
    simp only [exL] at h
    split at h
    · exact ih h
    · rename_i h1
      injection h with h
      subst h
      simpa using h1
theorem exL_none {T : Tb} {b l : List At} : exL T b l = none ↔ ∀ x ∈ l, atB T x b = true := by
  induction l with
  | nil => simp [exL]
  | cons y t ih =>
    simp only [exL]
    split
    · rename_i h1
      rw [ih]
      simp [h1]
    · rename_i h1
      simp [h1]

end Go.Proofs.YtgebjnoicgmdoaaGreatDoor.Un

namespace Go.Proofs.YtgebjnoicgmdoaaGreatDoor
open Go.RowKit
open Cs (Cn)

/-- the slice value '.slice A n c' reads as the constraints l; its cells lie below block B -/
def ConR (w : World) (B : Nat) (A : Option Addr) (n : Nat) (l : List Cn) : Prop :=
  l.length = n ∧ (0 < n → ∃ b off, A = some ⟨b, off, none⟩ ∧ b < B ∧ ∀ k, k < n →
    w.cell? ⟨b, off + k * 3, none⟩ = some (.int .i64 (l.getD k (0, 0, 0)).1) ∧ w.cell? ⟨b, off + k * 3 + 1, none⟩ = some (.int .i64 (l.getD k (0, 0, 0)).2.1) ∧ w.cell? ⟨b, off + k * 3 + 2, none⟩ = some (.int .i64 (l.getD k (0, 0, 0)).2.2))
section
variable {w w' : World} {B B' n : Nat} {A : Option Addr}
theorem ConR.keep {l : List Cn} (h : ConR w B A n l) (hk : ∀ p : Addr, p.block < B → w'.cell? p = w.cell? p) : ConR w' B A n l :=
  ⟨h.1, fun hn => by
    obtain ⟨b, off, e, hb, hc⟩ := h.2 hn
    exact ⟨b, off, e, hb, fun k hk' => by rw [hk _ (by exact hb), hk _ (by exact hb), hk _ (by exact hb)]; exact hc k hk'⟩⟩
theorem ConR.below {l : List Cn} (h : ConR w B A n l) (hb : Below B w w') : ConR w' B A n l := h.keep fun _ hp => hb.cell hp
theorem ConR.more {l : List Cn} (h : ConR w B A n l) (hB : B ≤ B') : ConR w B' A n l :=
  ⟨h.1, fun hn => by
    obtain ⟨b, off, e, hb, hc⟩ := h.2 hn
    exact ⟨b, off, e, by omega, hc⟩⟩
end
/-- the cells of a list of constraints -/
def conCells (l : List Cn) : List Value := l.flatMap fun t => [.int .i64 t.1, .int .i64 t.2.1, .int .i64 t.2.2]
theorem conCells_nil : conCells [] = [] := rfl
theorem conCells_cons (t : Cn) (l : List Cn) : conCells (t :: l) = .int .i64 t.1 :: .int .i64 t.2.1 :: .int .i64 t.2.2 :: conCells l := rfl
theorem conCells_len (l : List Cn) : (conCells l).length = l.length * 3 := by
  induction l with
  | nil => rfl
  | cons t r ih => rw [conCells_cons]; simp [ih]; omega
theorem conCells_append (a b : List Cn) : conCells (a ++ b) = conCells a ++ conCells b := by simp [conCells]
theorem conCells_one (l : List Cn) : ∀ u ∈ conCells l, u.oneCell' = true := by
  intro u hu
  simp only [conCells, List.mem_flatMap] at hu
  obtain ⟨t, _, ht⟩ := hu
  simp at ht
  rcases ht with rfl | rfl | rfl <;> rfl
theorem conCells_at (l : List Cn) (k : Nat) (hk : k < l.length) : (conCells l)[k * 3]? = some (.int .i64 (l.getD k (0, 0, 0)).1) ∧ (conCells l)[k * 3 + 1]? = some (.int .i64 (l.getD k (0, 0, 0)).2.1) ∧ (conCells l)[k * 3 + 2]? = some (.int .i64 (l.getD k (0, 0, 0)).2.2) := by
  induction l generalizing k with
  | nil => simp at hk
  | cons t r ih =>
    rw [conCells_cons]
    cases k with
    | zero => exact ⟨rfl, rfl, rfl⟩
    | succ k =>
      have h := ih k (by simpa using hk)
      rw [show (k + 1) * 3 = k * 3 + 1 + 1 + 1 by omega]
      exact h
/-- a row of the call's own, of constraints -/
abbrev OwnC (w : World) (base : Nat) (A : Option Addr) (n c : Nat) (l : List Cn) : Prop := w.ownsRow base 41 3 (.slice A n c) n (conCells l)
theorem OwnC.reads {w : World} {base : Nat} {A : Option Addr} {n c : Nat} {l : List Cn} (h : OwnC w base A n c l) : ConR w w.heap.size A n l := by
  have hl : l.length = n := by have := h.1; rw [conCells_len] at this; omega
  refine ⟨hl, fun hn => ?_⟩
  rcases h.2 with ⟨_, h0⟩ | ⟨g, cap, cur, hv, hb, hgg, h1, h2, h3, h4⟩
  · omega
  · injection hv with e1 e2 e3
    subst e1
    refine ⟨g, 0, rfl, (Array.getElem?_eq_some_iff.1 hgg).1, fun k hk => ?_⟩
    have hat := conCells_at l k (by omega)
    have c1 := h.cells (g := g) rfl (k * 3) _ hat.1
    have c2 := h.cells (g := g) rfl (k * 3 + 1) _ hat.2.1
    have c3 := h.cells (g := g) rfl (k * 3 + 2) _ hat.2.2
    rw [own_adds] at c1 c2 c3
    rw [Nat.zero_add]
    exact ⟨c1, c2, c3⟩
theorem info_con : (Tryz.prog.info? 41).map (fun i => (i.zero, i.size, i.bytes)) = some (some (.agg #[.int .i64 0, .int .i64 0, .int .i64 0]), 3, 24) := by kernel_rfl
end Go.Proofs.YtgebjnoicgmdoaaGreatDoor

namespace Go.Proofs.YtgebjnoicgmdoaaGreatDoor
open Go.RowKit
open Cs (Cn Tb)

theorem own_set {w : World} {base g n c size : Nat} {e : TypeId} {xs : List Value} (h : w.ownsRow base e size (.slice (some ⟨g, 0, none⟩) n c) n xs) (i : Nat) (u : Value) :
    (w.setCell ⟨g, i, none⟩ u).ownsRow base e size (.slice (some ⟨g, 0, none⟩) n c) n (xs.set i u) := by
  refine ⟨by rw [List.length_set]; exact h.1, ?_⟩
  rcases h.2 with ⟨h0, _⟩ | ⟨g', cap, cur, hv, hb, hgg, h1, h2, h3, h4⟩
  · cases h0
  · injection hv with e1 e2 e3
    injection e1 with e1
    injection e1 with e1
    subst e1; subst e3
    refine .inr ⟨g, c, _, rfl, hb, Blk.put (w := w) (t := e) hgg i u, h1, h2, by simp [h3], ?_⟩
    rw [Array.toList_setIfInBounds, List.take_set, h4]
/-- a row of a table -/
def rowL (d : Tb) (i : Nat) : List Int := (List.range 6).map fun j => d i j
theorem rowL_len (d : Tb) (i : Nat) : (rowL d i).length = 6 := by simp [rowL]
theorem rowL_get (d : Tb) (i : Nat) {j : Nat} (hj : j < 6) : (rowL d i).getD j 0 = d i j := by simp [rowL, List.getD_eq_getElem?_getD, hj]
theorem rowL_put (d : Tb) (i j : Nat) (x : Int) : (rowL d i).set j x = rowL (Cs.put d i j x) i := by
  apply List.ext_getElem (by simp [rowL])
  intro k h1 h2
  rw [List.getElem_set]
  by_cases e : j = k
  · subst e
    rw [if_pos rfl]
    simp [rowL, Cs.put]
  · rw [if_neg e]
    simp only [rowL, List.getElem_map, List.getElem_range]
    exact (Cs.put_other d x (fun h => e h.2.symm)).symm
theorem rowL_other (d : Tb) {i a : Nat} (h : a ≠ i) (j : Nat) (x : Int) : rowL (Cs.put d i j x) a = rowL d a := by
  unfold rowL
  apply List.map_congr_left
  intro k _
  exact Cs.put_other d x (fun e => h e.1)
/-- the rows of a table, as values -/
def rowVs (rw cp : Nat → Nat) (n : Nat) : List Value := (List.range n).map fun i => .slice (some ⟨rw i, 0, none⟩) 6 (cp i)
theorem rowVs_get (rw cp : Nat → Nat) {n i : Nat} (hi : i < n) : (rowVs rw cp n)[i]? = some (.slice (some ⟨rw i, 0, none⟩) 6 (cp i)) := by simp [rowVs, hi]
/-- the first n rows of a table -/
structure TabN (w : World) (base g cap n : Nat) (rw cp : Nat → Nat) (d : Tb) : Prop where
  out : w.ownsRow base 29 1 (.slice (some ⟨g, 0, none⟩) n cap) n (rowVs rw cp n)
  row : ∀ i, i < n → OwnI w base (some ⟨rw i, 0, none⟩) 6 (cp i) (rowL d i)
  inj : ∀ i j, i < n → j < n → rw i = rw j → i = j
theorem TabN.below {w w' : World} {base g cap n : Nat} {rw cp : Nat → Nat} {d : Tb} (h : TabN w base g cap n rw cp d) (hb : Below w.heap.size w w') : TabN w' base g cap n rw cp d :=
  ⟨own_below' h.out hb, fun i hi => own_below' (h.row i hi) hb, h.inj⟩
theorem TabN.head {w : World} {base g cap n : Nat} {rw cp : Nat → Nat} {d : Tb} (h : TabN w base g cap n rw cp d) {i : Nat} (hi : i < n) : w.cell? ⟨g, i, none⟩ = some (.slice (some ⟨rw i, 0, none⟩) 6 (cp i)) := by
  have := h.out.cells (g := g) rfl i _ (rowVs_get rw cp hi)
  rw [own_adds] at this
  exact this
theorem TabN.spot {w : World} {base g cap n : Nat} {rw cp : Nat → Nat} {d : Tb} (h : TabN w base g cap n rw cp d) {i j : Nat} (hi : i < n) (hj : j < 6) : w.cell? ⟨rw i, j, none⟩ = some (.int .i64 (d i j)) ∧ w.frozen? ⟨rw i, j, none⟩ = false := by
  have hr := h.row i hi
  obtain ⟨b, off, hA, _, hc⟩ := (OwnI.reads hr).2 (by omega)
  injection hA with e2
  injection e2 with e2 e3
  subst e2; subst e3
  have := hc j hj
  rw [Nat.zero_add, rowL_get d i hj] at this
  refine ⟨this, ?_⟩
  rcases hr.2 with ⟨h0, _⟩ | ⟨g', cap', cur, hv, _, hgg, _⟩
  · cases h0
  · injection hv with e1
    injection e1 with e1
    injection e1 with e1
    rw [e1]
    exact Blk.thawed (w := w) hgg j
theorem TabN.put {w : World} {base g cap n : Nat} {rw cp : Nat → Nat} {d : Tb} (h : TabN w base g cap n rw cp d) {i : Nat} (hi : i < n) (j : Nat) (x : Int) :
    TabN (w.setCell ⟨rw i, j, none⟩ (.int .i64 x)) base g cap n rw cp (Cs.put d i j x) := by
  have hr := h.row i hi
  obtain ⟨cs, hblk⟩ := own_blk hr (rw i) rfl
  have grown : w.grownBy (w.setCell ⟨rw i, j, none⟩ (.int .i64 x)) (some (rw i)) := ⟨rfl, rfl, rfl, by simp [World.setCell], fun k _ hk => Below.heap_setCell _ _ _ _ (fun e => hk (by rw [e]))⟩
  refine ⟨h.out.kept grown (.inr ?_), fun a ha => ?_, h.inj⟩
  · exact own_apart h.out hblk (by decide)
  · by_cases e : a = i
    · subst e
      have := own_set hr j (.int .i64 x)
      rw [← List.map_set, rowL_put d a j x] at this
      exact this
    · rw [rowL_other d e j x]
      refine (h.row a ha).kept grown (.inr fun e2 => ?_)
      have e3 : rw a = rw i := by simpa [Value.ownBlock] using e2
      exact e (h.inj a i ha hi e3)
theorem TabN.base {w : World} {base g cap n : Nat} {rw cp : Nat → Nat} {d : Tb} (h : TabN w base g cap n rw cp d) {i : Nat} (hi : i < n) : base ≤ rw i ∧ rw i < w.heap.size := (h.row i hi).lt (rw i) rfl
end Go.Proofs.YtgebjnoicgmdoaaGreatDoor
