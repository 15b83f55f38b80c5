/- The values of the nodes of an arena, one after the other. -/
/- What ArenaPut makes of a list of nodes and a level: token by token, with the places on a stack. -/
/- The levels of the nodes of an arena: written out whole, and as far as they are not too long. -/
/- A node moved: the program's moved. -/
import Derived.Test.YtfmhmnpmdjpmeaaDoorNdPtI
import Derived.Test.YtfmhmnpmdjpmeaaDoorNdOps

namespace Go.Proofs.YtfmhmnpmdjpmeaaDoor
open Go.RowKit

theorem ndOk_cases {o u a b : Int} {k : Nat} (h : ndOk (o, u, a, b) k = true) :
    (o = 0 ∧ u = 0 ∧ a = -1 ∧ b = -1) ∨ (o = 4 ∧ 0 ≤ u ∧ u < 5 ∧ a = -1 ∧ b = -1) ∨ (o = 1 ∧ u = 0 ∧ a = -1 ∧ 0 ≤ b ∧ b < k) ∨ ((o = 2 ∨ o = 3) ∧ u = 0 ∧ 0 ≤ a ∧ a < k ∧ 0 ≤ b ∧ b < k) := by
  unfold ndOk tokB at h
  by_cases h4 : o = 4
  · subst h4
    simp [tkA, tkB, opdB] at h
    omega
  · by_cases h1 : o = 1
    · subst h1
      simp [tkA, tkB, opdB] at h
      omega
    · by_cases h2 : o = 2
      · subst h2
        simp [tkA, tkB, opdB] at h
        omega
      · by_cases h3 : o = 3
        · subst h3
          simp [tkA, tkB, opdB] at h
          omega
        · simp [tkA, tkB, opdB, h1, h2, h3, h4] at h
          omega
theorem getD_all {l : List Int} {P : Int → Prop} (h : ∀ x ∈ l, P x) (h0 : P 0) (i : Nat) : P (l.getD i 0) := by
  rw [List.getD_eq_getElem?_getD]
  by_cases hi : i < l.length
  · rw [List.getElem?_eq_getElem hi]
    exact h _ (List.getElem_mem hi)
  · rw [List.getElem?_eq_none (by omega)]
    exact h0
/-- the value of a node, given those of the nodes before it -/
def nodeV (env vals : List Int) (o u a b : Int) : Int :=
  if o = 4 then env.getD u.toNat 0 else if o = 1 then vals.getD b.toNat 0 + 1 else if o = 2 then max (vals.getD a.toNat 0) (vals.getD b.toNat 0)
  else if o = 3 then (if vals.getD b.toNat 0 = 0 then 0 else max (vals.getD a.toNat 0) (vals.getD b.toNat 0)) else 0
def avR (env : List Int) (l : List Nd) : Nat → List Int
  | 0 => []
  | k + 1 => avR env l k ++ [nodeV env (avR env l k) (l.getD k nd0).1 (l.getD k nd0).2.1 (l.getD k nd0).2.2.1 (l.getD k nd0).2.2.2]
theorem avR_len (env : List Int) (l : List Nd) : ∀ k, (avR env l k).length = k
  | 0 => rfl
  | k + 1 => by rw [avR, List.length_append, avR_len env l k]; rfl
theorem nodeV_bd {env vals : List Int} {o u a b M : Int} (hM : 1000 ≤ M) (he : ∀ x ∈ env, 0 ≤ x ∧ x ≤ 1000) (hv : ∀ x ∈ vals, 0 ≤ x ∧ x ≤ M) : 0 ≤ nodeV env vals o u a b ∧ nodeV env vals o u a b ≤ M + 1 := by
  have e1 := getD_all he (by omega) u.toNat
  have v1 := getD_all hv (by omega) a.toNat
  have v2 := getD_all hv (by omega) b.toNat
  unfold nodeV
  split
  · omega
  · split
    · omega
    · split
      · omega
      · split
        · split <;> omega
        · omega
theorem avR_bd {env : List Int} (he : ∀ x ∈ env, 0 ≤ x ∧ x ≤ 1000) (l : List Nd) : ∀ k : Nat, ∀ x ∈ avR env l k, 0 ≤ x ∧ x ≤ 1000 + (k : Int)
  | 0, x, hx => by cases hx
  | k + 1, x, hx => by
    rw [avR, List.mem_append] at hx
    rcases hx with hx | hx
    · have := avR_bd he l k x hx
      omega
    · simp only [List.mem_singleton] at hx
      have := nodeV_bd (M := 1000 + (k : Int)) (o := (l.getD k nd0).1) (u := (l.getD k nd0).2.1) (a := (l.getD k nd0).2.2.1) (b := (l.getD k nd0).2.2.2) (by omega) he (avR_bd he l k)
      rw [← hx] at this
      omega
theorem avR_get {env : List Int} (l : List Nd) (j k : Nat) (h : j < k) : (avR env l k).getD j 0 = (avR env l (j + 1)).getD j 0 := by
  induction k with
  | zero => omega
  | succ k ih =>
    by_cases e : j = k
    · subst e; rfl
    · rw [avR, List.getD_eq_getElem?_getD, List.getElem?_append_left (by rw [avR_len]; omega), ← List.getD_eq_getElem?_getD]
      exact ih (by omega)
/-- what ArenaEval answers -/
def aevR (l : List Nd) (n : Nat) (x : Int) (env : List Int) : Option Int := if (arenaOkR l && idxR n [x] && envOk env) = true then some ((avR env l (x.toNat + 1)).getD x.toNat 0) else none
/-- the step of the machine's stack at a node -/
theorem nodeV_step {env vals : List Int} {o u a b : Int} {k : Nat} (h : ndOk (o, u, a, b) k = true) :
    Lv.step env (o, u) (((opsR a b).map fun x => vals.getD x.toNat 0).reverse) = some [nodeV env vals o u a b] := by
  rcases ndOk_cases h with ⟨rfl, rfl, rfl, rfl⟩ | ⟨rfl, h0, h1, rfl, rfl⟩ | ⟨rfl, rfl, rfl, h0, h1⟩ | ⟨ho, rfl, h0, h1, h2, h3⟩
  · simp [opsTo, opP, Lv.step, Lv.tkOk, nodeV]
  · simp [opsTo, opP, Lv.step, Lv.tkOk, nodeV, h0, h1]
  · have hb : ¬ b = -1 := by omega
    simp [opsTo, opP, Lv.step, Lv.tkOk, nodeV, hb]
  · have ha : ¬ a = -1 := by omega
    have hb : ¬ b = -1 := by omega
    rcases ho with rfl | rfl
    · simp [opsTo, opP, Lv.step, Lv.tkOk, nodeV, ha, hb]
    · simp [opsTo, opP, Lv.step, Lv.tkOk, nodeV, ha, hb]
      try (split <;> simp_all)
end Go.Proofs.YtfmhmnpmdjpmeaaDoor

namespace Go.Proofs.YtfmhmnpmdjpmeaaDoor
open Go.RowKit

def tkN (op : Int) : Nat := if op = 1 then 1 else if op = 2 ∨ op = 3 then 2 else 0
/-- the node of a token, over the places on the stack (its top first) -/
def putNd (t : Int × Int) (st : List Int) : Nd :=
  if t.1 = 1 then (t.1, t.2, -1, st.getD 0 0) else if t.1 = 2 ∨ t.1 = 3 then (t.1, t.2, st.getD 1 0, st.getD 0 0) else (t.1, t.2, -1, -1)
def addNd (ns : List Nd) (x : Nd) : List Nd := if x ∈ ns then ns else ns ++ [x]
def putS (ns : List Nd) (st : List Int) (t : Int × Int) : List Nd × List Int := (addNd ns (putNd t st), ((ns.idxOf (putNd t st) : Nat) : Int) :: st.drop (tkN t.1))
def putTo (ns : List Nd) (l : List (Int × Int)) : Nat → List Nd × List Int
  | 0 => (ns, [])
  | k + 1 => putS (putTo ns l k).1 (putTo ns l k).2 (l.getD k (0, 0))
def putOk (ns : List Nd) (l : List (Int × Int)) : Bool := arenaOkR ns && Lv.levelOk l && decide ((putTo ns l l.length).1.length ≤ 200)
def putNs (ns : List Nd) (l : List (Int × Int)) : List Nd := if putOk ns l = true then (putTo ns l l.length).1 else []
def putIx (ns : List Nd) (l : List (Int × Int)) : Int := if putOk ns l = true then (putTo ns l l.length).2.getD 0 0 else 0

theorem takes_tkN (op : Int) : Lv.takes op = (tkN op : Int) := by
  unfold Lv.takes tkN
  split
  · rfl
  · split <;> rfl
theorem addNd_len (ns : List Nd) (x : Nd) : ns.length ≤ (addNd ns x).length ∧ (addNd ns x).length ≤ ns.length + 1 := by
  unfold addNd
  split <;> simp
theorem addNd_idx (ns : List Nd) (x : Nd) : ns.idxOf x < (addNd ns x).length := by
  unfold addNd
  split
  · rename_i h
    exact List.idxOf_lt_length_of_mem h
  · rename_i h
    rw [List.idxOf_eq_length h]
    simp
theorem addNd_pre (ns : List Nd) (x : Nd) : ∃ m, addNd ns x = ns ++ m := by
  unfold addNd
  split
  · exact ⟨[], (List.append_nil _).symm⟩
  · exact ⟨[x], rfl⟩
theorem tok_take {l : List (Int × Int)} {k : Nat} (hk : k < l.length) : l.take (k + 1) = l.take k ++ [l.getD k (0, 0)] := by
  rw [List.take_add_one, List.getElem?_eq_getElem hk]
  simp [List.getD_eq_getElem?_getD, hk]
theorem put_hts {ns : List Nd} {l : List (Int × Int)} (hok : Lv.levelOk l = true) : ∀ k, k ≤ l.length → Lv.hts (l.take k) 0 = some ((putTo ns l k).2.length : Int) ∧ (k < l.length → Lv.tkOk (l.getD k (0, 0)) = true ∧ tkN (l.getD k (0, 0)).1 ≤ (putTo ns l k).2.length) := by
  simp only [Lv.levelOk, Bool.and_eq_true, decide_eq_true_eq] at hok
  have hstep : ∀ k, k < l.length → Lv.hts (l.take k) 0 = some ((putTo ns l k).2.length : Int) → Lv.tkOk (l.getD k (0, 0)) = true ∧ tkN (l.getD k (0, 0)).1 ≤ (putTo ns l k).2.length := by
    intro k hk h
    have h1 := hok.2
    rw [← List.take_append_drop (k + 1) l, Lv.hts_append, tok_take hk, Lv.hts_append, h, Option.bind_some] at h1
    simp only [Lv.hts] at h1
    rw [takes_tkN] at h1
    split at h1
    · rename_i hc
      exact ⟨hc.1, by have := hc.2; omega⟩
    · cases h1
  intro k
  induction k with
  | zero => exact fun _ => ⟨rfl, fun hk => hstep 0 hk rfl⟩
  | succ k ih =>
    intro hk
    obtain ⟨h1, h2⟩ := ih (by omega)
    obtain ⟨h3, h4⟩ := h2 (by omega)
    have h5 : Lv.hts (l.take (k + 1)) 0 = some ((putTo ns l (k + 1)).2.length : Int) := by
      rw [tok_take (by omega), Lv.hts_append, h1, Option.bind_some]
      simp only [Lv.hts]
      rw [takes_tkN, if_pos ⟨h3, by omega⟩]
      simp only [putTo, putS, List.length_cons, List.length_drop]
      congr 1
      omega
    exact ⟨h5, fun hk' => hstep (k + 1) hk' h5⟩
theorem put_step {ns : List Nd} {l : List (Int × Int)} (hok : Lv.levelOk l = true) {k : Nat} (hk : k < l.length) : Lv.tkOk (l.getD k (0, 0)) = true ∧ tkN (l.getD k (0, 0)).1 ≤ (putTo ns l k).2.length := (put_hts hok k (by omega)).2 hk
theorem put_last {ns : List Nd} {l : List (Int × Int)} (hok : Lv.levelOk l = true) : (putTo ns l l.length).2.length = 1 := by
  have h := (put_hts (ns := ns) hok l.length (Nat.le_refl _)).1
  rw [List.take_length] at h
  simp only [Lv.levelOk, Bool.and_eq_true, decide_eq_true_eq] at hok
  rw [hok.2] at h
  injection h with h
  omega
theorem put_len (ns : List Nd) (l : List (Int × Int)) : ∀ k, ns.length ≤ (putTo ns l k).1.length ∧ (putTo ns l k).1.length ≤ ns.length + k ∧ (putTo ns l k).2.length ≤ k
  | 0 => ⟨Nat.le_refl _, Nat.le_refl _, Nat.le_refl _⟩
  | k + 1 => by
    have h := put_len ns l k
    have h2 := addNd_len (putTo ns l k).1 (putNd (l.getD k (0, 0)) (putTo ns l k).2)
    simp only [putTo, putS, List.length_cons, List.length_drop]
    omega
theorem put_bd (ns : List Nd) (l : List (Int × Int)) : ∀ k, ∀ e ∈ (putTo ns l k).2, 0 ≤ e ∧ e < ((putTo ns l k).1.length : Int)
  | 0, e, he => by cases he
  | k + 1, e, he => by
    have h2 := addNd_len (putTo ns l k).1 (putNd (l.getD k (0, 0)) (putTo ns l k).2)
    have h3 := addNd_idx (putTo ns l k).1 (putNd (l.getD k (0, 0)) (putTo ns l k).2)
    simp only [putTo, putS, List.mem_cons] at he
    simp only [putTo, putS]
    rcases he with rfl | he
    · omega
    · have := put_bd ns l k e (List.mem_of_mem_drop he)
      omega
theorem getD_mem_in {st : List Int} {i : Nat} (h : i < st.length) : st.getD i 0 ∈ st := by
  rw [List.getD_eq_getElem?_getD, List.getElem?_eq_getElem h]
  exact List.getElem_mem h
/-- the node of a token is right at the place that comes next -/
theorem putNd_ok {t : Int × Int} {st : List Int} {m : Nat} (ht : Lv.tkOk t = true) (hst : tkN t.1 ≤ st.length) (hb : ∀ e ∈ st, 0 ≤ e ∧ e < (m : Int)) : ndOk (putNd t st) m = true := by
  obtain ⟨op, N⟩ := t
  have ht' := ht
  simp [Lv.tkOk] at ht'
  rcases Lv.tk_cases ht with e | e | e | e | e <;> simp only at e <;> subst e
  · simp [putNd, ndOk, tokB, opdB, tkA, tkB]
    omega
  · have h0 := hb _ (getD_mem_in (st := st) (i := 0) (by simp [tkN] at hst; omega))
    have hN : N = 0 := by omega
    subst hN
    rw [show putNd (1, 0) st = (1, 0, -1, st.getD 0 0) from rfl]
    simp only [ndOk, tokB, opdB, tkA, tkB]
    simp only [List.getD_eq_getElem?_getD] at h0 ⊢
    simp
    omega
  · have h0 := hb _ (getD_mem_in (st := st) (i := 0) (by simp [tkN] at hst; omega))
    have h1 := hb _ (getD_mem_in (st := st) (i := 1) (by simp [tkN] at hst; omega))
    have hN : N = 0 := by omega
    subst hN
    rw [show putNd (2, 0) st = (2, 0, st.getD 1 0, st.getD 0 0) from rfl]
    simp only [ndOk, tokB, opdB, tkA, tkB]
    simp only [List.getD_eq_getElem?_getD] at h0 h1 ⊢
    simp
    omega
  · have h0 := hb _ (getD_mem_in (st := st) (i := 0) (by simp [tkN] at hst; omega))
    have h1 := hb _ (getD_mem_in (st := st) (i := 1) (by simp [tkN] at hst; omega))
    have hN : N = 0 := by omega
    subst hN
    rw [show putNd (3, 0) st = (3, 0, st.getD 1 0, st.getD 0 0) from rfl]
    simp only [ndOk, tokB, opdB, tkA, tkB]
    simp only [List.getD_eq_getElem?_getD] at h0 h1 ⊢
    simp
    omega
  · simp [putNd, ndOk, tokB, opdB, tkA, tkB]
    omega
theorem put_nd {ns : List Nd} {l : List (Int × Int)} (hok : Lv.levelOk l = true) {k : Nat} (hk : k < l.length) : ndOk (putNd (l.getD k (0, 0)) (putTo ns l k).2) (putTo ns l k).1.length = true :=
  putNd_ok (put_step (ns := ns) hok hk).1 (put_step (ns := ns) hok hk).2 (put_bd ns l k)
end Go.Proofs.YtfmhmnpmdjpmeaaDoor

namespace Go.Proofs.YtfmhmnpmdjpmeaaDoor
open Go.RowKit

abbrev Tks := List (Int × Int)
def lvlT (vals : List Tks) (o u a b : Int) : Tks := ((opsR a b).flatMap fun z => vals.getD z.toNat []) ++ [(o, u)]
def lvlV (vals : List Tks) (o u a b : Int) : Tks := if Lv.levelOk (lvlT vals o u a b) = true then lvlT vals o u a b else []
/-- the levels of the first k nodes, each written out whole -/
def flR (l : List Nd) : Nat → List Tks
  | 0 => []
  | k + 1 => flR l k ++ [lvlT (flR l k) (l.getD k nd0).1 (l.getD k nd0).2.1 (l.getD k nd0).2.2.1 (l.getD k nd0).2.2.2]
/-- .. none where it is too long -/
def lvR (l : List Nd) : Nat → List Tks
  | 0 => []
  | k + 1 => lvR l k ++ [lvlV (lvR l k) (l.getD k nd0).1 (l.getD k nd0).2.1 (l.getD k nd0).2.2.1 (l.getD k nd0).2.2.2]
theorem flR_len (l : List Nd) : ∀ k, (flR l k).length = k
  | 0 => rfl
  | k + 1 => by rw [flR, List.length_append, flR_len l k]; rfl
theorem lvR_len (l : List Nd) : ∀ k, (lvR l k).length = k
  | 0 => rfl
  | k + 1 => by rw [lvR, List.length_append, lvR_len l k]; rfl
def flN (l : List Nd) (j : Nat) : Tks := (flR l (j + 1)).getD j []
def lvN (l : List Nd) (j : Nat) : Tks := (lvR l (j + 1)).getD j []
theorem flR_get (l : List Nd) (j k : Nat) (h : j < k) : (flR l k).getD j [] = flN l j := by
  induction k with
  | zero => omega
  | succ k ih =>
    by_cases e : j = k
    · subst e; rfl
    · rw [flR, List.getD_eq_getElem?_getD, List.getElem?_append_left (by rw [flR_len]; omega), ← List.getD_eq_getElem?_getD]
      exact ih (by omega)
theorem lvR_get (l : List Nd) (j k : Nat) (h : j < k) : (lvR l k).getD j [] = lvN l j := by
  induction k with
  | zero => omega
  | succ k ih =>
    by_cases e : j = k
    · subst e; rfl
    · rw [lvR, List.getD_eq_getElem?_getD, List.getElem?_append_left (by rw [lvR_len]; omega), ← List.getD_eq_getElem?_getD]
      exact ih (by omega)
theorem last_getD {α : Type} (l : List α) (x d : α) (k : Nat) (h : l.length = k) : (l ++ [x]).getD k d = x := by
  rw [List.getD_eq_getElem?_getD, List.getElem?_append_right (by omega), h]
  simp
theorem flN_eq (l : List Nd) (k : Nat) : flN l k = lvlT (flR l k) (l.getD k nd0).1 (l.getD k nd0).2.1 (l.getD k nd0).2.2.1 (l.getD k nd0).2.2.2 := by
  unfold flN
  rw [flR]
  exact last_getD _ _ _ _ (flR_len l k)
theorem lvN_eq (l : List Nd) (k : Nat) : lvN l k = lvlV (lvR l k) (l.getD k nd0).1 (l.getD k nd0).2.1 (l.getD k nd0).2.2.1 (l.getD k nd0).2.2.2 := by
  unfold lvN
  rw [lvR]
  exact last_getD _ _ _ _ (lvR_len l k)
theorem hts_add : ∀ (l : Tks) (n m d : Int), 0 ≤ d → Lv.hts l n = some m → Lv.hts l (n + d) = some (m + d)
  | [], n, m, d, _, h => by simp only [Lv.hts, Option.some.injEq] at h ⊢; omega
  | t :: r, n, m, d, hd, h => by
    simp only [Lv.hts] at h ⊢
    split at h
    · rename_i hc
      rw [if_pos ⟨hc.1, by have := hc.2; omega⟩]
      have := hts_add r _ m d hd h
      rw [show n + d - Lv.takes t.1 + 1 = n - Lv.takes t.1 + 1 + d by omega]
      exact this
    · cases h
theorem lvlOk_iff (t : Tks) : Lv.levelOk t = true ↔ 1 ≤ t.length ∧ t.length ≤ 24 ∧ Lv.hts t 0 = some 1 := by
  simp only [Lv.levelOk, Bool.and_eq_true, decide_eq_true_eq, and_assoc]
/-- the tokens of a node over what its operands have -/
theorem lvlT_cases {vals : List Tks} {o u a b : Int} {k : Nat} (h : ndOk (o, u, a, b) k = true) :
    ((o = 0 ∨ o = 4) ∧ lvlT vals o u a b = [(o, u)] ∧ Lv.tkOk (o, u) = true) ∨ (o = 1 ∧ u = 0 ∧ b.toNat < k ∧ lvlT vals o u a b = vals.getD b.toNat [] ++ [(1, 0)]) ∨
    ((o = 2 ∨ o = 3) ∧ u = 0 ∧ a.toNat < k ∧ b.toNat < k ∧ lvlT vals o u a b = vals.getD a.toNat [] ++ (vals.getD b.toNat [] ++ [(o, 0)])) := by
  rcases ndOk_cases h with ⟨rfl, rfl, rfl, rfl⟩ | ⟨rfl, h0, h1, rfl, rfl⟩ | ⟨rfl, rfl, rfl, h0, h1⟩ | ⟨ho, rfl, h0, h1, h2, h3⟩
  · exact .inl ⟨.inl rfl, rfl, rfl⟩
  · exact .inl ⟨.inr rfl, rfl, by simp [Lv.tkOk]; omega⟩
  · have hb : ¬ b = -1 := by omega
    refine .inr (.inl ⟨rfl, rfl, by omega, ?_⟩)
    simp [lvlT, opsTo, opP, hb]
  · have ha : ¬ a = -1 := by omega
    have hb : ¬ b = -1 := by omega
    refine .inr (.inr ⟨ho, rfl, by omega, by omega, ?_⟩)
    simp [lvlT, opsTo, opP, ha, hb]
theorem hts_snoc (t : Tks) (o : Int) {m : Int} (ho : o = 1 ∨ o = 2 ∨ o = 3) (h : Lv.hts t 0 = some m) (hm : Lv.takes o ≤ m) : Lv.hts (t ++ [(o, 0)]) 0 = some (m - Lv.takes o + 1) := by
  have hk : Lv.tkOk (o, 0) = true := by rcases ho with rfl | rfl | rfl <;> rfl
  rw [Lv.hts_append, h, Option.bind_some]
  simp only [Lv.hts]
  rw [if_pos ⟨hk, hm⟩]
theorem hts_short (t : Tks) (o : Int) {m : Int} (h : Lv.hts t 0 = some m) (hm : m < Lv.takes o) : Lv.hts (t ++ [(o, 0)]) 0 = none := by
  rw [Lv.hts_append, h, Option.bind_some]
  simp only [Lv.hts]
  rw [if_neg (by rintro ⟨_, h⟩; omega)]
/-- each node's level, written out whole, leaves one number; where it is not too long it is what the program has -/
theorem fl_lv {l : List Nd} {n : Nat} (hall : NdAll l n) : ∀ k, k < n → Lv.hts (flN l k) 0 = some 1 ∧ 1 ≤ (flN l k).length ∧ lvN l k = if (flN l k).length ≤ 24 then flN l k else [] := by
  intro k
  induction k using Nat.strongRecOn with
  | ind k ih =>
    intro hk
    have hok := (hall k hk).1
    obtain ⟨t, ht⟩ : ∃ t, l.getD k nd0 = t := ⟨_, rfl⟩
    have hf := flN_eq l k
    have hv := lvN_eq l k
    rw [ht] at hok hf hv
    obtain ⟨o, u, a, b⟩ := t
    simp only at hf hv
    unfold lvlV at hv
    rcases lvlT_cases (vals := flR l k) hok with ⟨ho, e1, htk⟩ | ⟨rfl, rfl, hb, e1⟩ | ⟨ho, rfl, ha, hb, e1⟩
    · rcases lvlT_cases (vals := lvR l k) hok with ⟨_, e2, _⟩ | ⟨rfl, _⟩ | ⟨rfl | rfl, _⟩
      · rw [e1] at hf
        rw [e2] at hv
        have h1 : Lv.hts [(o, u)] 0 = some 1 := by
          simp only [Lv.hts]
          rw [if_pos ⟨htk, by rcases ho with rfl | rfl <;> decide⟩]
          rcases ho with rfl | rfl <;> rfl
        rw [hf]
        refine ⟨h1, by simp, ?_⟩
        rw [hv, if_pos ((lvlOk_iff _).2 ⟨by simp, by simp, h1⟩), if_pos (by simp)]
      · rcases ho with h | h <;> cases h
      · rcases ho with h | h <;> cases h
      · rcases ho with h | h <;> cases h
    · rcases lvlT_cases (vals := lvR l k) hok with ⟨h | h, _⟩ | ⟨_, _, _, e2⟩ | ⟨h | h, _⟩
      · cases h
      · cases h
      · obtain ⟨h1, h2, h3⟩ := ih _ hb (by omega)
        rw [flR_get l _ k hb] at e1
        rw [lvR_get l _ k hb] at e2
        rw [e1] at hf
        rw [e2] at hv
        have hh : Lv.hts (flN l b.toNat ++ [(1, 0)]) 0 = some 1 := hts_snoc _ 1 (.inl rfl) h1 (by decide)
        rw [hf]
        refine ⟨hh, by simp, ?_⟩
        rw [hv, h3]
        by_cases hlen : (flN l b.toNat).length ≤ 24
        · rw [if_pos hlen]
          by_cases hl2 : (flN l b.toNat ++ [(1, 0)]).length ≤ 24
          · rw [if_pos ((lvlOk_iff _).2 ⟨by simp, hl2, hh⟩), if_pos hl2]
          · rw [if_neg (fun hc => hl2 ((lvlOk_iff _).1 hc).2.1), if_neg hl2]
        · rw [if_neg hlen, if_neg (fun hc => by have := ((lvlOk_iff _).1 hc).2.2; rw [hts_short [] 1 rfl (by decide)] at this; cases this), if_neg (by simp; omega)]
      · cases h
      · cases h
    · rcases lvlT_cases (vals := lvR l k) hok with ⟨h | h, _⟩ | ⟨rfl, _⟩ | ⟨_, _, _, _, e2⟩
      · rcases ho with e | e <;> omega
      · rcases ho with e | e <;> omega
      · rcases ho with h | h <;> cases h
      · obtain ⟨h1, h2, h3⟩ := ih _ ha (by omega)
        obtain ⟨p1, p2, p3⟩ := ih _ hb (by omega)
        rw [flR_get l _ k ha, flR_get l _ k hb] at e1
        rw [lvR_get l _ k ha, lvR_get l _ k hb] at e2
        rw [e1] at hf
        rw [e2] at hv
        have ht2 : Lv.takes o = 2 := by rcases ho with rfl | rfl <;> rfl
        have hab : Lv.hts (flN l a.toNat ++ flN l b.toNat) 0 = some 2 := by
          rw [Lv.hts_append, h1, Option.bind_some]
          exact hts_add _ 0 1 1 (by omega) p1
        have hh : Lv.hts (flN l a.toNat ++ (flN l b.toNat ++ [(o, 0)])) 0 = some 1 := by
          rw [← List.append_assoc]
          have := hts_snoc _ o (.inr ho) hab (by omega)
          rw [ht2] at this
          exact this
        have hge : 1 ≤ (flN l a.toNat ++ (flN l b.toNat ++ [(o, 0)])).length := by simp; omega
        have hbad : ∀ t : Tks, Lv.hts t 0 = some 1 → Lv.hts (t ++ [(o, 0)]) 0 = none := fun t h => hts_short t o h (by omega)
        have hbad0 : Lv.hts ([] ++ [(o, 0)]) 0 = none := hts_short [] o (m := 0) rfl (by omega)
        rw [hf]
        refine ⟨hh, hge, ?_⟩
        rw [hv, h3, p3]
        by_cases hla : (flN l a.toNat).length ≤ 24
        · rw [if_pos hla]
          by_cases hlb : (flN l b.toNat).length ≤ 24
          · rw [if_pos hlb]
            by_cases hl2 : (flN l a.toNat ++ (flN l b.toNat ++ [(o, 0)])).length ≤ 24
            · rw [if_pos ((lvlOk_iff _).2 ⟨hge, hl2, hh⟩), if_pos hl2]
            · rw [if_neg (fun hc => hl2 ((lvlOk_iff _).1 hc).2.1), if_neg hl2]
          · rw [if_neg hlb, if_neg (fun hc => by have := ((lvlOk_iff _).1 hc).2.2; rw [List.nil_append, hbad _ h1] at this; cases this), if_neg (by simp; omega)]
        · rw [if_neg hla]
          by_cases hlb : (flN l b.toNat).length ≤ 24
          · rw [if_pos hlb, if_neg (fun hc => by have := ((lvlOk_iff _).1 hc).2.2; rw [List.nil_append, hbad _ p1] at this; cases this), if_neg (by simp; omega)]
          · rw [if_neg hlb, if_neg (fun hc => by have := ((lvlOk_iff _).1 hc).2.2; rw [List.nil_append, hbad0] at this; cases this), if_neg (by simp; omega)]
/-- what ArenaLevel answers -/
def alvR (l : List Nd) (n : Nat) (x : Int) : Option Tks := if (arenaOkR l && idxR n [x]) = true then (if (flN l x.toNat).length ≤ 24 then some (flN l x.toNat) else none) else none
end Go.Proofs.YtfmhmnpmdjpmeaaDoor

namespace Go.Proofs.YtfmhmnpmdjpmeaaDoor
open Go.RowKit

/-- an operand at its new index -/
def mvOp (t : Bool) (is : List Int) (x : Int) : Int := if t = true then is.getD x.toNat 0 else x
set_option maxRecDepth 100000 in
set_option maxHeartbeats 4000000 in
theorem moved_any (w : World) (B : Nat) (A : Option Addr) (n c : Nat) (is : List Int) (o u a b : Int) (hB : B ≤ w.heap.size) (his : IntR w B A n is) (ha : tkA o = true → 0 ≤ a ∧ a < n) (hb : tkB o = true → 0 ≤ b ∧ b < n) (hn : n ≤ 1048576) :
    Calls Tryd.prog 84 #[.agg #[.int .i64 o, .int .i64 u, .int .i64 a, .int .i64 b], .slice A n c] w fun e w' => e = .returned (.agg #[.int .i64 o, .int .i64 u, .int .i64 (mvOp (tkA o) is a), .int .i64 (mvOp (tkB o) is b)]) ∧ Below w.heap.size w w' := by
  have HBB : Hid (∀ X Y, Below w.heap.size w ((w.alloc X).alloc Y)) := fun X Y => ((Below.refl _ _).alloc (Nat.le_refl _) _).alloc (by simp) _
  have hcell : ∀ p : Nat, p < n → ∃ b2 off, A = some ⟨b2, off, none⟩ ∧ ∀ X Y, ((w.alloc X).alloc Y).cell? ⟨b2, off + p, none⟩ = some (.int .i64 (is.getD p 0)) := by
    intro p hp
    obtain ⟨b2, off, rfl, hlt, hc⟩ := his.2 (by omega)
    exact ⟨b2, off, rfl, fun X Y => ((HBB.out X Y).cell (p := ⟨b2, off + p, none⟩) (by show b2 < _; omega)).trans (hc p hp)⟩
  clear his
  cases hA : tkA o with
  | true =>
    have hB2 : tkB o = true := by unfold tkB; rw [hA]; simp
    obtain ⟨p, rfl⟩ : ∃ p : Nat, a = p := ⟨a.toNat, by have := ha hA; omega⟩
    obtain ⟨q, rfl⟩ : ∃ q : Nat, b = q := ⟨b.toNat, by have := hb hB2; omega⟩
    have hp : p < n := by have := ha hA; omega
    have hq : q < n := by have := hb hB2; omega
    have hp' : (p : Int) < n := by omega
    have hq' : (q : Int) < n := by omega
    obtain ⟨b2, off, rfl, kp⟩ := hcell p hp
    obtain ⟨b3, off3, e3, kq⟩ := hcell q hq
    injection e3 with e3
    injection e3 with e3 e4
    subst e3; subst e4
    have HR1 : Hid (mvOp true is (p : Int) = is.getD p 0) := by show _ = _; simp [mvOp]
    have HR2 : Hid (mvOp true is (q : Int) = is.getD q 0) := by show _ = _; simp [mvOp]
    have HAA := Lib.hid hA
    have HBO := Lib.hid hB2
    obtain ⟨x, hx⟩ : ∃ x, is.getD p 0 = x := ⟨_, rfl⟩
    obtain ⟨y, hy⟩ : ∃ y, is.getD q 0 = y := ⟨_, rfl⟩
    rw [hx] at kp HR1
    rw [hy] at kq HR2
    rw [hB2]
    clear hcell ha hb hA hB2 hx hy
    go_enter Tryd.func84, Tryd.ntmps84
    go_wp2_with fail
    refine (takesA_any _ o).mono ?_
    rintro e w1 ⟨rfl, rfl⟩
    rw [HAA.out]
    go_wp2_with fail
    refine (takesB_any _ o).mono ?_
    rintro e w1 ⟨rfl, rfl⟩
    rw [HBO.out]
    go_wp2
    exact bodyPost_ret (v := .agg #[.int .i64 o, .int .i64 u, .int .i64 x, .int .i64 y]) (by simp [results, Tryd.results84, go_sem]) rfl ⟨by rw [HR1.out, HR2.out], HBB.out _ _⟩
  | false =>
    have HAA := Lib.hid hA
    clear hA ha
    cases hB2 : tkB o with
    | true =>
      obtain ⟨q, rfl⟩ : ∃ q : Nat, b = q := ⟨b.toNat, by have := hb hB2; omega⟩
      have hq : q < n := by have := hb hB2; omega
      have hq' : (q : Int) < n := by omega
      obtain ⟨b2, off, rfl, kq⟩ := hcell q hq
      have HR2 : Hid (mvOp true is (q : Int) = is.getD q 0) := by show _ = _; simp [mvOp]
      have HBO := Lib.hid hB2
      obtain ⟨y, hy⟩ : ∃ y, is.getD q 0 = y := ⟨_, rfl⟩
      rw [hy] at kq HR2
      clear hcell hb hB2 hy
      go_enter Tryd.func84, Tryd.ntmps84
      go_wp2_with fail
      refine (takesA_any _ o).mono ?_
      rintro e w1 ⟨rfl, rfl⟩
      rw [HAA.out]
      go_wp2_with fail
      refine (takesB_any _ o).mono ?_
      rintro e w1 ⟨rfl, rfl⟩
      rw [HBO.out]
      go_wp2
      exact bodyPost_ret (v := .agg #[.int .i64 o, .int .i64 u, .int .i64 a, .int .i64 y]) (by simp [results, Tryd.results84, go_sem]) rfl ⟨by rw [HR2.out]; rfl, HBB.out _ _⟩
    | false =>
      have HBO := Lib.hid hB2
      clear hcell hb hB2
      go_enter Tryd.func84, Tryd.ntmps84
      go_wp2_with fail
      refine (takesA_any _ o).mono ?_
      rintro e w1 ⟨rfl, rfl⟩
      rw [HAA.out]
      go_wp2_with fail
      refine (takesB_any _ o).mono ?_
      rintro e w1 ⟨rfl, rfl⟩
      rw [HBO.out]
      go_wp2
      exact bodyPost_ret (v := .agg #[.int .i64 o, .int .i64 u, .int .i64 a, .int .i64 b]) (by simp [results, Tryd.results84, go_sem]) rfl ⟨rfl, HBB.out _ _⟩
end Go.Proofs.YtfmhmnpmdjpmeaaDoor
