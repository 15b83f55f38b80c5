/- The values of the nodes of an arena, one after the other. -/
/- What ArenaPut makes of a list of nodes and a level: token by token, with the places on a stack. -/
/- A node moved: the program's moved. -/
/- What is left of an arena: the mathematics. -/
/- ArenaKeep of the program: words and contracts ahead of the walk. -/
import Derived.Test.YtfmhmnpmdjpmeaaDoorNdPtI
import Derived.Test.YtfmhmnpmdjpmeaaDoorNdOps
import Derived.Test.YtfmhmnpmdjpmeaaDoorNdKeep

namespace Go.Proofs.YtfmhmnpmdjpmeaaDoor
open Go.RowKit

theorem ndOk_cases {o u a b : Int} {k : Nat} (h : ndOk (o, u, a, b) k = true) :
    (o = 0 ∧ u = 0 ∧ a = -1 ∧ b = -1) ∨ (o = 4 ∧ 0 ≤ u ∧ u < 5 ∧ a = -1 ∧ b = -1) ∨ (o = 1 ∧ u = 0 ∧ a = -1 ∧ 0 ≤ b ∧ b < k) ∨ ((o = 2 ∨ o = 3) ∧ u = 0 ∧ 0 ≤ a ∧ a < k ∧ 0 ≤ b ∧ b < k) := by
  unfold ndOk tokB at h
  by_cases h4 : o = 4
  · subst h4
    simp [tkA, tkB, opdB] at h
    omega
  · by_cases h1 : o = 1
    · subst h1
      simp [tkA, tkB, opdB] at h
      omega
    · by_cases h2 : o = 2
      · subst h2
        simp [tkA, tkB, opdB] at h
        omega
      · by_cases h3 : o = 3
        · subst h3
          simp [tkA, tkB, opdB] at h
          omega
        · simp [tkA, tkB, opdB, h1, h2, h3, h4] at h
          omega
theorem getD_all {l : List Int} {P : Int → Prop} (h : ∀ x ∈ l, P x) (h0 : P 0) (i : Nat) : P (l.getD i 0) := by
  rw [List.getD_eq_getElem?_getD]
  by_cases hi : i < l.length
  · rw [List.getElem?_eq_getElem hi]
    exact h _ (List.getElem_mem hi)
  · rw [List.getElem?_eq_none (by omega)]
    exact h0
/-- the value of a node, given those of the nodes before it -/
def nodeV (env vals : List Int) (o u a b : Int) : Int :=
  if o = 4 then env.getD u.toNat 0 else if o = 1 then vals.getD b.toNat 0 + 1 else if o = 2 then max (vals.getD a.toNat 0) (vals.getD b.toNat 0)
  else if o = 3 then (if vals.getD b.toNat 0 = 0 then 0 else max (vals.getD a.toNat 0) (vals.getD b.toNat 0)) else 0
def avR (env : List Int) (l : List Nd) : Nat → List Int
  | 0 => []
  | k + 1 => avR env l k ++ [nodeV env (avR env l k) (l.getD k nd0).1 (l.getD k nd0).2.1 (l.getD k nd0).2.2.1 (l.getD k nd0).2.2.2]
theorem avR_len (env : List Int) (l : List Nd) : ∀ k, (avR env l k).length = k
  | 0 => rfl
  | k + 1 => by rw [avR, List.length_append, avR_len env l k]; rfl
theorem nodeV_bd {env vals : List Int} {o u a b M : Int} (hM : 1000 ≤ M) (he : ∀ x ∈ env, 0 ≤ x ∧ x ≤ 1000) (hv : ∀ x ∈ vals, 0 ≤ x ∧ x ≤ M) : 0 ≤ nodeV env vals o u a b ∧ nodeV env vals o u a b ≤ M + 1 := by
  have e1 := getD_all he (by omega) u.toNat
  have v1 := getD_all hv (by omega) a.toNat
  have v2 := getD_all hv (by omega) b.toNat
  unfold nodeV
  split
  · omega
  · split
    · omega
    · split
      · omega
      · split
        · split <;> omega
        · omega
theorem avR_bd {env : List Int} (he : ∀ x ∈ env, 0 ≤ x ∧ x ≤ 1000) (l : List Nd) : ∀ k : Nat, ∀ x ∈ avR env l k, 0 ≤ x ∧ x ≤ 1000 + (k : Int)
  | 0, x, hx => by cases hx
  | k + 1, x, hx => by
    rw [avR, List.mem_append] at hx
    rcases hx with hx | hx
    · have := avR_bd he l k x hx
      omega
    · simp only [List.mem_singleton] at hx
      have := nodeV_bd (M := 1000 + (k : Int)) (o := (l.getD k nd0).1) (u := (l.getD k nd0).2.1) (a := (l.getD k nd0).2.2.1) (b := (l.getD k nd0).2.2.2) (by omega) he (avR_bd he l k)
      rw [← hx] at this
      omega
theorem avR_get {env : List Int} (l : List Nd) (j k : Nat) (h : j < k) : (avR env l k).getD j 0 = (avR env l (j + 1)).getD j 0 := by
  induction k with
  | zero => omega
  | succ k ih =>
    by_cases e : j = k
    · subst e; rfl
    · rw [avR, List.getD_eq_getElem?_getD, List.getElem?_append_left (by rw [avR_len]; omega), ← List.getD_eq_getElem?_getD]
      exact ih (by omega)
/-- what ArenaEval answers -/
def aevR (l : List Nd) (n : Nat) (x : Int) (env : List Int) : Option Int := if (arenaOkR l && idxR n [x] && envOk env) = true then some ((avR env l (x.toNat + 1)).getD x.toNat 0) else none
/-- the step of the machine's stack at a node -/
theorem nodeV_step {env vals : List Int} {o u a b : Int} {k : Nat} (h : ndOk (o, u, a, b) k = true) :
    Lv.step env (o, u) (((opsR a b).map fun x => vals.getD x.toNat 0).reverse) = some [nodeV env vals o u a b] := by
  rcases ndOk_cases h with ⟨rfl, rfl, rfl, rfl⟩ | ⟨rfl, h0, h1, rfl, rfl⟩ | ⟨rfl, rfl, rfl, h0, h1⟩ | ⟨ho, rfl, h0, h1, h2, h3⟩
  · simp [opsTo, opP, Lv.step, Lv.tkOk, nodeV]
  · simp [opsTo, opP, Lv.step, Lv.tkOk, nodeV, h0, h1]
  · have hb : ¬ b = -1 := by omega
    simp [opsTo, opP, Lv.step, Lv.tkOk, nodeV, hb]
  · have ha : ¬ a = -1 := by omega
    have hb : ¬ b = -1 := by omega
    rcases ho with rfl | rfl
    · simp [opsTo, opP, Lv.step, Lv.tkOk, nodeV, ha, hb]
    · simp [opsTo, opP, Lv.step, Lv.tkOk, nodeV, ha, hb]
      try (split <;> simp_all)
end Go.Proofs.YtfmhmnpmdjpmeaaDoor

namespace Go.Proofs.YtfmhmnpmdjpmeaaDoor
open Go.RowKit

def tkN (op : Int) : Nat := if op = 1 then 1 else if op = 2 ∨ op = 3 then 2 else 0
/-- the node of a token, over the places on the stack (its top first) -/
def putNd (t : Int × Int) (st : List Int) : Nd :=
  if t.1 = 1 then (t.1, t.2, -1, st.getD 0 0) else if t.1 = 2 ∨ t.1 = 3 then (t.1, t.2, st.getD 1 0, st.getD 0 0) else (t.1, t.2, -1, -1)
def addNd (ns : List Nd) (x : Nd) : List Nd := if x ∈ ns then ns else ns ++ [x]
def putS (ns : List Nd) (st : List Int) (t : Int × Int) : List Nd × List Int := (addNd ns (putNd t st), ((ns.idxOf (putNd t st) : Nat) : Int) :: st.drop (tkN t.1))
def putTo (ns : List Nd) (l : List (Int × Int)) : Nat → List Nd × List Int
  | 0 => (ns, [])
  | k + 1 => putS (putTo ns l k).1 (putTo ns l k).2 (l.getD k (0, 0))
def putOk (ns : List Nd) (l : List (Int × Int)) : Bool := arenaOkR ns && Lv.levelOk l && decide ((putTo ns l l.length).1.length ≤ 200)
def putNs (ns : List Nd) (l : List (Int × Int)) : List Nd := if putOk ns l = true then (putTo ns l l.length).1 else []
def putIx (ns : List Nd) (l : List (Int × Int)) : Int := if putOk ns l = true then (putTo ns l l.length).2.getD 0 0 else 0

theorem takes_tkN (op : Int) : Lv.takes op = (tkN op : Int) := by
  unfold Lv.takes tkN
  split
  · rfl
  · split <;> rfl
theorem addNd_len (ns : List Nd) (x : Nd) : ns.length ≤ (addNd ns x).length ∧ (addNd ns x).length ≤ ns.length + 1 := by
  unfold addNd
  split <;> simp
theorem addNd_idx (ns : List Nd) (x : Nd) : ns.idxOf x < (addNd ns x).length := by
  unfold addNd
  split
  · rename_i h
    exact List.idxOf_lt_length_of_mem h
  · rename_i h
    rw [List.idxOf_eq_length h]
    simp
theorem addNd_pre (ns : List Nd) (x : Nd) : ∃ m, addNd ns x = ns ++ m := by
  unfold addNd
  split
  · exact ⟨[], (List.append_nil _).symm⟩
  · exact ⟨[x], rfl⟩
theorem tok_take {l : List (Int × Int)} {k : Nat} (hk : k < l.length) : l.take (k + 1) = l.take k ++ [l.getD k (0, 0)] := by
  rw [List.take_add_one, List.getElem?_eq_getElem hk]
  simp [List.getD_eq_getElem?_getD, hk]
theorem put_hts {ns : List Nd} {l : List (Int × Int)} (hok : Lv.levelOk l = true) : ∀ k, k ≤ l.length → Lv.hts (l.take k) 0 = some ((putTo ns l k).2.length : Int) ∧ (k < l.length → Lv.tkOk (l.getD k (0, 0)) = true ∧ tkN (l.getD k (0, 0)).1 ≤ (putTo ns l k).2.length) := by
  simp only [Lv.levelOk, Bool.and_eq_true, decide_eq_true_eq] at hok
  have hstep : ∀ k, k < l.length → Lv.hts (l.take k) 0 = some ((putTo ns l k).2.length : Int) → Lv.tkOk (l.getD k (0, 0)) = true ∧ tkN (l.getD k (0, 0)).1 ≤ (putTo ns l k).2.length := by
    intro k hk h
    have h1 := hok.2
    rw [← List.take_append_drop (k + 1) l, Lv.hts_append, tok_take hk, Lv.hts_append, h, Option.bind_some] at h1
    simp only [Lv.hts] at h1
    rw [takes_tkN] at h1
    split at h1
    · rename_i hc
      exact ⟨hc.1, by have := hc.2; omega⟩
    · cases h1
  intro k
  induction k with
  | zero => exact fun _ => ⟨rfl, fun hk => hstep 0 hk rfl⟩
  | succ k ih =>
    intro hk
    obtain ⟨h1, h2⟩ := ih (by omega)
    obtain ⟨h3, h4⟩ := h2 (by omega)
    have h5 : Lv.hts (l.take (k + 1)) 0 = some ((putTo ns l (k + 1)).2.length : Int) := by
      rw [tok_take (by omega), Lv.hts_append, h1, Option.bind_some]
      simp only [Lv.hts]
      rw [takes_tkN, if_pos ⟨h3, by omega⟩]
      simp only [putTo, putS, List.length_cons, List.length_drop]
      congr 1
      omega
    exact ⟨h5, fun hk' => hstep (k + 1) hk' h5⟩
theorem put_step {ns : List Nd} {l : List (Int × Int)} (hok : Lv.levelOk l = true) {k : Nat} (hk : k < l.length) : Lv.tkOk (l.getD k (0, 0)) = true ∧ tkN (l.getD k (0, 0)).1 ≤ (putTo ns l k).2.length := (put_hts hok k (by omega)).2 hk
theorem put_last {ns : List Nd} {l : List (Int × Int)} (hok : Lv.levelOk l = true) : (putTo ns l l.length).2.length = 1 := by
  have h := (put_hts (ns := ns) hok l.length (Nat.le_refl _)).1
  rw [List.take_length] at h
  simp only [Lv.levelOk, Bool.and_eq_true, decide_eq_true_eq] at hok
  rw [hok.2] at h
  injection h with h
  omega
theorem put_len (ns : List Nd) (l : List (Int × Int)) : ∀ k, ns.length ≤ (putTo ns l k).1.length ∧ (putTo ns l k).1.length ≤ ns.length + k ∧ (putTo ns l k).2.length ≤ k
  | 0 => ⟨Nat.le_refl _, Nat.le_refl _, Nat.le_refl _⟩
  | k + 1 => by
    have h := put_len ns l k
    have h2 := addNd_len (putTo ns l k).1 (putNd (l.getD k (0, 0)) (putTo ns l k).2)
    simp only [putTo, putS, List.length_cons, List.length_drop]
    omega
theorem put_bd (ns : List Nd) (l : List (Int × Int)) : ∀ k, ∀ e ∈ (putTo ns l k).2, 0 ≤ e ∧ e < ((putTo ns l k).1.length : Int)
  | 0, e, he => by cases he
  | k + 1, e, he => by
    have h2 := addNd_len (putTo ns l k).1 (putNd (l.getD k (0, 0)) (putTo ns l k).2)
    have h3 := addNd_idx (putTo ns l k).1 (putNd (l.getD k (0, 0)) (putTo ns l k).2)
    simp only [putTo, putS, List.mem_cons] at he
    simp only [putTo, putS]
    rcases he with rfl | he
    · omega
    · have := put_bd ns l k e (List.mem_of_mem_drop he)
      omega
theorem getD_mem_in {st : List Int} {i : Nat} (h : i < st.length) : st.getD i 0 ∈ st := by
  rw [List.getD_eq_getElem?_getD, List.getElem?_eq_getElem h]
  exact List.getElem_mem h
/-- the node of a token is right at the place that comes next -/
theorem putNd_ok {t : Int × Int} {st : List Int} {m : Nat} (ht : Lv.tkOk t = true) (hst : tkN t.1 ≤ st.length) (hb : ∀ e ∈ st, 0 ≤ e ∧ e < (m : Int)) : ndOk (putNd t st) m = true := by
  obtain ⟨op, N⟩ := t
  have ht' := ht
  simp [Lv.tkOk] at ht'
  rcases Lv.tk_cases ht with e | e | e | e | e <;> simp only at e <;> subst e
  · simp [putNd, ndOk, tokB, opdB, tkA, tkB]
    omega
  · have h0 := hb _ (getD_mem_in (st := st) (i := 0) (by simp [tkN] at hst; omega))
    have hN : N = 0 := by omega
    subst hN
    rw [show putNd (1, 0) st = (1, 0, -1, st.getD 0 0) from rfl]
    simp only [ndOk, tokB, opdB, tkA, tkB]
    simp only [List.getD_eq_getElem?_getD] at h0 ⊢
    simp
    omega
  · have h0 := hb _ (getD_mem_in (st := st) (i := 0) (by simp [tkN] at hst; omega))
    have h1 := hb _ (getD_mem_in (st := st) (i := 1) (by simp [tkN] at hst; omega))
    have hN : N = 0 := by omega
    subst hN
    rw [show putNd (2, 0) st = (2, 0, st.getD 1 0, st.getD 0 0) from rfl]
    simp only [ndOk, tokB, opdB, tkA, tkB]
    simp only [List.getD_eq_getElem?_getD] at h0 h1 ⊢
    simp
    omega
  · have h0 := hb _ (getD_mem_in (st := st) (i := 0) (by simp [tkN] at hst; omega))
    have h1 := hb _ (getD_mem_in (st := st) (i := 1) (by simp [tkN] at hst; omega))
    have hN : N = 0 := by omega
    subst hN
    rw [show putNd (3, 0) st = (3, 0, st.getD 1 0, st.getD 0 0) from rfl]
    simp only [ndOk, tokB, opdB, tkA, tkB]
    simp only [List.getD_eq_getElem?_getD] at h0 h1 ⊢
    simp
    omega
  · simp [putNd, ndOk, tokB, opdB, tkA, tkB]
    omega
theorem put_nd {ns : List Nd} {l : List (Int × Int)} (hok : Lv.levelOk l = true) {k : Nat} (hk : k < l.length) : ndOk (putNd (l.getD k (0, 0)) (putTo ns l k).2) (putTo ns l k).1.length = true :=
  putNd_ok (put_step (ns := ns) hok hk).1 (put_step (ns := ns) hok hk).2 (put_bd ns l k)
end Go.Proofs.YtfmhmnpmdjpmeaaDoor

namespace Go.Proofs.YtfmhmnpmdjpmeaaDoor
open Go.RowKit

/-- an operand at its new index -/
def mvOp (t : Bool) (is : List Int) (x : Int) : Int := if t = true then is.getD x.toNat 0 else x
set_option maxRecDepth 100000 in
set_option maxHeartbeats 4000000 in
theorem moved_any (w : World) (B : Nat) (A : Option Addr) (n c : Nat) (is : List Int) (o u a b : Int) (hB : B ≤ w.heap.size) (his : IntR w B A n is) (ha : tkA o = true → 0 ≤ a ∧ a < n) (hb : tkB o = true → 0 ≤ b ∧ b < n) (hn : n ≤ 1048576) :
    Calls Tryd.prog 84 #[.agg #[.int .i64 o, .int .i64 u, .int .i64 a, .int .i64 b], .slice A n c] w fun e w' => e = .returned (.agg #[.int .i64 o, .int .i64 u, .int .i64 (mvOp (tkA o) is a), .int .i64 (mvOp (tkB o) is b)]) ∧ Below w.heap.size w w' := by
  have HBB : Hid (∀ X Y, Below w.heap.size w ((w.alloc X).alloc Y)) := fun X Y => ((Below.refl _ _).alloc (Nat.le_refl _) _).alloc (by simp) _
  have hcell : ∀ p : Nat, p < n → ∃ b2 off, A = some ⟨b2, off, none⟩ ∧ ∀ X Y, ((w.alloc X).alloc Y).cell? ⟨b2, off + p, none⟩ = some (.int .i64 (is.getD p 0)) := by
    intro p hp
    obtain ⟨b2, off, rfl, hlt, hc⟩ := his.2 (by omega)
    exact ⟨b2, off, rfl, fun X Y => ((HBB.out X Y).cell (p := ⟨b2, off + p, none⟩) (by show b2 < _; omega)).trans (hc p hp)⟩
  clear his
  cases hA : tkA o with
  | true =>
    have hB2 : tkB o = true := by unfold tkB; rw [hA]; simp
    obtain ⟨p, rfl⟩ : ∃ p : Nat, a = p := ⟨a.toNat, by have := ha hA; omega⟩
    obtain ⟨q, rfl⟩ : ∃ q : Nat, b = q := ⟨b.toNat, by have := hb hB2; omega⟩
    have hp : p < n := by have := ha hA; omega
    have hq : q < n := by have := hb hB2; omega
    have hp' : (p : Int) < n := by omega
    have hq' : (q : Int) < n := by omega
    obtain ⟨b2, off, rfl, kp⟩ := hcell p hp
    obtain ⟨b3, off3, e3, kq⟩ := hcell q hq
    injection e3 with e3
    injection e3 with e3 e4
    subst e3; subst e4
    have HR1 : Hid (mvOp true is (p : Int) = is.getD p 0) := by show _ = _; simp [mvOp]
    have HR2 : Hid (mvOp true is (q : Int) = is.getD q 0) := by show _ = _; simp [mvOp]
    have HAA := Lib.hid hA
    have HBO := Lib.hid hB2
    obtain ⟨x, hx⟩ : ∃ x, is.getD p 0 = x := ⟨_, rfl⟩
    obtain ⟨y, hy⟩ : ∃ y, is.getD q 0 = y := ⟨_, rfl⟩
    rw [hx] at kp HR1
    rw [hy] at kq HR2
    rw [hB2]
    clear hcell ha hb hA hB2 hx hy
    go_enter Tryd.func84, Tryd.ntmps84
    go_wp2_with fail
    refine (takesA_any _ o).mono ?_
    rintro e w1 ⟨rfl, rfl⟩
    rw [HAA.out]
    go_wp2_with fail
    refine (takesB_any _ o).mono ?_
    rintro e w1 ⟨rfl, rfl⟩
    rw [HBO.out]
    go_wp2
    exact bodyPost_ret (v := .agg #[.int .i64 o, .int .i64 u, .int .i64 x, .int .i64 y]) (by simp [results, Tryd.results84, go_sem]) rfl ⟨by rw [HR1.out, HR2.out], HBB.out _ _⟩
  | false =>
    have HAA := Lib.hid hA
    clear hA ha
    cases hB2 : tkB o with
    | true =>
      obtain ⟨q, rfl⟩ : ∃ q : Nat, b = q := ⟨b.toNat, by have := hb hB2; omega⟩
      have hq : q < n := by have := hb hB2; omega
      have hq' : (q : Int) < n := by omega
      obtain ⟨b2, off, rfl, kq⟩ := hcell q hq
      have HR2 : Hid (mvOp true is (q : Int) = is.getD q 0) := by show _ = _; simp [mvOp]
      have HBO := Lib.hid hB2
      obtain ⟨y, hy⟩ : ∃ y, is.getD q 0 = y := ⟨_, rfl⟩
      rw [hy] at kq HR2
      clear hcell hb hB2 hy
      go_enter Tryd.func84, Tryd.ntmps84
      go_wp2_with fail
      refine (takesA_any _ o).mono ?_
      rintro e w1 ⟨rfl, rfl⟩
      rw [HAA.out]
      go_wp2_with fail
      refine (takesB_any _ o).mono ?_
      rintro e w1 ⟨rfl, rfl⟩
      rw [HBO.out]
      go_wp2
      exact bodyPost_ret (v := .agg #[.int .i64 o, .int .i64 u, .int .i64 a, .int .i64 y]) (by simp [results, Tryd.results84, go_sem]) rfl ⟨by rw [HR2.out]; rfl, HBB.out _ _⟩
    | false =>
      have HBO := Lib.hid hB2
      clear hcell hb hB2
      go_enter Tryd.func84, Tryd.ntmps84
      go_wp2_with fail
      refine (takesA_any _ o).mono ?_
      rintro e w1 ⟨rfl, rfl⟩
      rw [HAA.out]
      go_wp2_with fail
      refine (takesB_any _ o).mono ?_
      rintro e w1 ⟨rfl, rfl⟩
      rw [HBO.out]
      go_wp2
      exact bodyPost_ret (v := .agg #[.int .i64 o, .int .i64 u, .int .i64 a, .int .i64 b]) (by simp [results, Tryd.results84, go_sem]) rfl ⟨rfl, HBB.out _ _⟩
end Go.Proofs.YtfmhmnpmdjpmeaaDoor

namespace Go.Proofs.YtfmhmnpmdjpmeaaDoor
open Go.RowKit

/-- how many are kept below i -/
def cntK (R : Nat → Bool) (i : Nat) : Nat := (pickTo R i).length
theorem cntK_succ (R : Nat → Bool) (i : Nat) : cntK R (i + 1) = if R i = true then cntK R i + 1 else cntK R i := by
  unfold cntK
  rw [pickTo]
  split <;> simp
theorem cntK_le {R : Nat → Bool} {i j : Nat} (h : i ≤ j) : cntK R i ≤ cntK R j := by
  induction j with
  | zero =>
    obtain rfl : i = 0 := by omega
    exact Nat.le_refl _
  | succ j ih =>
    by_cases e : i = j + 1
    · rw [e]; exact Nat.le_refl _
    · have h1 := ih (by omega)
      rw [cntK_succ]
      split <;> omega
theorem cntK_lt {R : Nat → Bool} {i j : Nat} (h : i < j) (hi : R i = true) : cntK R i < cntK R j := by
  have h1 : cntK R (i + 1) ≤ cntK R j := cntK_le (by omega)
  rw [cntK_succ, if_pos hi] at h1
  omega
theorem cntK_inj {R : Nat → Bool} {i j : Nat} (hi : R i = true) (hj : R j = true) (h : cntK R i = cntK R j) : i = j := by
  rcases Nat.lt_trichotomy i j with h1 | h1 | h1
  · have := cntK_lt h1 hi; omega
  · exact h1
  · have := cntK_lt h1 hj; omega
/-- an operand's new index -/
def newOp (R : Nat → Bool) (x : Int) : Int := if 0 ≤ x then (cntK R x.toNat : Nat) else x
def newNd (R : Nat → Bool) (t : Nd) : Nd := (t.1, t.2.1, newOp R t.2.2.1, newOp R t.2.2.2)
theorem newOp_inj {R : Nat → Bool} {x y : Int} (hx : 0 ≤ x → R x.toNat = true) (hy : 0 ≤ y → R y.toNat = true) (h1 : -1 ≤ x) (h2 : -1 ≤ y) (h : newOp R x = newOp R y) : x = y := by
  unfold newOp at h
  split at h <;> split at h
  · rename_i a b
    have := cntK_inj (hx a) (hy b) (by omega)
    omega
  · omega
  · omega
  · exact h
theorem needN_at (l : List Nd) (k : Nat) (f : Nat → Bool) (i : Nat) : needN l k f i = (f i || (f k && (decide ((i : Int) = (l.getD k nd0).2.2.1) || decide ((i : Int) = (l.getD k nd0).2.2.2)))) := by
  unfold needN
  cases h : f k with
  | false => rw [if_neg (by decide)]; simp
  | true => rw [if_pos rfl]; simp [bit1, Bool.or_assoc]
/-- what has been marked stays marked -/
theorem needD_keeps {l : List Nd} {n : Nat} {f : Nat → Bool} {i c d : Nat} (hcd : c ≤ d) (h : needD l n f c i = true) : needD l n f d i = true := by
  induction d with
  | zero =>
    obtain rfl : c = 0 := by omega
    exact h
  | succ d ih =>
    by_cases e : c = d + 1
    · rw [← e]; exact h
    · unfold needD
      rw [needN_at, ih (by omega)]
      rfl
theorem needD_late {l : List Nd} {n : Nat} {f : Nat → Bool} (hall : NdAll l n) {j : Nat} (hj : j < n) (c : Nat) (hc : c ≤ j + 1) : needD l n f (n - (j + 1) + c) j = needD l n f (n - (j + 1)) j := by
  induction c with
  | zero => rfl
  | succ c ih =>
    have e : needD l n f ((n - (j + 1) + c) + 1) = needN l (n - 1 - (n - (j + 1) + c)) (needD l n f (n - (j + 1) + c)) := rfl
    show needD l n f ((n - (j + 1) + c) + 1) j = _
    rw [e, needN_high (hall _ (by omega)).1 (by omega)]
    exact ih (by omega)
/-- what is kept is closed under what it consists of -/
theorem need_closed {l : List Nd} {n : Nat} {f : Nat → Bool} (hall : NdAll l n) {j : Nat} (hj : j < n) (h : needD l n f n j = true) :
    (0 ≤ (l.getD j nd0).2.2.1 → needD l n f n (l.getD j nd0).2.2.1.toNat = true) ∧ (0 ≤ (l.getD j nd0).2.2.2 → needD l n f n (l.getD j nd0).2.2.2.toNat = true) := by
  have h1 := needD_late (f := f) hall hj (j + 1) (Nat.le_refl _)
  rw [show n - (j + 1) + (j + 1) = n by omega, h] at h1
  have h2 : needD l n f (n - j) = needN l j (needD l n f (n - (j + 1))) := kept_step hj
  constructor
  · intro h0
    refine needD_keeps (c := n - j) (by omega) ?_
    rw [h2, needN_at, ← h1]
    have e : (((l.getD j nd0).2.2.1.toNat : Nat) : Int) = (l.getD j nd0).2.2.1 := by omega
    rw [decide_eq_true e]
    simp
  · intro h0
    refine needD_keeps (c := n - j) (by omega) ?_
    rw [h2, needN_at, ← h1]
    have e : (((l.getD j nd0).2.2.2.toNat : Nat) : Int) = (l.getD j nd0).2.2.2 := by omega
    rw [decide_eq_true e]
    simp
/-- .. so two kept nodes stay unlike -/
theorem newNd_ne {l : List Nd} {n : Nat} {f : Nat → Bool} (hl : l.length = n) (hall : NdAll l n) {i j : Nat} (hi : i < n) (hj : j < n) (hij : i ≠ j) (ri : needD l n f n i = true) (rj : needD l n f n j = true) :
    newNd (needD l n f n) (l.getD i nd0) ≠ newNd (needD l n f n) (l.getD j nd0) := by
  intro e
  apply nd_ne hl hall hi hj hij
  obtain ⟨a1, a2⟩ := need_closed hall hi ri
  obtain ⟨b1, b2⟩ := need_closed hall hj rj
  have oi := (hall i hi).1
  have oj := (hall j hj).1
  obtain ⟨s, hs⟩ : ∃ s, l.getD i nd0 = s := ⟨_, rfl⟩
  obtain ⟨t, ht⟩ : ∃ t, l.getD j nd0 = t := ⟨_, rfl⟩
  rw [hs] at e a1 a2 oi ⊢
  rw [ht] at e b1 b2 oj ⊢
  obtain ⟨o, u, a, b⟩ := s
  obtain ⟨o', u', a', b'⟩ := t
  obtain ⟨p1, p2⟩ := ndOk_ops oi
  obtain ⟨q1, q2⟩ := ndOk_ops oj
  unfold newNd at e
  injection e with e1 e
  injection e with e2 e
  injection e with e3 e4
  have g3 : a = a' := newOp_inj a1 b1 (by omega) (by omega) e3
  have g4 : b = b' := newOp_inj a2 b2 (by omega) (by omega) e4
  simp only at e1 e2
  rw [e1, e2, g3, g4]
/-- the program's moved node is the model's -/
theorem mvR_new {R : Nat → Bool} {is : List Int} {o u a b : Int} {k : Nat} (h : ndOk (o, u, a, b) k = true) (h1 : 0 ≤ a → is.getD a.toNat 0 = (cntK R a.toNat : Nat)) (h2 : 0 ≤ b → is.getD b.toNat 0 = (cntK R b.toNat : Nat)) :
    mvOp (tkA o) is a = newOp R a ∧ mvOp (tkB o) is b = newOp R b := by
  unfold ndOk at h
  rw [Bool.and_eq_true, Bool.and_eq_true] at h
  obtain ⟨⟨_, ha⟩, hb⟩ := h
  have key : ∀ (x : Int) (t : Bool), opdB x t k = true → (0 ≤ x → is.getD x.toNat 0 = (cntK R x.toNat : Nat)) → mvOp t is x = newOp R x := by
    intro x t hx hv
    unfold opdB at hx
    unfold mvOp newOp
    split at hx
    · rename_i ht
      have h0 : 0 ≤ x := by simp at hx; omega
      rw [if_pos ht, if_pos h0]
      exact hv h0
    · rename_i ht
      have h0 : ¬ 0 ≤ x := by simp at hx; omega
      rw [if_neg ht, if_neg h0]
  exact ⟨key a _ ha h1, key b _ hb h2⟩
end Go.Proofs.YtfmhmnpmdjpmeaaDoor

namespace Go.Proofs.YtfmhmnpmdjpmeaaDoor
open Go.RowKit Go.Maps

/-- the cells of a row of ints -/
def intA (f : Nat → Int) (n : Nat) : Array Value := ((List.range n).map fun i => Value.int .i64 (f i)).toArray
theorem intA_size (f : Nat → Int) (n : Nat) : (intA f n).size = n := by simp [intA]
theorem intA_get (f : Nat → Int) {n i : Nat} (hi : i < n) : (intA f n)[i]? = some (.int .i64 (f i)) := by simp [intA, hi]
def setI (f : Nat → Int) (i : Nat) (v : Int) : Nat → Int := fun j => if j = i then v else f j
theorem intA_set (f : Nat → Int) (n i : Nat) (v : Int) : (intA f n).setIfInBounds i (.int .i64 v) = intA (setI f i v) n := by
  apply Array.ext_getElem?
  intro k
  by_cases hk : k < n
  · rw [Array.getElem?_setIfInBounds, intA_get _ hk, intA_get _ hk, intA_size]
    unfold setI
    by_cases e : i = k
    · subst e
      rw [if_pos rfl, if_pos (by omega), if_pos rfl]
    · rw [if_neg e, if_neg (fun h => e h.symm)]
  · rw [Array.getElem?_eq_none (by rw [Array.size_setIfInBounds, intA_size]; omega), Array.getElem?_eq_none (by rw [intA_size]; omega)]
theorem intA_reads {w : World} {g n : Nat} {f : Nat → Int} (h : Blk w g 3 (intA f n)) : IntR w (g + 1) (some ⟨g, 0, none⟩) n ((List.range n).map f) := by
  refine ⟨by simp, fun _ => ⟨g, 0, rfl, by omega, fun k hk => ?_⟩⟩
  rw [Nat.zero_add, h.cell, intA_get _ hk]
  simp [List.getD_eq_getElem?_getD, hk]
theorem intL_at {n k : Nat} {f : Nat → Int} (hk : k < n) : ((List.range n).map f).getD k 0 = f k := by simp [List.getD_eq_getElem?_getD, hk]
theorem make_ints (n : Nat) (hn : n ≤ 1000) : ∀ wx, (Instr.makeSlice 40 (.int .i64 (n : Int)) (.int .i64 (n : Int))).run Tryd.prog wx = .ok (.slice (some ⟨wx.heap.size, 0, none⟩) n n) (wx.alloc (.cells (madeCells #[Value.int .i64 0] n) 3)) := by
  obtain ⟨i0, hi, hz0, hz1, hz2⟩ := info_parts info_int
  intro wx
  have hr := run_make (P := Tryd.prog) wx 40 3 i0 _ Tryd.underlying40 hi hz0 .i64 .i64 n n (by omega) (by omega) (by rw [hz2]; omega) (by omega)
  simp only [Int.toNat_natCast, hz1, Nat.mul_one] at hr
  exact hr
theorem ints_made (n : Nat) : madeCells #[Value.int .i64 0] n = intA (fun _ => 0) n := by
  apply Array.ext_getElem?
  intro k
  by_cases hk : k < n
  · rw [intA_get _ hk]
    simp [madeCells, hk, Nat.mod_one]
  · rw [Array.getElem?_eq_none (by simp [madeCells]; omega), Array.getElem?_eq_none (by rw [intA_size]; omega)]
/-- the index at place q of those kept -/
theorem pickTo_at {R : Nat → Bool} {n q : Nat} (hq : q < (pickTo R n).length) : ∃ i : Nat, i < n ∧ R i = true ∧ cntK R i = q ∧ (pickTo R n).getD q 0 = (i : Int) := by
  induction n with
  | zero => simp [pickTo] at hq
  | succ n ih =>
    cases h : R n with
    | false =>
      rw [pickTo, if_neg (by rw [h]; decide)] at hq ⊢
      obtain ⟨i, h1, h2⟩ := ih hq
      exact ⟨i, by omega, h2⟩
    | true =>
      rw [pickTo, if_pos h] at hq ⊢
      by_cases e : q < (pickTo R n).length
      · obtain ⟨i, h1, h2, h3, h4⟩ := ih e
        refine ⟨i, by omega, h2, h3, ?_⟩
        rw [← h4, List.getD_eq_getElem?_getD, List.getD_eq_getElem?_getD, List.getElem?_append_left e]
      · have hq' : q = (pickTo R n).length := by simp at hq; omega
        refine ⟨n, by omega, h, hq'.symm, ?_⟩
        subst hq'
        simp [List.getD_eq_getElem?_getD]
/-- the nodes that are left -/
def leftN (l : List Nd) (R : Nat → Bool) (n : Nat) : List Nd := (pickTo R n).map fun i => newNd R (l.getD i.toNat nd0)
theorem leftN_len (l : List Nd) (R : Nat → Bool) (n : Nat) : (leftN l R n).length = (pickTo R n).length := by simp [leftN]
theorem leftN_take {l : List Nd} {R : Nat → Bool} {n q i : Nat} (hq : q < (pickTo R n).length) (hi : (pickTo R n).getD q 0 = (i : Int)) : (leftN l R n).take (q + 1) = (leftN l R n).take q ++ [newNd R (l.getD i nd0)] := by
  rw [List.take_add_one]
  have h : (leftN l R n)[q]? = some (newNd R (l.getD i nd0)) := by
    unfold leftN
    rw [List.getElem?_map, List.getElem?_eq_getElem hq]
    have e : (pickTo R n)[q] = (i : Int) := by
      rw [List.getD_eq_getElem?_getD, List.getElem?_eq_getElem hq] at hi
      simpa using hi
    rw [e]
    simp
  rw [h]
  rfl
/-- the next of them is unlike those before -/
theorem leftN_new {l : List Nd} {n q i : Nat} {f : Nat → Bool} (hl : l.length = n) (hall : NdAll l n) (hi : i < n) (ri : needD l n f n i = true) (hc : cntK (needD l n f n) i = q) : newNd (needD l n f n) (l.getD i nd0) ∉ (leftN l (needD l n f n) n).take q := by
  intro hm
  obtain ⟨p, hp, e⟩ := List.mem_take_iff_getElem.1 hm
  have hpl : p < (pickTo (needD l n f n) n).length := by rw [leftN_len] at hp; omega
  obtain ⟨j, h1, h2, h3, h4⟩ := pickTo_at hpl
  have ej : (leftN l (needD l n f n) n)[p]'(by rw [leftN_len]; exact hpl) = newNd (needD l n f n) (l.getD j nd0) := by
    unfold leftN
    rw [List.getElem_map]
    have e' : (pickTo (needD l n f n) n)[p] = (j : Int) := by
      rw [List.getD_eq_getElem?_getD, List.getElem?_eq_getElem hpl] at h4
      simpa using h4
    rw [e']
    simp
  rw [ej] at e
  have hne : j ≠ i := by
    rintro rfl
    omega
  exact newNd_ne hl hall h1 hi hne h2 ri e
/-- an arena whose three blocks stay stays -/
theorem ArK.stay {w w' : World} {base g m n c : Nat} {A : Option Addr} {D : DataW Unit} {l : List Nd} (h : ArK w base g m A n c D l) (hg : w'.heap[g]? = w.heap[g]?) (hm : w'.heap[m]? = w.heap[m]?) (hr : ∀ b, (Value.slice A n c).ownBlock = some b → w'.heap[b]? = w.heap[b]?) : ArK w' base g m A n c D l := by
  refine ⟨hg.trans h.box, ?_, ?_⟩
  · refine ⟨h.row.1, ?_⟩
    rcases h.row.2 with hn | ⟨b, cap, cur, hv, h1, h2, h3⟩
    · exact .inl hn
    · exact .inr ⟨b, cap, cur, hv, h1, (hr b (by rw [hv]; rfl)).trans h2, h3⟩
  · obtain ⟨es, clock, h1, h2, h3, h4⟩ := h.map
    exact ⟨es, clock, hm.trans h1, h2, h3, h4⟩
theorem own_stay {w w' : World} {base n size : Nat} {e : TypeId} {v : Value} {xs : List Value} (h : w.ownsRow base e size v n xs) (hr : ∀ b, v.ownBlock = some b → w'.heap[b]? = w.heap[b]?) : w'.ownsRow base e size v n xs := by
  refine ⟨h.1, ?_⟩
  rcases h.2 with hn | ⟨b, cap, cur, hv, h1, h2, h3⟩
  · exact .inl hn
  · exact .inr ⟨b, cap, cur, hv, h1, (hr b (by rw [hv]; rfl)).trans h2, h3⟩
theorem newNd_wf {l : List Nd} {n i : Nat} {R : Nat → Bool} (hall : NdAll l n) (hn : n ≤ 200) (hi : i < n) : ndWf (newNd R (l.getD i nd0)) := by
  have hw := nd_wf hall hn hi
  have hok := (hall i hi).1
  obtain ⟨t, ht⟩ : ∃ t, l.getD i nd0 = t := ⟨_, rfl⟩
  rw [ht] at hw hok ⊢
  obtain ⟨o, u, a, b⟩ := t
  obtain ⟨p1, p2⟩ := ndOk_ops hok
  have key : ∀ x : Int, (x = -1 ∨ (0 ≤ x ∧ x < i)) → (Lit.int .i64 (newOp R x)).wf = true := by
    intro x hx
    unfold newOp
    split
    · have h1 := pickTo_len R x.toNat
      refine WalkArith.wf_i64 ?_
      unfold cntK
      omega
    · exact WalkArith.wf_i64 (by omega)
  exact ⟨hw.1, hw.2.1, key a p1, key b p2⟩
end Go.Proofs.YtfmhmnpmdjpmeaaDoor
