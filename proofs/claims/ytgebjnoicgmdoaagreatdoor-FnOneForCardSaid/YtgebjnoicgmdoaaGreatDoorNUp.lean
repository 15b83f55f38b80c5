/- Plain facts on norms: values, comparison, joins and successors of norms. -/
/- The program's looks at atoms: valid ones, increasing Params, a number that exceeds. -/
/- NormOk of the program. -/
/- A region that draws its order, whose own operations only read and whose callees may make memory but turn none that was there: one walk, in the order of the text, over the class of all later worlds. -/
/- NormUp of the program and of the reference model. -/
import Derived.Test.YtgebjnoicgmdoaaGreatDoorNMath2
import Derived.Deep.RegionHeld3
import Derived.Test.YtgebjnoicgmdoaaGreatDoorSlc
import Derived.Deep.AppendLies

namespace Go.Proofs.YtgebjnoicgmdoaaGreatDoor.Nm

theorem value_mem {env : List Int} {l : List At} {a : At} (h : a ∈ l) : val env a ≤ value env l := by
  induction l with
  | nil => simp at h
  | cons b r ih =>
    simp only [value]
    rcases List.mem_cons.1 h with rfl | h
    · omega
    · have := ih h; omega
theorem value_le {env : List Int} {l : List At} {v : Int} (h0 : 0 ≤ v) (h : ∀ a ∈ l, val env a ≤ v) : value env l ≤ v := by
  induction l with
  | nil => simpa [value] using h0
  | cons b r ih =>
    simp only [value]
    have := h b (by simp)
    have := ih (fun a ha => h a (List.mem_cons_of_mem _ ha))
    omega
/-- all numbers of an env are 0 or more -/
def Pos (env : List Int) : Prop := ∀ x ∈ env, 0 ≤ x
theorem Pos.get {env : List Int} (h : Pos env) (k : Nat) : 0 ≤ env.getD k 0 := by
  rw [List.getD_eq_getElem?_getD]
  cases hg : env[k]? with
  | none => simp
  | some y => exact h y (List.mem_of_getElem? hg)
theorem val_ge {env : List Int} (hp : Pos env) (a : At) : a.2 ≤ val env a := by
  unfold val
  have := hp.get a.1.toNat
  split <;> omega
theorem value_norm {env : List Int} (hp : Pos env) {l : List At} (h : AllOk l) : value env (norm l) = value env l := by
  apply Int.le_antisymm
  · exact value_le (value_ge _ _) fun a ha => value_mem (norm_sub ha)
  · refine value_le (value_ge _ _) fun a ha => ?_
    obtain ⟨p, x⟩ := a
    have hb := h.mem ha
    have hbm := best_mem ha
    simp only at hb
    by_cases ep : p = -1
    · subst ep
      by_cases hm : most l 5 < best (-1) l
      · have h1 : ((-1 : Int), best (-1) l) ∈ norm l := mem_norm.2 ⟨by simp, by simp, by simp [keepB, hm], rfl⟩
        have h2 := value_mem (env := env) h1
        simp [val] at h2 ⊢
        omega
      · obtain ⟨q, q1, q2, q3⟩ := most_at l 5 (by omega)
        have h1 : (q, best q l) ∈ norm l := mem_norm.2 ⟨by simp; omega, by simp; omega, by simp [keepB, show q ≠ -1 by omega]; omega, rfl⟩
        have h2 := value_mem (env := env) h1
        have h3 := val_ge hp (q, best q l)
        simp only [val, if_true] at h2 h3 ⊢
        simp only [show ¬ q = -1 by omega, if_false] at h2 h3
        omega
    · have h1 : (p, best p l) ∈ norm l := mem_norm.2 ⟨by simp; omega, by simp; omega, by simp [keepB, ep]; omega, rfl⟩
      have h2 := value_mem (env := env) h1
      simp only [val, ep, if_false] at h2 ⊢
      omega
theorem value_up {env : List Int} (hp : Pos env) {l : List At} (h0 : l ≠ []) (h : AllOk l) {k : Int} (hk : 0 ≤ k) : value env (up k l) = value env l + k := by
  have hv : ∀ a : At, val env (a.1, a.2 + k) = val env a + k := by
    intro a; unfold val; simp only; split <;> omega
  have hmap : ∀ a ∈ l, (a.1, a.2 + k) ∈ up k l := fun a ha => List.mem_map.2 ⟨a, ha, rfl⟩
  obtain ⟨a0, ha0⟩ := List.exists_mem_of_ne_nil l h0
  have hge0 : k ≤ value env (up k l) := by
    have h1 := value_mem (env := env) (hmap a0 ha0)
    have h2 := hv a0
    have h3 := val_ge hp a0
    have h4 := h.mem ha0
    omega
  apply Int.le_antisymm
  · refine value_le (by have := value_ge env l; omega) fun b hb => ?_
    obtain ⟨a, ha, rfl⟩ := List.mem_map.1 hb
    have h1 := value_mem (env := env) ha
    have h2 := hv a
    omega
  · have : value env l ≤ value env (up k l) - k := value_le (by omega) fun a ha => by
      have h1 := value_mem (env := env) (hmap a ha)
      have h2 := hv a
      omega
    omega

/-- comparison, atom by atom -/
def Le (a b : List At) : Prop := ∀ x ∈ a, ∃ y ∈ b, (x.1 = -1 ∨ x.1 = y.1) ∧ x.2 ≤ y.2
theorem Le.value {env : List Int} (hp : Pos env) {a b : List At} (h : Le a b) : value env a ≤ value env b := by
  refine value_le (value_ge _ _) fun x hx => ?_
  obtain ⟨y, hy, h1, h2⟩ := h x hx
  have h3 := value_mem (env := env) hy
  have h4 := val_ge hp y
  obtain ⟨p, u⟩ := x
  obtain ⟨q, v⟩ := y
  simp only at h1 h2 h4
  by_cases ep : p = -1
  · simp only [val, ep, if_true]; omega
  · rcases h1 with h1 | h1
    · exact absurd h1 ep
    · subst h1
      simp only [val, ep, if_false] at h3 ⊢
      omega
/-- what is at most each other is one -/
theorem le_antisymm {a b : List At} (ha : Ok a) (hb : Ok b) (h1 : Le a b) (h2 : Le b a) : a = b := by
  have H : ∀ {a b : List At}, Ok a → Ok b → Le a b → Le b a → ∀ x ∈ a, x ∈ b := by
    intro a b ha hb h1 h2 x hx
    obtain ⟨p, u⟩ := x
    obtain ⟨⟨q, v⟩, hy, e1, l1⟩ := h1 _ hx
    simp only at e1 l1
    by_cases ep : p = -1
    · subst ep
      by_cases eq : q = -1
      · subst eq
        -- both numbers: the other way round
        obtain ⟨⟨r, z⟩, hz, _, l2⟩ := h2 _ hy
        simp only at l2
        by_cases er : r = -1
        · subst er
          have e := best_of_sorted ha.2.2.1.sorted hz (by have := (ha.2.1.mem hz).2.2.1; simp at this; omega)
          have e' := best_of_sorted ha.2.2.1.sorted hx (by have := (ha.2.1.mem hx).2.2.1; simp at this; omega)
          rw [show u = v by omega]; exact hy
        · have := ha.num u z r hx hz er; omega
      · obtain ⟨⟨r, z⟩, hz, e2, l2⟩ := h2 _ hy
        simp only at e2 l2
        have er : r ≠ -1 := by omega
        have := ha.num u z r hx hz er; omega
    · have eq : p = q := by omega
      subst eq
      obtain ⟨⟨r, z⟩, hz, e2, l2⟩ := h2 _ hy
      simp only at e2 l2
      have er : p = r := by omega
      subst er
      have e := best_of_sorted ha.2.2.1.sorted hz (by have := (ha.2.1.mem hz).2.2.1; simp at this; omega)
      have e' := best_of_sorted ha.2.2.1.sorted hx (by have := (ha.2.1.mem hx).2.2.1; simp at this; omega)
      rw [show u = v by omega]; exact hy
  exact sorted_ext ha.2.2.1.sorted hb.2.2.1.sorted fun x => ⟨H ha hb h1 h2 x, H hb ha h2 h1 x⟩
theorem le_refl (a : List At) : Le a a := fun x hx => ⟨x, hx, .inr rfl, by omega⟩
theorem AllOk.append {a b : List At} (ha : AllOk a) (hb : AllOk b) : AllOk (a ++ b) := by
  refine allOk_of_mem fun x hx => (atOk_iff x).2 ?_
  rcases List.mem_append.1 hx with h | h
  · exact ha.mem h
  · exact hb.mem h
theorem most_congr {a b : List At} (n : Nat) (hn : n ≤ 5) (h : ∀ p : Int, 0 ≤ p → p < 5 → best p a = best p b) : most a n = most b n := by
  induction n with
  | zero => rfl
  | succ n ih => simp only [most]; rw [ih (by omega), h n (by omega) (by omega)]
theorem most_append (a b : List At) (n : Nat) : most (a ++ b) n = max (most a n) (most b n) := by
  induction n with
  | zero => simp [most]
  | succ n ih => simp only [most]; rw [ih, best_append]; omega
theorem best_up {l : List At} (k : Int) (hk : 0 ≤ k) (h : AllOk l) (p : Int) : best p (up k l) = if best p l = -1 then -1 else best p l + k := by
  induction l with
  | nil => simp [up, best]
  | cons a r ih =>
    have hr : AllOk r := fun j hj => by have := h (j + 1) (by simpa using hj); simpa using this
    have h0 := (atOk_iff _).1 (h 0 (by simp))
    simp at h0
    have := ih hr
    have hg := best_ge p r
    simp only [up, List.map_cons, best] at this ⊢
    by_cases e : a.1 = p
    · simp only [e, if_true]
      rw [this]
      split <;> split <;> omega
    · simp only [e, if_false]
      exact this
theorem most_up {l : List At} (k : Int) (hk : 0 ≤ k) (h : AllOk l) (n : Nat) : most (up k l) n = if most l n = -1 then -1 else most l n + k := by
  induction n with
  | zero => simp [most]
  | succ n ih =>
    have e0 : most (up k l) (n + 1) = max (most (up k l) n) (best n (up k l)) := rfl
    have e3 : most l (n + 1) = max (most l n) (best n l) := rfl
    have e4 := best_up k hk h n
    have := most_ge l n
    have := best_ge n l
    by_cases e1 : most l n = -1 <;> by_cases e2 : best n l = -1
    · rw [if_pos e1] at ih; rw [if_pos e2] at e4; rw [if_pos (by omega)]; omega
    · rw [if_pos e1] at ih; rw [if_neg e2] at e4; rw [if_neg (by omega)]; omega
    · rw [if_neg e1] at ih; rw [if_pos e2] at e4; rw [if_neg (by omega)]; omega
    · rw [if_neg e1] at ih; rw [if_neg e2] at e4; rw [if_neg (by omega)]; omega
theorem AllOk.up {l : List At} (h : AllOk l) (hu : ∀ a ∈ l, a.2 < 1000) : AllOk (up 1 l) := by
  refine allOk_of_mem fun x hx => ?_
  obtain ⟨a, ha, rfl⟩ := List.mem_map.1 hx
  have h1 := h.mem ha
  have h2 := hu a ha
  exact (atOk_iff _).2 ⟨h1.1, h1.2.1, by simp only; omega, by simp only; omega⟩
end Go.Proofs.YtgebjnoicgmdoaaGreatDoor.Nm

namespace Go.Proofs.YtgebjnoicgmdoaaGreatDoor
open Go.RowKit

set_option maxRecDepth 100000 in
set_option maxHeartbeats 800000 in
theorem atomsOk_any (w : World) (B : Nat) (A : Option Addr) (n c : Nat) (l : List (Int × Int)) (hB : B ≤ w.heap.size) (hl : TokR w B A n l) (hn : (n : Int) ≤ 140737488355328) :
    Calls Tryz.prog 161 #[.slice A n c] w fun e w' => e = .returned (.bool (Nm.allOk l)) ∧ Below w.heap.size w w' := by
  go_enter Tryz.func161, Tryz.ntmps161
  go_wp2
  go_loopw [7] (fun i wr => ∃ k : Nat, k ≤ n ∧ i = .int .i64 k ∧ Hid (∀ j, j < k → Nm.atOk (l.getD j (0, 0)) = true) ∧ Below w.heap.size w wr) (fun i _ => n - (intOf i).toNat)
  case atStart => exact ⟨0, Nat.zero_le _, rfl, (fun j hj => absurd hj (by omega)), Below.refl _ _⟩
  case round =>
    obtain ⟨k, hk, rfl, HA, hbel⟩ := hrel
    by_cases hlt : k < n
    · obtain ⟨b, off, rfl, hb, hc⟩ := hl.2 (by omega)
      obtain ⟨c1, c2⟩ := hc k hlt
      have HL := Lib.hid hl.1
      obtain ⟨t, ht⟩ : ∃ t, l.getD k (0, 0) = t := ⟨_, rfl⟩
      rw [ht] at c1 c2
      obtain ⟨p, x⟩ := t
      have HT := Lib.hid ht
      have k1 := (hbel.cell (p := ⟨b, off + k * 2, none⟩) (by show b < _; omega)).trans c1
      have k2 := (hbel.cell (p := ⟨b, off + k * 2 + 1, none⟩) (by show b < _; omega)).trans c2
      have HBA := Lib.hid (hbel.alloc hbel.size (.cells #[.int .i64 p, .int .i64 x] 92))
      clear c1 c2 hc hl ht
      by_cases hok : -1 ≤ p ∧ p < 5 ∧ 0 ≤ x ∧ x ≤ 1000
      · have HA2 : Hid (∀ j, j < k + 1 → Nm.atOk (l.getD j (0, 0)) = true) := by
          intro j hj
          by_cases e : j = k
          · subst e; rw [HT.out]; exact (Nm.atOk_iff _).2 hok
          · exact HA.out j (by omega)
        obtain ⟨h1, h2, h3, h4⟩ := hok
        have d1 : decide (p < -1) = false := by simp; omega
        have d2 : decide (5 ≤ p) = false := by simp; omega
        have d3 : decide (x < 0) = false := by simp; omega
        have d4 : decide (1000 < x) = false := by simp; omega
        go_wp2
        go_roundw
        case rel => exact ⟨k + 1, by omega, by go_num, HA2.out, HBA.out⟩
        case measure => simp [intOf]; omega
      · have HF : Hid (Nm.allOk l = false) := Nm.allOk_no (fun h => hok (by
          have := (Nm.atOk_iff _).1 (h k (by rw [HL.out]; exact hlt))
          rw [HT.out] at this; exact this))
        by_cases g1 : p < -1
        · clear hok
          go_wp2
          go_ret
          exact ⟨by rw [HF.out]; rfl, HBA.out⟩
        · have g1' : -1 ≤ p := by omega
          by_cases g2 : 5 ≤ p
          · clear hok
            go_wp2
            go_ret
            exact ⟨by rw [HF.out]; rfl, HBA.out⟩
          · have g2' : p < 5 := by omega
            by_cases g3 : x < 0
            · clear hok
              go_wp2
              go_ret
              exact ⟨by rw [HF.out]; rfl, HBA.out⟩
            · have g3' : 0 ≤ x := by omega
              have g4 : 1000 < x := by omega
              clear hok
              go_wp2
              go_ret
              exact ⟨by rw [HF.out]; rfl, HBA.out⟩
    · have HF : Hid (Nm.allOk l = true) := (Nm.allOk_iff l).2 (fun j hj => HA.out j (by have := hl.1; omega))
      clear hl
      go_wp2
      go_ret
      exact ⟨by rw [HF.out]; rfl, hbel⟩

set_option maxRecDepth 100000 in
set_option maxHeartbeats 800000 in
theorem numberExceeds_any (w : World) (B : Nat) (x : Int) (A : Option Addr) (n c : Nat) (l : List (Int × Int)) (hB : B ≤ w.heap.size) (hl : TokR w B A n l) (hn : (n : Int) ≤ 140737488355328) :
    Calls Tryz.prog 152 #[.int .i64 x, .slice A n c] w fun e w' => e = .returned (.bool (Nm.exceeds x l)) ∧ Below w.heap.size w w' := by
  go_enter Tryz.func152, Tryz.ntmps152
  go_wp2
  go_loopw [9] (fun i wr => ∃ k : Nat, k ≤ n ∧ i = .int .i64 k ∧ Hid (∀ j, j < k → (l.getD j (0, 0)).2 < x) ∧ Below w.heap.size w wr) (fun i _ => n - (intOf i).toNat)
  case atStart => exact ⟨0, Nat.zero_le _, rfl, (fun j hj => absurd hj (by omega)), Below.refl _ _⟩
  case round =>
    obtain ⟨k, hk, rfl, HA, hbel⟩ := hrel
    by_cases hlt : k < n
    · obtain ⟨b, off, rfl, hb, hc⟩ := hl.2 (by omega)
      obtain ⟨c1, c2⟩ := hc k hlt
      have HL := Lib.hid hl.1
      obtain ⟨t, ht⟩ : ∃ t, l.getD k (0, 0) = t := ⟨_, rfl⟩
      rw [ht] at c1 c2
      obtain ⟨p, y⟩ := t
      have HT := Lib.hid ht
      have k1 := (hbel.cell (p := ⟨b, off + k * 2, none⟩) (by show b < _; omega)).trans c1
      have k2 := (hbel.cell (p := ⟨b, off + k * 2 + 1, none⟩) (by show b < _; omega)).trans c2
      have HBA := Lib.hid (hbel.alloc hbel.size (.cells #[.int .i64 p, .int .i64 y] 92))
      clear c1 c2 hc hl ht
      by_cases hok : y < x
      · have HA2 : Hid (∀ j, j < k + 1 → (l.getD j (0, 0)).2 < x) := by
          intro j hj
          by_cases e : j = k
          · subst e; rw [HT.out]; exact hok
          · exact HA.out j (by omega)
        go_wp2
        go_roundw
        case rel => exact ⟨k + 1, by omega, by go_num, HA2.out, HBA.out⟩
        case measure => simp [intOf]; omega
      · have HF : Hid (Nm.exceeds x l = false) := Nm.exceeds_no (fun h => hok (by
          have := h k (by rw [HL.out]; exact hlt)
          rw [HT.out] at this; exact this))
        have g : x ≤ y := by omega
        clear hok
        go_wp2
        go_ret
        exact ⟨by rw [HF.out]; rfl, HBA.out⟩
    · have HF : Hid (Nm.exceeds x l = true) := (Nm.exceeds_iff x l).2 (fun j hj => HA.out j (by have := hl.1; omega))
      clear hl
      go_wp2
      go_ret
      exact ⟨by rw [HF.out]; rfl, hbel⟩

end Go.Proofs.YtgebjnoicgmdoaaGreatDoor

namespace Go.Proofs.YtgebjnoicgmdoaaGreatDoor
open Go.RowKit

theorem TokR.tail {w : World} {B b off n : Nat} {l : List (Int × Int)} (h : TokR w B (some ⟨b, off, none⟩) n l) (hn : 1 ≤ n) : TokR w B (some ⟨b, off + 2, none⟩) (n - 1) (l.drop 1) := by
  refine ⟨by rw [List.length_drop, h.1], fun h0 => ?_⟩
  obtain ⟨b', off', e, hb, hc⟩ := h.2 (by omega)
  injection e with e
  injection e with e1 e2
  subst e1; subst e2
  refine ⟨b, off + 2, rfl, hb, fun k hk => ?_⟩
  have := hc (k + 1) (by omega)
  rw [Nm.getD_drop1, show off + 2 + k * 2 = off + (k + 1) * 2 by omega]
  exact this

set_option maxRecDepth 100000 in
/-- 'n[1:]' of a slice of atoms that is not empty -/
theorem run_tail (b off n c : Nat) (h1 : 1 ≤ n) (hnc : n ≤ c) : ∃ A', (∀ wx : World, (Instr.slice 138 (.slice (some ⟨b, off, none⟩) n c) (some (.int .i64 1)) none none).run Tryz.prog wx = .ok (.slice A' (n - 1) (c - 1)) wx) ∧
    ∀ (w : World) (B : Nat) (l : List (Int × Int)), TokR w B (some ⟨b, off, none⟩) n l → TokR w B A' (n - 1) (l.drop 1) := by
  by_cases e : c = 1
  · refine ⟨some ⟨b, off, none⟩, fun wx => ?_, fun w B l h => ?_⟩
    · have hr := run_slice_l (P := Tryz.prog) (w := wx) 138 (some ⟨b, off, none⟩) n c Tryz.underlying138 .i64 1 (by omega) (by omega)
      have hs : (sizeOf (Tryz.prog.elem 138)).run Tryz.prog wx = .ok 2 wx := by kernel_rfl
      rw [hs] at hr
      simpa [Result.andThen, sliced, e] using hr
    · exact ⟨by rw [List.length_drop, h.1], fun h0 => absurd h0 (by omega)⟩
  · refine ⟨some ⟨b, off + 2, none⟩, fun wx => ?_, fun w B l h => h.tail h1⟩
    have hr := run_slice_l (P := Tryz.prog) (w := wx) 138 (some ⟨b, off, none⟩) n c Tryz.underlying138 .i64 1 (by omega) (by omega)
    have hs : (sizeOf (Tryz.prog.elem 138)).run Tryz.prog wx = .ok 2 wx := by kernel_rfl
    rw [hs] at hr
    simpa [Result.andThen, sliced, e, Addr.add] using hr

end Go.Proofs.YtgebjnoicgmdoaaGreatDoor

namespace Go.Proofs.YtgebjnoicgmdoaaGreatDoor
open Go.RowKit

/-- a world in which all that w holds is as it was -/
structure Later (w : World) : Type where
  out : World
  bel : Below w.heap.size w out
instance (w : World) : Nonempty (Later w) := ⟨⟨w, Below.refl _ _⟩⟩
theorem Later.cell {w : World} (d : Later w) {p : Addr} {v : Value} (hp : p.block < w.heap.size) (h : w.cell? p = some v) : d.out.cell? p = some v := (d.bel.cell hp).trans h

end Go.Proofs.YtgebjnoicgmdoaaGreatDoor

namespace Go.Proofs.YtgebjnoicgmdoaaGreatDoor
open Go.RowKit

/-- a call gives back a slice of atoms of its own and a bool -/
def ResA (w : World) (R : Option (List (Int × Int))) (e : Ending) (w' : World) : Prop :=
  ∃ A c, e = .returned (.tuple #[.slice A (R.getD []).length c, .bool R.isSome]) ∧ OwnA w' w.heap.size A (R.getD []).length c (R.getD []) ∧ Below w.heap.size w w'
theorem resA_none {w w' : World} (hb : Below w.heap.size w w') : ResA w none (.returned (.tuple #[.slice none 0 0, .bool false])) w' := ⟨none, 0, rfl, World.ownsRow_nil _ _ _ _, hb⟩

theorem own_put {w : World} {base g n c size : Nat} {e : TypeId} {xs : List Value} (h : w.ownsRow base e size (.slice (some ⟨g, 0, none⟩) n c) n xs) (i : Nat) (u : Value) :
    (w.setCell ⟨g, i, none⟩ u).ownsRow base e size (.slice (some ⟨g, 0, none⟩) n c) n (xs.set i u) := by
  refine ⟨by rw [List.length_set]; exact h.1, ?_⟩
  rcases h.2 with ⟨h0, _⟩ | ⟨g', cap, cur, hv, hb, hgg, h1, h2, h3, h4⟩
  · cases h0
  · injection hv with e1 e2 e3
    injection e1 with e1
    injection e1 with e1
    subst e1; subst e3
    refine .inr ⟨g, c, _, rfl, hb, Blk.put (w := w) (t := e) hgg i u, h1, h2, by simp [h3], ?_⟩
    rw [Array.toList_setIfInBounds, List.take_set, h4]
theorem tokCells_set (l : List (Int × Int)) (j : Nat) (p x y : Int) (h : l[j]? = some (p, x)) : tokCells (l.set j (p, y)) = (tokCells l).set (j * 2 + 1) (.int .i64 y) := by
  induction l generalizing j with
  | nil => simp at h
  | cons t r ih =>
    cases j with
    | zero =>
      simp at h
      subst h
      rfl
    | succ j =>
      rw [List.set_cons_succ, tokCells_cons, tokCells_cons, ih j (by simpa using h), show (j + 1) * 2 + 1 = j * 2 + 1 + 1 + 1 by omega, List.set_cons_succ, List.set_cons_succ]

theorem up_take (k : Int) (l : List (Int × Int)) (j : Nat) (hj : j < l.length) : Nm.up k (l.take (j + 1)) = Nm.up k (l.take j) ++ [((l.getD j (0, 0)).1, (l.getD j (0, 0)).2 + k)] := by
  have e : l.getD j (0, 0) = l[j] := by simp [List.getD_eq_getElem?_getD, List.getElem?_eq_getElem hj]
  rw [List.take_succ_eq_append_getElem hj, e]
  unfold Nm.up
  rw [List.map_append]
  rfl
/-- Offs that a number of this size may be added to -/
def Small (l : List (Int × Int)) : Prop := ∀ j, j < l.length → 0 ≤ (l.getD j (0, 0)).2 ∧ (l.getD j (0, 0)).2 ≤ 1000000

set_option maxRecDepth 100000 in
set_option maxHeartbeats 1600000 in
theorem specUp_any (w : World) (B : Nat) (A : Option Addr) (n c : Nat) (l : List (Int × Int)) (x : Int) (hB : B ≤ w.heap.size) (hl : TokR w B A n l) (hn : n ≤ 1000) (hs : Small l) (hx0 : 0 ≤ x) (hx1 : x ≤ 1000000) :
    Calls Tryz.prog 132 #[.slice A n c, .int .i64 x] w fun e w' => ∃ g cap, e = .returned (.slice (some ⟨g, 0, none⟩) n cap) ∧ OwnA w' w.heap.size (some ⟨g, 0, none⟩) n cap (Nm.up x l) ∧ Below w.heap.size w w' := by
  obtain ⟨i0, hi, hz0, hz1, hz2⟩ := info_parts info_atom
  have HS := Lib.hid hs
  have HO0 : Hid (OwnA (w.alloc (.cells #[] 92)) w.heap.size (some ⟨w.heap.size, 0, none⟩) 0 0 []) := World.ownsRow_made w #[] 0 (Nat.le_refl _) (by simp [maxLen]) (by simp)
  have HB0 : Hid (Below w.heap.size w (w.alloc (.cells #[] 92))) := (Below.refl _ _).alloc (Nat.le_refl _) _
  clear hs
  go_enter Tryz.func132, Tryz.ntmps132
  go_wp2
  go_loopw [5, 6] (fun v i wr => ∃ (k g cap : Nat), k ≤ n ∧ i = .int .i64 k ∧ v = .slice (some ⟨g, 0, none⟩) k cap ∧ OwnA wr w.heap.size (some ⟨g, 0, none⟩) k cap (Nm.up x (l.take k)) ∧ Below w.heap.size w wr) (fun _ i _ => n - (intOf i).toNat)
  case atStart => exact ⟨0, w.heap.size, 0, Nat.zero_le _, rfl, rfl, HO0.out, HB0.out⟩
  case round =>
    obtain ⟨k, g, cap, hk, rfl, rfl, hown, hbel⟩ := hrel
    have hszr := hbel.size
    by_cases hlt : k < n
    · have HU := Lib.hid (up_take x l k (by rw [hl.1]; exact hlt))
      have hsm := HS.out k (by rw [hl.1]; exact hlt)
      obtain ⟨b, off, rfl, hb, hc⟩ := hl.2 (by omega)
      obtain ⟨e1, e2⟩ := hc k hlt
      have HL := Lib.hid hl
      generalize Nm.up x (l.take k) = a at hown HU
      generalize l.getD k (0, 0) = t at e1 e2 HU hsm
      obtain ⟨p, y⟩ := t
      simp only at e1 e2 HU hsm
      obtain ⟨y0, y1⟩ := hsm
      have k1 := (hbel.cell (p := ⟨b, off + k * 2, none⟩) (by show b < _; omega)).trans e1
      have k2 := (hbel.cell (p := ⟨b, off + k * 2 + 1, none⟩) (by show b < _; omega)).trans e2
      have hw1 : IntKind.i64.wrap (y + x) = y + x := by rw [IntKind.wrap_i64]; omega
      have hki : (k : Int) < (n : Int) := by omega
      have H1 : Hid (OwnA (wr.alloc (.cells #[.int .i64 p, .int .i64 (y + x)] 92)).drew w.heap.size (some ⟨g, 0, none⟩) k cap a) := (hown.alloc _).drew
      have H2 : Hid (Below w.heap.size w (wr.alloc (.cells #[.int .i64 p, .int .i64 (y + x)] 92)).drew) := (hbel.alloc hszr _).drew
      have H3 : Hid (∀ j u, ([Value.int .i64 p, .int .i64 (y + x)] : List Value)[j]? = some u → (wr.alloc (.cells #[.int .i64 p, .int .i64 (y + x)] 92)).drew.cell? ((⟨wr.heap.size, 0, none⟩ : Addr).add j) = some u) := World.news_of_block (cs := #[.int .i64 p, .int .i64 (y + x)]) (t := 92) (fr := (0, 0)) (heap_alloc_new wr _)
      have HGL : Hid (∀ j, (Value.slice (some ⟨g, 0, none⟩) k cap).ownBlock = some j → w.heap.size ≤ j) := fun j h => (hown.lt j h).1
      have HE1 := Lib.hid e1
      have HE2 := Lib.hid e2
      have hbw : b < w.heap.size := by omega
      clear e1 e2 hc hl hown
      go_wp2_with fail
      go_region_held3 (fun w' => w'.cell? ⟨b, off + k * 2, none⟩ = some (.int .i64 p) ∧ w'.cell? ⟨b, off + k * 2 + 1, none⟩ = some (.int .i64 y))
        (first
          | go_keep
          | exact ⟨((H2.out.grown hgrow (by simp; omega) HGL.out).cell (p := ⟨b, off + k * 2, none⟩) hbw).trans HE1.out, ((H2.out.grown hgrow (by simp; omega) HGL.out).cell (p := ⟨b, off + k * 2 + 1, none⟩) hbw).trans HE2.out⟩)
        ((refine step_append_lies _ (by rfl) _ _ _ (by rfl) w.heap.size 92 i0 _ 2 16 Tryz.underlying138 hi hz0 hz1 hz2 rfl (by omega) (.slice (some ⟨g, 0, none⟩) k cap) k (tokCells a) (by rfl) H1.out
            ⟨wr.heap.size, 0, none⟩ 1 1 [.int .i64 p, .int .i64 (y + x)] (by rfl) (by rfl) H3.out (by simp [Value.oneCell']) (by omega) (by unfold maxLen; omega) (by omega) (by simp; omega) (wr.heap.size + 1) (by simp) ?_; intro g' cap' w3 hown' hgrow hat hlt3))
      have HB3 : Hid (Below w.heap.size w w3) := H2.out.grown hgrow (by simp; omega) HGL.out
      have HW : Hid (OwnA w3 w.heap.size (some ⟨g', 0, none⟩) (k + 1) cap' (Nm.up x (l.take (k + 1)))) := by
        show OwnA _ _ _ _ _ _
        rw [HU.out]
        unfold OwnA
        rw [tokCells_append]
        exact hown'
      clear hown' hgrow hat hlt3
      go_wp2
      go_roundw
      case rel => exact ⟨k + 1, g', cap', by omega, by go_num, rfl, HW.out, HB3.out⟩
      case measure => simp [intOf]; omega
    · obtain rfl : k = n := by omega
      rw [List.take_of_length_le (by have := hl.1; omega)] at hown
      have HW := Lib.hid hown
      clear hl hown
      go_wp2
      go_ret
      exact ⟨g, cap, rfl, HW.out, hbel⟩
end Go.Proofs.YtgebjnoicgmdoaaGreatDoor
