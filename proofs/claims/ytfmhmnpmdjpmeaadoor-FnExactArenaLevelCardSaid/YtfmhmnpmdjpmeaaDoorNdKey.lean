/- Slices that a call owns: read as lists, kept over other steps; the laws' marks upon them. -/
/- Plain facts for constraints: the table that is made out of a list of constraints; what it tells of the values that satisfy them. -/
/- Plain facts for constraints: when a list is satisfiable, its least values, and what it implies. -/
/- Plain facts for constraints: what is implied; what is left when the constraints are considered one by one and each is removed that is not needed. -/
/- Words for memory: a slice that reads as a list of nodes; one that a call owns. -/
/- Nodes as a map's keys: what they read as; the map of an arena in the words of a list. -/
import Derived.Test.YtfmhmnpmdjpmeaaDoorEvalLaw
import Derived.Maps.OwnSet
import Derived.Maps.OwnOps
import Derived.DeepKeys4

namespace Go.Proofs.YtfmhmnpmdjpmeaaDoor
open Go.RowKit

/-- the cells of a list of tokens -/
def tokCells (l : List (Int × Int)) : List Value := l.flatMap fun t => [.int .i64 t.1, .int .i64 t.2]
theorem tokCells_nil : tokCells [] = [] := rfl
theorem tokCells_cons (t : Int × Int) (l : List (Int × Int)) : tokCells (t :: l) = .int .i64 t.1 :: .int .i64 t.2 :: tokCells l := rfl
theorem tokCells_len (l : List (Int × Int)) : (tokCells l).length = l.length * 2 := by
  induction l with
  | nil => rfl
  | cons t r ih => rw [tokCells_cons]; simp [ih]; omega
theorem tokCells_append (a b : List (Int × Int)) : tokCells (a ++ b) = tokCells a ++ tokCells b := by simp [tokCells]
theorem tokCells_at (l : List (Int × Int)) (k : Nat) (hk : k < l.length) : (tokCells l)[k * 2]? = some (.int .i64 (l.getD k (0, 0)).1) ∧ (tokCells l)[k * 2 + 1]? = some (.int .i64 (l.getD k (0, 0)).2) := by
  induction l generalizing k with
  | nil => simp at hk
  | cons t r ih =>
    rw [tokCells_cons]
    cases k with
    | zero => exact ⟨rfl, rfl⟩
    | succ k =>
      have h := ih k (by simpa using hk)
      rw [show (k + 1) * 2 = k * 2 + 1 + 1 by omega]
      exact h

/-- a row of the call's own, of numbers -/
abbrev OwnI (w : World) (base : Nat) (A : Option Addr) (n c : Nat) (l : List Int) : Prop := w.ownsRow base 3 1 (.slice A n c) n (l.map (Value.int .i64))
/-- a row of the call's own, of tokens -/
abbrev OwnT (w : World) (base : Nat) (A : Option Addr) (n c : Nat) (l : List (Int × Int)) : Prop := w.ownsRow base 70 2 (.slice A n c) n (tokCells l)

theorem own_adds {g j : Nat} : (⟨g, 0, none⟩ : Addr).add j = ⟨g, j, none⟩ := by
  unfold Addr.add
  by_cases h : j = 0
  · subst h; rfl
  · rw [if_neg h]; simp

theorem OwnI.reads {w : World} {base : Nat} {A : Option Addr} {n c : Nat} {l : List Int} (h : OwnI w base A n c l) : IntR w w.heap.size A n l := by
  have hl : l.length = n := by have := h.1; simpa using this
  refine ⟨hl, fun hn => ?_⟩
  rcases h.2 with ⟨_, h0⟩ | ⟨g, cap, cur, hv, hb, hgg, h1, h2, h3, h4⟩
  · omega
  · injection hv with e1 e2 e3
    subst e1
    refine ⟨g, 0, rfl, (Array.getElem?_eq_some_iff.1 hgg).1, fun k hk => ?_⟩
    have := h.cells (g := g) rfl k (.int .i64 (l.getD k 0)) (by
      have hk' : k < l.length := by omega
      simp [List.getD_eq_getElem?_getD, List.getElem?_eq_getElem hk'])
    rw [own_adds] at this
    rw [Nat.zero_add]
    exact this

theorem OwnT.reads {w : World} {base : Nat} {A : Option Addr} {n c : Nat} {l : List (Int × Int)} (h : OwnT w base A n c l) : TokR w w.heap.size A n l := by
  have hl : l.length = n := by have := h.1; rw [tokCells_len] at this; omega
  refine ⟨hl, fun hn => ?_⟩
  rcases h.2 with ⟨_, h0⟩ | ⟨g, cap, cur, hv, hb, hgg, h1, h2, h3, h4⟩
  · omega
  · injection hv with e1 e2 e3
    subst e1
    refine ⟨g, 0, rfl, (Array.getElem?_eq_some_iff.1 hgg).1, fun k hk => ?_⟩
    have ht := tokCells_at l k (by omega)
    have h5 := h.cells (g := g) rfl (k * 2) _ ht.1
    have h6 := h.cells (g := g) rfl (k * 2 + 1) _ ht.2
    rw [own_adds] at h5 h6
    rw [Nat.zero_add]
    exact ⟨h5, h6⟩

theorem TokOwn.owns {w : World} {g n : Nat} {l : List (Int × Int)} (h : TokOwn w g n l) (hn : n ≤ 1048576) : OwnT w g (some ⟨g, 0, none⟩) n n l := by
  obtain ⟨hl, cs, hblk, hs, hc⟩ := h
  refine ⟨by rw [tokCells_len, hl], .inr ⟨g, n, cs, rfl, Nat.le_refl _, hblk, Nat.le_refl _, by unfold maxLen; omega, hs, ?_⟩⟩
  rw [← hs, List.take_of_length_le (by simp)]
  apply List.ext_getElem?
  intro i
  by_cases hi : i < n * 2
  · rcases Nat.mod_two_eq_zero_or_one i with h0 | h0
    · obtain ⟨k, rfl⟩ : ∃ k, i = k * 2 := ⟨i / 2, by omega⟩
      rw [(tokCells_at l k (by omega)).1, Array.getElem?_toList]
      exact (hc k (by omega)).1
    · obtain ⟨k, rfl⟩ : ∃ k, i = k * 2 + 1 := ⟨i / 2, by omega⟩
      rw [(tokCells_at l k (by omega)).2, Array.getElem?_toList]
      exact (hc k (by omega)).2
  · rw [List.getElem?_eq_none (by simp; omega), List.getElem?_eq_none (by rw [tokCells_len]; omega)]

/-- an owned row below B is kept where all below B is -/
theorem own_below {w w' : World} {B base : Nat} {e : TypeId} {size n : Nat} {v : Value} {xs : List Value} (h : w.ownsRow base e size v n xs) (hb : Below B w w') (hB : ∀ k, v.ownBlock = some k → k < B) : w'.ownsRow base e size v n xs := by
  refine ⟨h.1, ?_⟩
  rcases h.2 with hn | ⟨g, cap, cur, rfl, hbg, hgg, rest⟩
  · exact .inl hn
  · exact .inr ⟨g, cap, cur, rfl, hbg, (hb.block g (hB g rfl)).trans hgg, rest⟩
theorem own_below' {w w' : World} {base : Nat} {e : TypeId} {size n : Nat} {v : Value} {xs : List Value} (h : w.ownsRow base e size v n xs) (hb : Below w.heap.size w w') : w'.ownsRow base e size v n xs :=
  own_below h hb (fun k hk => (h.lt k hk).2)
theorem own_base {w : World} {base base' : Nat} {e : TypeId} {size n : Nat} {v : Value} {xs : List Value} (h : w.ownsRow base e size v n xs) (hb : base' ≤ base) : w.ownsRow base' e size v n xs := by
  refine ⟨h.1, ?_⟩
  rcases h.2 with hn | ⟨g, cap, cur, rfl, hbg, rest⟩
  · exact .inl hn
  · exact .inr ⟨g, cap, cur, rfl, by omega, rest⟩

/-- the marks k, k + 1, .. -/
def marks (k m : Nat) : List Value := (List.range m).map fun i => .int .i64 ((k + i : Nat) : Int)
theorem marks_len (k m : Nat) : (marks k m).length = m := by simp [marks]
theorem marks_at (k m i : Nat) (h : i < m) : (marks k m)[i]? = some (.int .i64 ((k + i : Nat) : Int)) := by simp [marks, h]

/-- the first j cells of a row are marked -/
def Marking (w : World) (g : Nat) (e : TypeId) (sz k j : Nat) (wr : World) : Prop :=
  w.grownBy wr (some g) ∧ wr.heap.size = w.heap.size ∧ ∃ cs, Blk wr g e cs ∧ cs.size = sz ∧ ∀ i, i < j → cs[i]? = some (.int .i64 ((k + i : Nat) : Int))
theorem marking_step {w wr : World} {g sz k j : Nat} {e : TypeId} (h : Marking w g e sz k j wr) (hj : j < sz) : Marking w g e sz k (j + 1) (wr.setCell ⟨g, j, none⟩ (.int .i64 ((k + j : Nat) : Int))) := by
  obtain ⟨hg, hz, cs, hblk, hs, hc⟩ := h
  refine ⟨⟨hg.os, hg.tape, hg.output, by simpa [World.setCell] using hg.size, fun i hi hne => (Below.heap_setCell wr ⟨g, j, none⟩ _ i (by intro he; subst he; exact hne rfl)).trans (hg.block i hi hne)⟩, by simpa [World.setCell] using hz, _, hblk.put _ _, by simp [hs], ?_⟩
  intro i hi
  by_cases e : i = j
  · subst e
    rw [Array.getElem?_setIfInBounds_self_of_lt (by omega)]
  · rw [Array.getElem?_setIfInBounds_ne (by omega)]
    exact hc i (by omega)

/-- a row that has been marked whole -/
theorem marked {w wr : World} {g base n c size k : Nat} {e : TypeId} {xs : List Value} (hown : w.ownsRow base e size (.slice (some ⟨g, 0, none⟩) n c) n xs) (h : Marking w g e (c * size) k (n * size) wr) :
    wr.ownsRow base e size (.slice (some ⟨g, 0, none⟩) n c) n (marks k (n * size)) := by
  obtain ⟨hg, hz, cs, hblk, hs, hc⟩ := h
  rcases hown.2 with ⟨h0, _⟩ | ⟨g', cap, cur, hv, hb, hgg, h1, h2, h3, h4⟩
  · cases h0
  · injection hv with e1 e2 e3
    injection e1 with e1
    injection e1 with e1
    subst e1; subst e3
    have hle : n * size ≤ c * size := Nat.mul_le_mul_right _ h1
    refine ⟨marks_len _ _, .inr ⟨g, c, cs, rfl, hb, hblk, h1, h2, hs, ?_⟩⟩
    apply List.ext_getElem?
    intro i
    by_cases hi : i < n * size
    · rw [marks_at _ _ _ hi, List.getElem?_take_of_lt hi, Array.getElem?_toList]
      exact hc i hi
    · rw [List.getElem?_eq_none (by simp; omega), List.getElem?_eq_none (by rw [marks_len]; omega)]

/-- a mark leaves: the row marked, nothing else turned -/
def MarkOut (w : World) (base : Nat) (e : TypeId) (size : Nat) (v : Value) (n k : Nat) (w' : World) : Prop :=
  w.grownBy w' v.ownBlock ∧ w'.heap.size = w.heap.size ∧ w'.ownsRow base e size v n (marks k (n * size))

theorem own_empty {w : World} {base : Nat} {e : TypeId} {size c : Nat} {A : Option Addr} {xs : List Value} (h : w.ownsRow base e size (.slice A 0 c) 0 xs) (k : Nat) : w.ownsRow base e size (.slice A 0 c) 0 (marks k (0 * size)) := by
  have hx : xs = [] := List.eq_nil_of_length_eq_zero (by simpa using h.1)
  rw [hx] at h
  simpa [marks] using h

set_option maxHeartbeats 800000 in
theorem markTokS_any (w : World) (base : Nat) (A : Option Addr) (n c : Nat) (xs : List Value) (hown : w.ownsRow base 70 2 (.slice A n c) n xs) (k : Nat) (hn : n ≤ 3000000) (hk : k ≤ 3000000) :
    Calls Tryd.prog 20 #[.slice A n c, .int .i64 k] w fun e w' => e = .returned (.int .i64 ((k + n * 2 : Nat) : Int)) ∧ MarkOut w base 70 2 (.slice A n c) n k w' := by
  by_cases h0 : n = 0
  · subst h0
    have HO := Lib.hid (own_empty hown k)
    clear hown
    go_enter Tryd.func20, Tryd.ntmps20
    go_wp2
    go_loop [1, 5] (fun m i => m = .int .i64 k ∧ i = .int .i64 0) (fun _ _ => 0)
    case atStart => exact ⟨rfl, rfl⟩
    case round =>
      obtain ⟨rfl, rfl⟩ := hrel
      go_wp2
      go_ret
      exact ⟨rfl, World.grownBy.refl _ _, rfl, HO.out⟩
  · rcases hown.2 with ⟨_, h⟩ | ⟨g, cap, cur, hv, hb, hgg, h1, h2, h3, h4⟩
    · omega
    · injection hv with e1 e2 e3
      subst e1; subst e3
      have hblk : Blk w g 70 cur := hgg
      have HS : Hid (Marking w g 70 (c * 2) k 0 w) := ⟨World.grownBy.refl _ _, rfl, cur, hblk, h3, by intro i hi; omega⟩
      have HW := Lib.hid hown
      clear hgg hblk h3 h4 hown
      go_enter Tryd.func20, Tryd.ntmps20
      go_wp2
      go_loopw [1, 5] (fun m i wr => ∃ j : Nat, j ≤ n ∧ i = .int .i64 j ∧ m = .int .i64 ((k + j * 2 : Nat) : Int) ∧ Marking w g 70 (c * 2) k (j * 2) wr) (fun _ i _ => n - (intOf i).toNat)
      case atStart => exact ⟨0, Nat.zero_le _, rfl, rfl, HS.out⟩
      case round =>
        obtain ⟨j, hj, rfl, rfl, hM⟩ := hrel
        by_cases hlt : j < n
        · have hM1 := marking_step hM (by omega)
          have HN := Lib.hid (marking_step hM1 (by omega))
          obtain ⟨_, _, cs, hblk, hs, _⟩ := hM
          have f1 := hblk.thawed (j * 2)
          have f2 := hblk.thawed (j * 2 + 1)
          obtain ⟨v1, d1⟩ : ∃ v1, wr.cell? ⟨g, j * 2, none⟩ = some v1 := ⟨_, (hblk.cell _).trans (Array.getElem?_eq_getElem (by omega))⟩
          obtain ⟨v2, d2⟩ : ∃ v2, wr.cell? ⟨g, j * 2 + 1, none⟩ = some v2 := ⟨_, (hblk.cell _).trans (Array.getElem?_eq_getElem (by omega))⟩
          clear hblk hs hM1
          go_wp2
          go_roundw
          case rel => exact ⟨j + 1, by omega, by go_num, by go_num, by
            have h := HN.out
            rw [show (j + 1) * 2 = j * 2 + 1 + 1 by omega]
            simpa [Nat.add_assoc, Int.add_assoc] using h⟩
          case measure => simp [intOf]; omega
        · obtain rfl : j = n := by omega
          have HM := Lib.hid hM
          clear hM
          go_wp2
          go_ret
          have hM := HM.out
          exact ⟨rfl, hM.1, hM.2.1, marked (size := 2) HW.out hM⟩

set_option maxHeartbeats 800000 in
theorem heldTokS_any (w : World) (base : Nat) (A : Option Addr) (n c : Nat) (k : Nat) (hown : w.ownsRow base 70 2 (.slice A n c) n (marks k (n * 2))) (hn : n ≤ 3000000) (hk : k ≤ 3000000) :
    Calls Tryd.prog 24 #[.slice A n c, .int .i64 k] w fun e w' => e = .returned (.int .i64 ((k + n * 2 : Nat) : Int)) ∧ w = w' := by
  by_cases h0 : n = 0
  · subst h0
    clear hown
    go_enter Tryd.func24, Tryd.ntmps24
    go_wp2
    go_loop [1, 5] (fun m i => m = .int .i64 k ∧ i = .int .i64 0) (fun _ _ => 0)
    case atStart => exact ⟨rfl, rfl⟩
    case round =>
      obtain ⟨rfl, rfl⟩ := hrel
      go_wp2
      go_ret
      exact ⟨rfl, rfl⟩
  · rcases hown.2 with ⟨_, h⟩ | ⟨g, cap, cur, hv, hb, hgg, h1, h2, h3, h4⟩
    · omega
    · injection hv with e1 e2 e3
      subst e1; subst e3
      have HC : Hid (∀ j, j < n * 2 → w.cell? ⟨g, j, none⟩ = some (.int .i64 ((k + j : Nat) : Int))) := by
        intro j hj
        have := hown.cells (g := g) rfl j _ (marks_at k (n * 2) j (by omega))
        rw [own_adds] at this
        exact this
      clear hgg h3 h4 hown
      go_enter Tryd.func24, Tryd.ntmps24
      go_wp2
      go_loop [1, 5] (fun m i => ∃ j : Nat, j ≤ n ∧ i = .int .i64 j ∧ m = .int .i64 ((k + j * 2 : Nat) : Int)) (fun _ i => n - (intOf i).toNat)
      case atStart => exact ⟨0, Nat.zero_le _, rfl, rfl⟩
      case round =>
        obtain ⟨j, hj, rfl, rfl⟩ := hrel
        by_cases hlt : j < n
        · have d1 := HC.out (j * 2) (by omega)
          have d2 := HC.out (j * 2 + 1) (by omega)
          rw [show ((k + (j * 2 + 1) : Nat) : Int) = (k : Int) + (j : Int) * 2 + 1 by omega] at d2
          go_wp2
          go_round
          case rel => exact ⟨j + 1, by omega, by go_num, by go_num⟩
          case measure => simp [intOf]; omega
        · obtain rfl : j = n := by omega
          go_wp2
          go_ret
          exact ⟨rfl, rfl⟩

/-- the block of a slice value lies in lo .. hi - 1 -/
def InR (v : Value) (lo hi : Nat) : Prop := ∀ k, v.ownBlock = some k → lo ≤ k ∧ k < hi
theorem own_in {w : World} {base : Nat} {e : TypeId} {size n : Nat} {v : Value} {xs : List Value} (h : w.ownsRow base e size v n xs) : InR v base w.heap.size := fun k hk => h.lt k hk
theorem markBelow {w0 w w' : World} {B base : Nat} {e : TypeId} {size n k : Nat} {v : Value} {lo hi : Nat} (h : Below B w0 w) (hm : MarkOut w base e size v n k w') (hv : InR v lo hi) (hb : B ≤ lo) (hB : B ≤ w.heap.size) : Below B w0 w' :=
  h.grown hm.1 hB (fun k hk => Nat.le_trans hb (hv k hk).1)
theorem markKept {w w' : World} {base base' : Nat} {e e' : TypeId} {size size' n n' k : Nat} {v u : Value} {xs : List Value} {lo hi lo' hi' : Nat} (hu : w.ownsRow base' e' size' u n' xs) (hm : MarkOut w base e size v n k w')
    (hv : InR v lo hi) (hui : InR u lo' hi') (hd : hi ≤ lo' ∨ hi' ≤ lo) : w'.ownsRow base' e' size' u n' xs := by
  refine hu.kept hm.1 ?_
  cases hub : u.ownBlock with
  | none => exact .inl rfl
  | some g =>
    refine .inr (fun he => ?_)
    have h1 := hui g hub
    have h2 := hv g he.symm
    omega
end Go.Proofs.YtfmhmnpmdjpmeaaDoor

/- Plain facts for constraints: a table of the longest ways between six nodes, made step by step in place; what it tells of the values that satisfy all constraints. Nothing of the program is imported. -/
namespace Go.Proofs.YtfmhmnpmdjpmeaaDoor.Cs

/-- a table of numbers between nodes -/
abbrev Tb := Nat → Nat → Int
def put (d : Tb) (i j : Nat) (x : Int) : Tb := fun a b => if a = i ∧ b = j then x else d a b
theorem put_same (d : Tb) (i j : Nat) (x : Int) : put d i j x i j = x := by simp [put]
theorem put_other (d : Tb) {i j a b : Nat} (x : Int) (h : ¬ (a = i ∧ b = j)) : put d i j x a b = d a b := by simp only [put, if_neg h]
/-- one step: the way by k -/
def relax (k i j : Nat) (d : Tb) : Tb := if 0 ≤ d i k ∧ 0 ≤ d k j then put d i j (min 1000 (max (d i j) (d i k + d k j))) else d
def relaxJ (k i : Nat) : Nat → Tb → Tb
  | 0, d => d
  | n + 1, d => relax k i n (relaxJ k i n d)
def relaxI (k : Nat) : Nat → Tb → Tb
  | 0, d => d
  | n + 1, d => relaxJ k n 6 (relaxI k n d)
def relaxK : Nat → Tb → Tb
  | 0, d => d
  | n + 1, d => relaxI n 6 (relaxK n d)

/-- values that keep all distances of the table -/
def Keeps (v : Nat → Int) (d : Tb) : Prop := ∀ i j, 0 ≤ d i j → v i + d i j ≤ v j
theorem Keeps.relax {v : Nat → Int} {d : Tb} (h : Keeps v d) (k i j : Nat) : Keeps v (relax k i j d) := by
  unfold Cs.relax
  split
  · rename_i hc
    intro a b hab
    by_cases e : a = i ∧ b = j
    · obtain ⟨rfl, rfl⟩ := e
      rw [put_same] at hab ⊢
      have h1 := h a k hc.1
      have h2 := h k b hc.2
      by_cases h3 : 0 ≤ d a b
      · have := h a b h3; omega
      · omega
    · rw [put_other d _ e] at hab ⊢
      exact h a b hab
  · exact h
theorem Keeps.relaxJ {v : Nat → Int} {d : Tb} (h : Keeps v d) (k i : Nat) : ∀ n, Keeps v (relaxJ k i n d)
  | 0 => h
  | n + 1 => (Keeps.relaxJ h k i n).relax k i n
theorem Keeps.relaxI {v : Nat → Int} {d : Tb} (h : Keeps v d) (k : Nat) : ∀ n, Keeps v (relaxI k n d)
  | 0 => h
  | n + 1 => (Keeps.relaxI h k n).relaxJ k n 6
theorem Keeps.relaxK {v : Nat → Int} {d : Tb} (h : Keeps v d) : ∀ n, Keeps v (relaxK n d)
  | 0 => h
  | n + 1 => (Keeps.relaxK h n).relaxI n 6

/-- the table only grows, and no further than 1000 -/
def Up (d e : Tb) : Prop := ∀ i j, d i j ≤ e i j ∧ e i j ≤ 1000
theorem Up.refl {d : Tb} (h : ∀ i j, d i j ≤ 1000) : Up d d := fun i j => ⟨Int.le_refl _, h i j⟩
theorem Up.trans {a b c : Tb} (h : Up a b) (k : Up b c) : Up a c := fun i j => ⟨Int.le_trans (h i j).1 (k i j).1, (k i j).2⟩
theorem Up.relax {d : Tb} (h : ∀ i j, d i j ≤ 1000) (k i j : Nat) : Up d (relax k i j d) := by
  unfold Cs.relax
  split
  · intro a b
    by_cases e : a = i ∧ b = j
    · obtain ⟨rfl, rfl⟩ := e
      rw [put_same]
      have := h a b
      omega
    · rw [put_other d _ e]
      exact ⟨Int.le_refl _, h a b⟩
  · exact Up.refl h
theorem Up.relaxJ {d : Tb} (h : ∀ i j, d i j ≤ 1000) (k i : Nat) : ∀ n, Up d (relaxJ k i n d)
  | 0 => Up.refl h
  | n + 1 => (Up.relaxJ h k i n).trans (Up.relax (fun a b => (Up.relaxJ h k i n a b).2) k i n)
theorem Up.relaxI {d : Tb} (h : ∀ i j, d i j ≤ 1000) (k : Nat) : ∀ n, Up d (relaxI k n d)
  | 0 => Up.refl h
  | n + 1 => (Up.relaxI h k n).trans (Up.relaxJ (fun a b => (Up.relaxI h k n a b).2) k n 6)
theorem Up.relaxK {d : Tb} (h : ∀ i j, d i j ≤ 1000) : ∀ n, Up d (relaxK n d)
  | 0 => Up.refl h
  | n + 1 => (Up.relaxK h n).trans (Up.relaxI (fun a b => (Up.relaxK h n a b).2) n 6)

end Go.Proofs.YtfmhmnpmdjpmeaaDoor.Cs

namespace Go.Proofs.YtfmhmnpmdjpmeaaDoor.Cs

/-- a constraint: U, Rel, V -/
abbrev Cn := Int × Int × Int
def node (n : Int) : Nat := (n + 1).toNat
def cOk (c : Cn) : Bool := decide (-1 ≤ c.1) && decide (c.1 < 5) && decide (-1 ≤ c.2.2) && decide (c.2.2 < 5) && decide (0 ≤ c.2.1) && decide (c.2.1 ≤ 2)
def base : Tb := fun i j => if i = j ∨ i = 0 then 0 else -1
def add1 (d : Tb) (c : Cn) : Tb := put d (node c.1) (node c.2.2) (max (d (node c.1) (node c.2.2)) (if c.2.1 = 1 then 1 else 0))
def addC (d : Tb) (c : Cn) : Tb := if c.2.1 = 2 then put (add1 d c) (node c.2.2) (node c.1) (max (add1 d c (node c.2.2) (node c.1)) 0) else add1 d c
def start (l : List Cn) : Tb := l.foldl addC base
/-- the table of a list -/
def tab (l : List Cn) : Tb := relaxK 6 (start l)
/-- no way goes round and grows -/
def flat (l : List Cn) : Bool := (List.range 6).all fun i => decide (tab l i i ≤ 0)
end Go.Proofs.YtfmhmnpmdjpmeaaDoor.Cs

namespace Go.Proofs.YtfmhmnpmdjpmeaaDoor.Cs

def ok (l : List Cn) : Prop := ∀ c ∈ l, cOk c = true
section
variable {l : List Cn} (hf : flat l = true)
include hf
end
/-- values in which node i is N higher than it must be, and all that must follow it -/
def lifted (l : List Cn) (i : Nat) (N : Int) : Nat → Int := fun x => if 0 ≤ tab l i x then max (tab l 0 x) (N + tab l i x) else tab l 0 x
end Go.Proofs.YtfmhmnpmdjpmeaaDoor.Cs

namespace Go.Proofs.YtfmhmnpmdjpmeaaDoor.Cs

/-- the constraints that are not gone, the first of them number k -/
def skipFrom : Nat → List Cn → (Nat → Bool) → List Cn
  | _, [], _ => []
  | k, c :: r, g => if g k = true then skipFrom (k + 1) r g else c :: skipFrom (k + 1) r g
def skip (l : List Cn) (g : Nat → Bool) : List Cn := skipFrom 0 l g
def mark (g : Nat → Bool) (i : Nat) (b : Bool) : Nat → Bool := fun x => if x = i then b else g x
section
variable {l : List Cn} (hok : ok l) (hf : flat l = true)
include hok hf
end
end Go.Proofs.YtfmhmnpmdjpmeaaDoor.Cs

namespace Go.Proofs.YtfmhmnpmdjpmeaaDoor
open Go.RowKit

/-- a node: Op, N, A, B -/
abbrev Nd := Int × Int × Int × Int
abbrev nd0 : Nd := (0, 0, 0, 0)
/-- the cells of a node -/
abbrev Nd.vals (t : Nd) : Array Value := #[.int .i64 t.1, .int .i64 t.2.1, .int .i64 t.2.2.1, .int .i64 t.2.2.2]
/-- the slice value '.slice A n c' reads as the nodes l; its cells lie below block B -/
def NodR (w : World) (B : Nat) (A : Option Addr) (n : Nat) (l : List Nd) : Prop :=
  l.length = n ∧ (0 < n → ∃ b off, A = some ⟨b, off, none⟩ ∧ b < B ∧ ∀ k, k < n →
    w.cell? ⟨b, off + k * 4, none⟩ = some (.int .i64 (l.getD k nd0).1) ∧ w.cell? ⟨b, off + k * 4 + 1, none⟩ = some (.int .i64 (l.getD k nd0).2.1) ∧ w.cell? ⟨b, off + k * 4 + 2, none⟩ = some (.int .i64 (l.getD k nd0).2.2.1) ∧ w.cell? ⟨b, off + k * 4 + 3, none⟩ = some (.int .i64 (l.getD k nd0).2.2.2))
section
variable {w w' : World} {B B' n : Nat} {A : Option Addr}
theorem NodR.keep {l : List Nd} (h : NodR w B A n l) (hk : ∀ p : Addr, p.block < B → w'.cell? p = w.cell? p) : NodR w' B A n l :=
  ⟨h.1, fun hn => by
    obtain ⟨b, off, e, hb, hc⟩ := h.2 hn
    exact ⟨b, off, e, hb, fun k hk' => by rw [hk _ (by exact hb), hk _ (by exact hb), hk _ (by exact hb), hk _ (by exact hb)]; exact hc k hk'⟩⟩
theorem NodR.below {l : List Nd} (h : NodR w B A n l) (hb : Below B w w') : NodR w' B A n l := h.keep fun _ hp => hb.cell hp
theorem NodR.more {l : List Nd} (h : NodR w B A n l) (hB : B ≤ B') : NodR w B' A n l :=
  ⟨h.1, fun hn => by
    obtain ⟨b, off, e, hb, hc⟩ := h.2 hn
    exact ⟨b, off, e, by omega, hc⟩⟩
end
/-- the cells of a list of nodes -/
def nodCells (l : List Nd) : List Value := l.flatMap fun t => [.int .i64 t.1, .int .i64 t.2.1, .int .i64 t.2.2.1, .int .i64 t.2.2.2]
theorem nodCells_cons (t : Nd) (l : List Nd) : nodCells (t :: l) = .int .i64 t.1 :: .int .i64 t.2.1 :: .int .i64 t.2.2.1 :: .int .i64 t.2.2.2 :: nodCells l := rfl
theorem nodCells_len (l : List Nd) : (nodCells l).length = l.length * 4 := by
  induction l with
  | nil => rfl
  | cons t r ih => rw [nodCells_cons]; simp [ih]; omega
theorem nodCells_append (a b : List Nd) : nodCells (a ++ b) = nodCells a ++ nodCells b := by simp [nodCells]
theorem nodCells_one (l : List Nd) : ∀ u ∈ nodCells l, u.oneCell' = true := by
  intro u hu
  simp only [nodCells, List.mem_flatMap] at hu
  obtain ⟨t, _, ht⟩ := hu
  simp at ht
  rcases ht with rfl | rfl | rfl | rfl <;> rfl
theorem nodCells_at (l : List Nd) (k : Nat) (hk : k < l.length) : (nodCells l)[k * 4]? = some (.int .i64 (l.getD k nd0).1) ∧ (nodCells l)[k * 4 + 1]? = some (.int .i64 (l.getD k nd0).2.1) ∧ (nodCells l)[k * 4 + 2]? = some (.int .i64 (l.getD k nd0).2.2.1) ∧ (nodCells l)[k * 4 + 3]? = some (.int .i64 (l.getD k nd0).2.2.2) := by
  induction l generalizing k with
  | nil => simp at hk
  | cons t r ih =>
    rw [nodCells_cons]
    cases k with
    | zero => exact ⟨rfl, rfl, rfl, rfl⟩
    | succ k =>
      have h := ih k (by simpa using hk)
      rw [show (k + 1) * 4 = k * 4 + 1 + 1 + 1 + 1 by omega]
      exact h
/-- a row of the call's own, of nodes -/
abbrev OwnN (w : World) (base : Nat) (A : Option Addr) (n c : Nat) (l : List Nd) : Prop := w.ownsRow base 72 4 (.slice A n c) n (nodCells l)
theorem OwnN.reads {w : World} {base : Nat} {A : Option Addr} {n c : Nat} {l : List Nd} (h : OwnN w base A n c l) : NodR w w.heap.size A n l := by
  have hl : l.length = n := by have := h.1; rw [nodCells_len] at this; omega
  refine ⟨hl, fun hn => ?_⟩
  rcases h.2 with ⟨_, h0⟩ | ⟨g, cap, cur, hv, hb, hgg, h1, h2, h3, h4⟩
  · omega
  · injection hv with e1 e2 e3
    subst e1
    refine ⟨g, 0, rfl, (Array.getElem?_eq_some_iff.1 hgg).1, fun k hk => ?_⟩
    have hat := nodCells_at l k (by omega)
    have c1 := h.cells (g := g) rfl (k * 4) _ hat.1
    have c2 := h.cells (g := g) rfl (k * 4 + 1) _ hat.2.1
    have c3 := h.cells (g := g) rfl (k * 4 + 2) _ hat.2.2.1
    have c4 := h.cells (g := g) rfl (k * 4 + 3) _ hat.2.2.2
    rw [own_adds] at c1 c2 c3 c4
    rw [Nat.zero_add]
    exact ⟨c1, c2, c3, c4⟩
theorem info_nod : (Tryd.prog.info? 72).map (fun i => (i.zero, i.size, i.bytes)) = some (some (.agg #[.int .i64 0, .int .i64 0, .int .i64 0, .int .i64 0]), 4, 32) := by kernel_rfl
end Go.Proofs.YtfmhmnpmdjpmeaaDoor

namespace Go.Proofs.YtfmhmnpmdjpmeaaDoor
open Go.RowKit Go.Maps
set_option maxRecDepth 100000

theorem laidNd : laidOutB Tryd.prog = true := by kernel_rfl
theorem rowNd : (72 : TypeId) < Tryd.prog.types.size := of_decide_eq_true (by kernel_rfl)
theorem wideNd : (match Tryd.prog.underlying 72 with | some (.array _ _) | some (.struct _) => true | _ => false) = true := by rw [Tryd.underlying72]
theorem lawNd : Keyed Tryd.prog 72 := Keyed.of_law (deep_law_laid laidNd (m := 2) (by omega) rowNd (by kernel_rfl) wideNd)
theorem zeroNd (w : World) : (zeroValue 3).run Tryd.prog w = .ok (.int .i64 0) w := by kernel_rfl

def ndWf (x : Nd) : Prop := (Lit.int .i64 x.1).wf = true ∧ (Lit.int .i64 x.2.1).wf = true ∧ (Lit.int .i64 x.2.2.1).wf = true ∧ (Lit.int .i64 x.2.2.2).wf = true
theorem cellsIntNd : Tryd.prog.cellsOf 3 = 1 := by kernel_rfl
theorem cellsNdK : Tryd.prog.cellsOf 72 = 4 := by kernel_rfl
theorem nk_some (x : Nd) (h : ndWf x) : ∃ l, keyOf Tryd.prog 72 (.agg x.vals) = some l := by
  obtain ⟨m, hm⟩ : ∃ m, Tryd.prog.types.size = m + 1 := ⟨Tryd.prog.types.size - 1, by have h : (0 : Nat) < Tryd.prog.types.size := Nat.lt_of_le_of_lt (Nat.zero_le _) rowNd; omega⟩
  have h1 : Tryd.prog.keyType 72 = true := by kernel_rfl
  have h2 : (Value.agg x.vals).formed Tryd.prog 72 = true := by simp [Value.formed, Tryd.underlying72, cellsNdK]
  have h3 : ∀ v : Int, (Lit.int .i64 v).wf = true → Tryd.prog.keyLits (m + 1) 3 [.int .i64 v] = some [.int .i64 v] := by
    intro v hv
    simp [Program.keyLits, Tryd.underlying3, hv]
  have h4 : ∃ l, Tryd.prog.keyLits (m + 1 + 1) 72 (Value.agg x.vals).cells.toList = some l := by
    refine ⟨[.int .i64 x.1, .int .i64 x.2.1, .int .i64 x.2.2.1, .int .i64 x.2.2.2], ?_⟩
    unfold Program.keyLits
    simp only [Tryd.underlying72]
    simp [cellsNdK, cellsIntNd, Value.cells, h3 _ h.1, h3 _ h.2.1, h3 _ h.2.2.1, h3 _ h.2.2.2]
  obtain ⟨l, hl⟩ := h4
  refine ⟨.string (keyBytes l), ?_⟩
  unfold keyOf
  rw [Tryd.underlying72, hm]
  simp only [h1, h2, Bool.and_self, if_true, hl, Option.map_some]
/-- what a node reads as where it is a key -/
noncomputable def nk (x : Nd) : Lit := (keyOf Tryd.prog 72 (.agg x.vals)).getD (.bool false)
theorem nk_key {x : Nd} (h : ndWf x) : keyOf Tryd.prog 72 (.agg x.vals) = some (nk x) := by
  obtain ⟨l, hl⟩ := nk_some x h
  unfold nk
  rw [hl]
  rfl
theorem nk_isKey {x : Nd} (h : ndWf x) : WideAt.IsKeyLit (nk x) := lawNd.key (nk_key h)
theorem nk_ne {x y : Nd} (hx : ndWf x) (hy : ndWf y) (h : x ≠ y) : nk x ≠ nk y := by
  intro e
  have h1 := nk_key hx
  rw [e] at h1
  have h2 := lawNd.inj h1 (nk_key hy)
  apply h
  obtain ⟨a, b, c, d⟩ := x
  obtain ⟨p, q, r, s⟩ := y
  simp at h2
  obtain ⟨rfl, rfl, rfl, rfl⟩ := h2
  rfl

/-- the map D holds just the nodes of l, each with its index -/
def GN (D : DataW Unit) (l : List Nd) : Prop := ∀ x, ndWf x → Maps.has D (nk x) = decide (x ∈ l) ∧ (x ∈ l → ∀ z, D.atKey (nk x) z = .lit (.int .i64 (l.idxOf x)))
theorem gn_start : GN (.map []) [] := fun x _ => ⟨by simp [Maps.has], fun h => by cases h⟩
theorem gn_step {D : DataW Unit} {l : List Nd} {x : Nd} (h : GN D l) (hD : IsMap D) (hx : ndWf x) (hn : x ∉ l) : GN (D.put (nk x) (.lit (.int .i64 (l.length : Int)))) (l ++ [x]) := by
  intro y hy
  by_cases e : y = x
  · subst e
    refine ⟨?_, fun _ z => ?_⟩
    · rw [has_put_same hD (nk_isKey hy)]; simp
    · rw [atKey_put_same hD (nk_isKey hy), List.idxOf_append, if_neg hn]
      simp
  · obtain ⟨h1, h2⟩ := h y hy
    refine ⟨?_, fun hu z => ?_⟩
    · rw [has_put_other (nk_ne hy hx e), h1]; simp [e]
    · have hm : y ∈ l := by simpa [e] using hu
      rw [atKey_put_other (nk_ne hy hx e), h2 hm z, List.idxOf_append, if_pos hm]
end Go.Proofs.YtfmhmnpmdjpmeaaDoor
