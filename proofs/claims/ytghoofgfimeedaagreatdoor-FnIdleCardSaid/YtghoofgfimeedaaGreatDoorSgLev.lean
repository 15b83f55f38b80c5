/- Slices that a call owns: read as lists, kept over other steps; the laws' marks upon them. -/
/- The model's look at a sign. -/
/- LevelSign of the program and of the model. -/
import Derived.Test.YtghoofgfimeedaaGreatDoorEvalLaw
import Derived.Test.YtghoofgfimeedaaGreatDoorSgHas
import Derived.Test.YtghoofgfimeedaaGreatDoorAct
import Derived.Test.YtghoofgfimeedaaGreatDoorLOk
import Derived.Test.YtghoofgfimeedaaGreatDoorSpecEval

namespace Go.Proofs.YtghoofgfimeedaaGreatDoor
open Go.RowKit

/-- the cells of a list of tokens -/
def tokCells (l : List (Int × Int)) : List Value := l.flatMap fun t => [.int .i64 t.1, .int .i64 t.2]
theorem tokCells_nil : tokCells [] = [] := rfl
theorem tokCells_cons (t : Int × Int) (l : List (Int × Int)) : tokCells (t :: l) = .int .i64 t.1 :: .int .i64 t.2 :: tokCells l := rfl
theorem tokCells_len (l : List (Int × Int)) : (tokCells l).length = l.length * 2 := by
  induction l with
  | nil => rfl
  | cons t r ih => rw [tokCells_cons]; simp [ih]; omega
theorem tokCells_append (a b : List (Int × Int)) : tokCells (a ++ b) = tokCells a ++ tokCells b := by simp [tokCells]
theorem tokCells_at (l : List (Int × Int)) (k : Nat) (hk : k < l.length) : (tokCells l)[k * 2]? = some (.int .i64 (l.getD k (0, 0)).1) ∧ (tokCells l)[k * 2 + 1]? = some (.int .i64 (l.getD k (0, 0)).2) := by
  induction l generalizing k with
  | nil => simp at hk
  | cons t r ih =>
    rw [tokCells_cons]
    cases k with
    | zero => exact ⟨rfl, rfl⟩
    | succ k =>
      have h := ih k (by simpa using hk)
      rw [show (k + 1) * 2 = k * 2 + 1 + 1 by omega]
      exact h

/-- a row of the call's own, of numbers -/
abbrev OwnI (w : World) (base : Nat) (A : Option Addr) (n c : Nat) (l : List Int) : Prop := w.ownsRow base 3 1 (.slice A n c) n (l.map (Value.int .i64))
/-- a row of the call's own, of tokens -/
abbrev OwnT (w : World) (base : Nat) (A : Option Addr) (n c : Nat) (l : List (Int × Int)) : Prop := w.ownsRow base 41 2 (.slice A n c) n (tokCells l)

theorem own_adds {g j : Nat} : (⟨g, 0, none⟩ : Addr).add j = ⟨g, j, none⟩ := by
  unfold Addr.add
  by_cases h : j = 0
  · subst h; rfl
  · rw [if_neg h]; simp

theorem OwnI.reads {w : World} {base : Nat} {A : Option Addr} {n c : Nat} {l : List Int} (h : OwnI w base A n c l) : IntR w w.heap.size A n l := by
  have hl : l.length = n := by have := h.1; simpa using this
  refine ⟨hl, fun hn => ?_⟩
  rcases h.2 with ⟨_, h0⟩ | ⟨g, cap, cur, hv, hb, hgg, h1, h2, h3, h4⟩
  · omega
  · injection hv with e1 e2 e3
    subst e1
    refine ⟨g, 0, rfl, (Array.getElem?_eq_some_iff.1 hgg).1, fun k hk => ?_⟩
    have := h.cells (g := g) rfl k (.int .i64 (l.getD k 0)) (by
      have hk' : k < l.length := by omega
      simp [List.getD_eq_getElem?_getD, List.getElem?_eq_getElem hk'])
    rw [own_adds] at this
    rw [Nat.zero_add]
    exact this

theorem OwnT.reads {w : World} {base : Nat} {A : Option Addr} {n c : Nat} {l : List (Int × Int)} (h : OwnT w base A n c l) : TokR w w.heap.size A n l := by
  have hl : l.length = n := by have := h.1; rw [tokCells_len] at this; omega
  refine ⟨hl, fun hn => ?_⟩
  rcases h.2 with ⟨_, h0⟩ | ⟨g, cap, cur, hv, hb, hgg, h1, h2, h3, h4⟩
  · omega
  · injection hv with e1 e2 e3
    subst e1
    refine ⟨g, 0, rfl, (Array.getElem?_eq_some_iff.1 hgg).1, fun k hk => ?_⟩
    have ht := tokCells_at l k (by omega)
    have h5 := h.cells (g := g) rfl (k * 2) _ ht.1
    have h6 := h.cells (g := g) rfl (k * 2 + 1) _ ht.2
    rw [own_adds] at h5 h6
    rw [Nat.zero_add]
    exact ⟨h5, h6⟩

theorem TokOwn.owns {w : World} {g n : Nat} {l : List (Int × Int)} (h : TokOwn w g n l) (hn : n ≤ 1048576) : OwnT w g (some ⟨g, 0, none⟩) n n l := by
  obtain ⟨hl, cs, hblk, hs, hc⟩ := h
  refine ⟨by rw [tokCells_len, hl], .inr ⟨g, n, cs, rfl, Nat.le_refl _, hblk, Nat.le_refl _, by unfold maxLen; omega, hs, ?_⟩⟩
  rw [← hs, List.take_of_length_le (by simp)]
  apply List.ext_getElem?
  intro i
  by_cases hi : i < n * 2
  · rcases Nat.mod_two_eq_zero_or_one i with h0 | h0
    · obtain ⟨k, rfl⟩ : ∃ k, i = k * 2 := ⟨i / 2, by omega⟩
      rw [(tokCells_at l k (by omega)).1, Array.getElem?_toList]
      exact (hc k (by omega)).1
    · obtain ⟨k, rfl⟩ : ∃ k, i = k * 2 + 1 := ⟨i / 2, by omega⟩
      rw [(tokCells_at l k (by omega)).2, Array.getElem?_toList]
      exact (hc k (by omega)).2
  · rw [List.getElem?_eq_none (by simp; omega), List.getElem?_eq_none (by rw [tokCells_len]; omega)]

/-- an owned row below B is kept where all below B is -/
theorem own_below {w w' : World} {B base : Nat} {e : TypeId} {size n : Nat} {v : Value} {xs : List Value} (h : w.ownsRow base e size v n xs) (hb : Below B w w') (hB : ∀ k, v.ownBlock = some k → k < B) : w'.ownsRow base e size v n xs := by
  refine ⟨h.1, ?_⟩
  rcases h.2 with hn | ⟨g, cap, cur, rfl, hbg, hgg, rest⟩
  · exact .inl hn
  · exact .inr ⟨g, cap, cur, rfl, hbg, (hb.block g (hB g rfl)).trans hgg, rest⟩
theorem own_below' {w w' : World} {base : Nat} {e : TypeId} {size n : Nat} {v : Value} {xs : List Value} (h : w.ownsRow base e size v n xs) (hb : Below w.heap.size w w') : w'.ownsRow base e size v n xs :=
  own_below h hb (fun k hk => (h.lt k hk).2)
theorem own_base {w : World} {base base' : Nat} {e : TypeId} {size n : Nat} {v : Value} {xs : List Value} (h : w.ownsRow base e size v n xs) (hb : base' ≤ base) : w.ownsRow base' e size v n xs := by
  refine ⟨h.1, ?_⟩
  rcases h.2 with hn | ⟨g, cap, cur, rfl, hbg, rest⟩
  · exact .inl hn
  · exact .inr ⟨g, cap, cur, rfl, by omega, rest⟩

/-- the marks k, k + 1, .. -/
def marks (k m : Nat) : List Value := (List.range m).map fun i => .int .i64 ((k + i : Nat) : Int)
theorem marks_len (k m : Nat) : (marks k m).length = m := by simp [marks]
theorem marks_at (k m i : Nat) (h : i < m) : (marks k m)[i]? = some (.int .i64 ((k + i : Nat) : Int)) := by simp [marks, h]

/-- the first j cells of a row are marked -/
def Marking (w : World) (g : Nat) (e : TypeId) (sz k j : Nat) (wr : World) : Prop :=
  w.grownBy wr (some g) ∧ wr.heap.size = w.heap.size ∧ ∃ cs, Blk wr g e cs ∧ cs.size = sz ∧ ∀ i, i < j → cs[i]? = some (.int .i64 ((k + i : Nat) : Int))
theorem marking_step {w wr : World} {g sz k j : Nat} {e : TypeId} (h : Marking w g e sz k j wr) (hj : j < sz) : Marking w g e sz k (j + 1) (wr.setCell ⟨g, j, none⟩ (.int .i64 ((k + j : Nat) : Int))) := by
  obtain ⟨hg, hz, cs, hblk, hs, hc⟩ := h
  refine ⟨⟨hg.os, hg.tape, hg.output, by simpa [World.setCell] using hg.size, fun i hi hne => (Below.heap_setCell wr ⟨g, j, none⟩ _ i (by intro he; subst he; exact hne rfl)).trans (hg.block i hi hne)⟩, by simpa [World.setCell] using hz, _, hblk.put _ _, by simp [hs], ?_⟩
  intro i hi
  by_cases e : i = j
  · subst e
    rw [Array.getElem?_setIfInBounds_self_of_lt (by omega)]
  · rw [Array.getElem?_setIfInBounds_ne (by omega)]
    exact hc i (by omega)

/-- a row that has been marked whole -/
theorem marked {w wr : World} {g base n c size k : Nat} {e : TypeId} {xs : List Value} (hown : w.ownsRow base e size (.slice (some ⟨g, 0, none⟩) n c) n xs) (h : Marking w g e (c * size) k (n * size) wr) :
    wr.ownsRow base e size (.slice (some ⟨g, 0, none⟩) n c) n (marks k (n * size)) := by
  obtain ⟨hg, hz, cs, hblk, hs, hc⟩ := h
  rcases hown.2 with ⟨h0, _⟩ | ⟨g', cap, cur, hv, hb, hgg, h1, h2, h3, h4⟩
  · cases h0
  · injection hv with e1 e2 e3
    injection e1 with e1
    injection e1 with e1
    subst e1; subst e3
    have hle : n * size ≤ c * size := Nat.mul_le_mul_right _ h1
    refine ⟨marks_len _ _, .inr ⟨g, c, cs, rfl, hb, hblk, h1, h2, hs, ?_⟩⟩
    apply List.ext_getElem?
    intro i
    by_cases hi : i < n * size
    · rw [marks_at _ _ _ hi, List.getElem?_take_of_lt hi, Array.getElem?_toList]
      exact hc i hi
    · rw [List.getElem?_eq_none (by simp; omega), List.getElem?_eq_none (by rw [marks_len]; omega)]

/-- a mark leaves: the row marked, nothing else turned -/
def MarkOut (w : World) (base : Nat) (e : TypeId) (size : Nat) (v : Value) (n k : Nat) (w' : World) : Prop :=
  w.grownBy w' v.ownBlock ∧ w'.heap.size = w.heap.size ∧ w'.ownsRow base e size v n (marks k (n * size))

theorem own_empty {w : World} {base : Nat} {e : TypeId} {size c : Nat} {A : Option Addr} {xs : List Value} (h : w.ownsRow base e size (.slice A 0 c) 0 xs) (k : Nat) : w.ownsRow base e size (.slice A 0 c) 0 (marks k (0 * size)) := by
  have hx : xs = [] := List.eq_nil_of_length_eq_zero (by simpa using h.1)
  rw [hx] at h
  simpa [marks] using h

/-- the block of a slice value lies in lo .. hi - 1 -/
def InR (v : Value) (lo hi : Nat) : Prop := ∀ k, v.ownBlock = some k → lo ≤ k ∧ k < hi
theorem own_in {w : World} {base : Nat} {e : TypeId} {size n : Nat} {v : Value} {xs : List Value} (h : w.ownsRow base e size v n xs) : InR v base w.heap.size := fun k hk => h.lt k hk
theorem markBelow {w0 w w' : World} {B base : Nat} {e : TypeId} {size n k : Nat} {v : Value} {lo hi : Nat} (h : Below B w0 w) (hm : MarkOut w base e size v n k w') (hv : InR v lo hi) (hb : B ≤ lo) (hB : B ≤ w.heap.size) : Below B w0 w' :=
  h.grown hm.1 hB (fun k hk => Nat.le_trans hb (hv k hk).1)
theorem markKept {w w' : World} {base base' : Nat} {e e' : TypeId} {size size' n n' k : Nat} {v u : Value} {xs : List Value} {lo hi lo' hi' : Nat} (hu : w.ownsRow base' e' size' u n' xs) (hm : MarkOut w base e size v n k w')
    (hv : InR v lo hi) (hui : InR u lo' hi') (hd : hi ≤ lo' ∨ hi' ≤ lo) : w'.ownsRow base' e' size' u n' xs := by
  refine hu.kept hm.1 ?_
  cases hub : u.ownBlock with
  | none => exact .inl rfl
  | some g =>
    refine .inr (fun he => ?_)
    have h1 := hui g hub
    have h2 := hv g he.symm
    omega
end Go.Proofs.YtghoofgfimeedaaGreatDoor

namespace Go.Proofs.YtghoofgfimeedaaGreatDoor
open Go.RowKit

theorem l03Sign_any (w : World) (s : Int) :
    Calls Tryz.prog 52 #[.int .i64 s] w fun e w' => e = .returned (.bool (Sg.isSign s)) ∧ w' = w := by
  by_cases h1 : 0 ≤ s
  · by_cases h2 : s ≤ 31
    · go_enter Tryz.func52, Tryz.ntmps52
      go_wp2
      go_ret
      exact ⟨by simp [Sg.isSign, h1, h2], rfl⟩
    · go_enter Tryz.func52, Tryz.ntmps52
      go_wp2
      go_ret
      exact ⟨by simp [Sg.isSign, h1, h2], rfl⟩
  · go_enter Tryz.func52, Tryz.ntmps52
    go_wp2
    go_ret
    exact ⟨by simp [Sg.isSign]; omega, rfl⟩

end Go.Proofs.YtghoofgfimeedaaGreatDoor

namespace Go.Proofs.YtghoofgfimeedaaGreatDoor
open Go.RowKit

namespace Sg
theorem bit_bd (s p : Int) : 0 ≤ bit s p ∧ bit s p ≤ 1 := by unfold bit; split <;> omega
theorem least_len (s : Int) : (least s).length = 5 := rfl
theorem least_ok (s : Int) : envOk (least s) = true := by
  have h0 := bit_bd s 0; have h1 := bit_bd s 1; have h2 := bit_bd s 2; have h3 := bit_bd s 3; have h4 := bit_bd s 4
  simp [envOk, least]; omega
theorem least_get (s : Int) (k : Nat) (hk : k < 5) : (least s).getD k 0 = bit s k := by
  rcases (show k = 0 ∨ k = 1 ∨ k = 2 ∨ k = 3 ∨ k = 4 by omega) with rfl | rfl | rfl | rfl | rfl <;> rfl
/-- the cells of the least env, made as far as k -/
def cells (s : Int) (k : Nat) : List Value := (List.range 5).map fun (j : Nat) => .int .i64 (if j < k then bit s j else 0)
theorem cells_len (s : Int) (k : Nat) : (cells s k).length = 5 := by simp [cells]
theorem cells_get (s : Int) (k j : Nat) (hj : j < 5) : (cells s k)[j]? = some (.int .i64 (if j < k then bit s j else 0)) := by
  simp [cells, hj]
theorem cells_put (s : Int) (k : Nat) (hk : k < 5) : (cells s k).set k (.int .i64 (bit s k)) = cells s (k + 1) := by
  rcases (show k = 0 ∨ k = 1 ∨ k = 2 ∨ k = 3 ∨ k = 4 by omega) with rfl | rfl | rfl | rfl | rfl <;> simp [cells, List.range, List.range.loop]
theorem bit_eq (s : Int) (hs : 0 ≤ s ∧ s ≤ 31) (k : Nat) (hk : k < 5) : Go.bits BinOp.and IntKind.i64 (s / 2 ^ k) 1 = bit s k := by
  rw [and_one _ (Int.ediv_nonneg hs.1 (Int.pow_nonneg (by decide))) (Int.le_trans (Int.ediv_le_self _ hs.1) hs.2)]
  unfold bit has
  simp only [hs.1, hs.2, Int.toNat_natCast, true_and, decide_eq_true_eq, show (0 : Int) ≤ (k : Int) by omega, show (k : Int) < 5 by omega]
  split <;> omega
end Sg

theorem least_row (w : World) (s : Int) : IntR (w.alloc (.cells (Sg.cells s 5).toArray 3)) (w.heap.size + 1) (some ⟨w.heap.size, 0, none⟩) 5 (Sg.least s) := by
  refine ⟨rfl, fun _ => ⟨w.heap.size, 0, rfl, by omega, fun k hk => ?_⟩⟩
  rw [(Blk.made w _ _).cell, Nat.zero_add, List.getElem?_toArray, Sg.cells_get s 5 k hk, if_pos hk, Sg.least_get s k hk]

set_option maxHeartbeats 800000 in
theorem smallestEnv_any (w : World) (s : Int) (hs : 0 ≤ s ∧ s ≤ 31) :
    Calls Tryz.prog 97 #[.int .i64 s] w fun e w' => e = .returned (.slice (some ⟨w.heap.size, 0, none⟩) 5 5) ∧ w' = w.alloc (.cells (Sg.cells s 5).toArray 3) := by
  have hmk : ∀ w, (Instr.makeSlice 29 (.int .i64 5) (.int .i64 5)).run Tryz.prog w = .ok (.slice (some ⟨w.heap.size, 0, none⟩) 5 5) (w.alloc (.cells #[.int .i64 0, .int .i64 0, .int .i64 0, .int .i64 0, .int .i64 0] 3)) := fun _ => by kernel_rfl
  go_enter Tryz.func97, Tryz.ntmps97
  go_wp2
  go_loopw [8] (fun i wr => ∃ k : Nat, k ≤ 5 ∧ i = .int .i64 k ∧ wr = w.alloc (.cells (Sg.cells s k).toArray 3)) (fun i _ => 5 - (intOf i).toNat)
  case atStart => exact ⟨0, by omega, rfl, rfl⟩
  case round =>
    obtain ⟨k, hk, rfl, rfl⟩ := hrel
    by_cases hlt : k < 5
    · have hb := Sg.bit_eq s hs k hlt
      have HP := Lib.hid (Sg.cells_put s k hlt)
      obtain ⟨v, hv⟩ : ∃ v, (Sg.cells s k)[k]? = some v := ⟨_, Sg.cells_get s k k hlt⟩
      have e0 : (w.alloc (.cells (Sg.cells s k).toArray 3)).cell? ⟨w.heap.size, k, none⟩ = some v := by
        rw [(Blk.made w _ _).cell, List.getElem?_toArray, hv]
      have f0 := (Blk.made w 3 (Sg.cells s k).toArray).thawed k
      have hkt : ((k : Int)).toNat = k := by omega
      clear hv
      obtain ⟨h1, h2⟩ := hs
      generalize Sg.cells s k = cs at *
      go_wp2
      go_roundw
      case rel => exact ⟨k + 1, by omega, by go_num, by rw [HP.out]⟩
      case measure => simp [intOf]; omega
    · obtain rfl : k = 5 := by omega
      go_wp2
      go_ret
      exact ⟨rfl, rfl⟩

/-- what LevelSign answers -/
def lsgR (l : List (Int × Int)) (s : Int) : Int := if Sg.isSign s = true then (match evalR (Sg.least s) l with | some v => min v 1 | none => -1) else -1
theorem lsgR_no {l : List (Int × Int)} {s : Int} (h : Sg.isSign s = false) : lsgR l s = -1 := by unfold lsgR; rw [if_neg (by rw [h]; decide)]
theorem lsgR_none {l : List (Int × Int)} {s : Int} (h : evalR (Sg.least s) l = none) : lsgR l s = -1 := by unfold lsgR; rw [h]; split <;> rfl
theorem lsgR_some {l : List (Int × Int)} {s v : Int} (hs : Sg.isSign s = true) (h : evalR (Sg.least s) l = some v) : lsgR l s = min v 1 := by unfold lsgR; rw [h, if_pos hs]
theorem sign_bd {s : Int} (h : Sg.isSign s = true) : 0 ≤ s ∧ s ≤ 31 := by simpa [Sg.isSign] using h

set_option maxRecDepth 100000 in
set_option maxHeartbeats 1600000 in
theorem implLevelSign_any (w : World) (B : Nat) (A : Option Addr) (n c : Nat) (l : List (Int × Int)) (s : Int) (T : TypeId) (pv : Value) (h0 : 0 < B) (hB : B ≤ w.heap.size)
    (hl : TokR w B A n l) (hn : (n : Int) ≤ 140737488355328) (hE : ErrAt w T pv) :
    Calls Tryz.prog 89 #[.slice A n c, .int .i64 s] w fun e w' => e = .returned (.int .i64 (lsgR l s)) ∧ Below w.heap.size w w' := by
  cases hs : Sg.isSign s with
  | false =>
    have HF := Lib.hid (lsgR_no (l := l) hs)
    clear hl
    go_enter Tryz.func89, Tryz.ntmps89
    go_wp2_with fail
    refine (signOk_any w s).mono ?_
    rintro e w' ⟨rfl, rfl⟩
    rw [hs]
    go_wp2
    go_ret
    exact ⟨by rw [HF.out]; rfl, Below.refl _ _⟩
  | true =>
    have hbd := sign_bd hs
    have hb1 := (Below.refl w.heap.size w).alloc (Nat.le_refl _) (.cells (Sg.cells s 5).toArray 3)
    have hev := levelEval_any (w.alloc (.cells (Sg.cells s 5).toArray 3)) (w.heap.size + 1) A (some ⟨w.heap.size, 0, none⟩) n c 5 5 (Sg.least s) l T pv (by omega) (by simp) ((hl.below (hb1.mono hB)).more (by omega)) hn (least_row w s) (by omega) (hE.below (hb1.mono hB) h0)
    cases hr : evalR (Sg.least s) l with
    | none =>
      rw [hr] at hev
      have HEV := Lib.hid hev
      have HB1 := Lib.hid hb1
      have HF := Lib.hid (lsgR_none (s := s) hr)
      clear hev hb1 hr hl
      go_enter Tryz.func89, Tryz.ntmps89
      go_wp2_with fail
      refine (signOk_any w s).mono ?_
      rintro e w' ⟨rfl, rfl⟩
      rw [hs]
      go_wp2_with fail
      refine (smallestEnv_any _ s hbd).mono ?_
      rintro e w2 ⟨rfl, rfl⟩
      go_wp2_with fail
      refine HEV.out.mono ?_
      rintro e w3 ⟨rfl, hb3⟩
      unfold evalV
      have HB3 := Lib.hid (HB1.out.trans (hb3.mono (by simp)))
      clear hb3
      go_wp2
      go_ret
      exact ⟨by rw [HF.out]; rfl, HB3.out⟩
    | some v =>
      rw [hr] at hev
      have HEV := Lib.hid hev
      have HB1 := Lib.hid hb1
      have HF := Lib.hid (lsgR_some hs hr)
      clear hev hb1 hr hl
      by_cases hv : v ≤ 1
      · have HM : Hid (min v 1 = v) := by unfold Hid; omega
        go_enter Tryz.func89, Tryz.ntmps89
        go_wp2_with fail
        refine (signOk_any w s).mono ?_
        rintro e w' ⟨rfl, rfl⟩
        rw [hs]
        go_wp2_with fail
        refine (smallestEnv_any _ s hbd).mono ?_
        rintro e w2 ⟨rfl, rfl⟩
        go_wp2_with fail
        refine HEV.out.mono ?_
        rintro e w3 ⟨rfl, hb3⟩
        unfold evalV
        have HB3 := Lib.hid (HB1.out.trans (hb3.mono (by simp)))
        clear hb3
        go_wp2
        go_ret
        exact ⟨by rw [HF.out, HM.out]; rfl, HB3.out⟩
      · have HM : Hid (min v 1 = 1) := by unfold Hid; omega
        have hv' : 1 < v := by omega
        go_enter Tryz.func89, Tryz.ntmps89
        go_wp2_with fail
        refine (signOk_any w s).mono ?_
        rintro e w' ⟨rfl, rfl⟩
        rw [hs]
        go_wp2_with fail
        refine (smallestEnv_any _ s hbd).mono ?_
        rintro e w2 ⟨rfl, rfl⟩
        go_wp2_with fail
        refine HEV.out.mono ?_
        rintro e w3 ⟨rfl, hb3⟩
        unfold evalV
        have HB3 := Lib.hid (HB1.out.trans (hb3.mono (by simp)))
        clear hb3
        go_wp2
        go_ret
        exact ⟨by rw [HF.out, HM.out]; rfl, HB3.out⟩

end Go.Proofs.YtghoofgfimeedaaGreatDoor
