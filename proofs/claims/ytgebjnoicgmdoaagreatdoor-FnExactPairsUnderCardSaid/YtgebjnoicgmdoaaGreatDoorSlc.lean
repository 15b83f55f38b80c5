/- Slices that a call owns: read as lists, kept over other steps; the laws' marks upon them. -/
/- The model's look at a sign. -/
/- LevelSign of the program and of the model. -/
/- math/bits.Mul at small numbers; slices.Grow, Repeat and Concat over tokens. -/
import Derived.Test.YtgebjnoicgmdoaaGreatDoorMeth
import Derived.Test.YtgebjnoicgmdoaaGreatDoorSpec
import Derived.Lib.AppendZeros
import Derived.Laws.BitsAllLaws
import Derived.Laws.BitsLemmas
import Derived.Laws.CopyOwn
import Derived.RegionTactic
import Derived.BigRegion

namespace Go.Proofs.YtgebjnoicgmdoaaGreatDoor
open Go.RowKit

/-- the cells of a list of tokens -/
def tokCells (l : List (Int × Int)) : List Value := l.flatMap fun t => [.int .i64 t.1, .int .i64 t.2]
theorem tokCells_nil : tokCells [] = [] := rfl
theorem tokCells_cons (t : Int × Int) (l : List (Int × Int)) : tokCells (t :: l) = .int .i64 t.1 :: .int .i64 t.2 :: tokCells l := rfl
theorem tokCells_len (l : List (Int × Int)) : (tokCells l).length = l.length * 2 := by
  induction l with
  | nil => rfl
  | cons t r ih => rw [tokCells_cons]; simp [ih]; omega
theorem tokCells_append (a b : List (Int × Int)) : tokCells (a ++ b) = tokCells a ++ tokCells b := by simp [tokCells]
theorem tokCells_at (l : List (Int × Int)) (k : Nat) (hk : k < l.length) : (tokCells l)[k * 2]? = some (.int .i64 (l.getD k (0, 0)).1) ∧ (tokCells l)[k * 2 + 1]? = some (.int .i64 (l.getD k (0, 0)).2) := by
  induction l generalizing k with
  | nil => simp at hk
  | cons t r ih =>
    rw [tokCells_cons]
    cases k with
    | zero => exact ⟨rfl, rfl⟩
    | succ k =>
      have h := ih k (by simpa using hk)
      rw [show (k + 1) * 2 = k * 2 + 1 + 1 by omega]
      exact h

/-- a row of the call's own, of numbers -/
abbrev OwnI (w : World) (base : Nat) (A : Option Addr) (n c : Nat) (l : List Int) : Prop := w.ownsRow base 3 1 (.slice A n c) n (l.map (Value.int .i64))
/-- a row of the call's own, of tokens -/
abbrev OwnT (w : World) (base : Nat) (A : Option Addr) (n c : Nat) (l : List (Int × Int)) : Prop := w.ownsRow base 51 2 (.slice A n c) n (tokCells l)

theorem own_adds {g j : Nat} : (⟨g, 0, none⟩ : Addr).add j = ⟨g, j, none⟩ := by
  unfold Addr.add
  by_cases h : j = 0
  · subst h; rfl
  · rw [if_neg h]; simp

theorem OwnI.reads {w : World} {base : Nat} {A : Option Addr} {n c : Nat} {l : List Int} (h : OwnI w base A n c l) : IntR w w.heap.size A n l := by
  have hl : l.length = n := by have := h.1; simpa using this
  refine ⟨hl, fun hn => ?_⟩
  rcases h.2 with ⟨_, h0⟩ | ⟨g, cap, cur, hv, hb, hgg, h1, h2, h3, h4⟩
  · omega
  · injection hv with e1 e2 e3
    subst e1
    refine ⟨g, 0, rfl, (Array.getElem?_eq_some_iff.1 hgg).1, fun k hk => ?_⟩
    have := h.cells (g := g) rfl k (.int .i64 (l.getD k 0)) (by
      have hk' : k < l.length := by omega
      simp [List.getD_eq_getElem?_getD, List.getElem?_eq_getElem hk'])
    rw [own_adds] at this
    rw [Nat.zero_add]
    exact this

theorem OwnT.reads {w : World} {base : Nat} {A : Option Addr} {n c : Nat} {l : List (Int × Int)} (h : OwnT w base A n c l) : TokR w w.heap.size A n l := by
  have hl : l.length = n := by have := h.1; rw [tokCells_len] at this; omega
  refine ⟨hl, fun hn => ?_⟩
  rcases h.2 with ⟨_, h0⟩ | ⟨g, cap, cur, hv, hb, hgg, h1, h2, h3, h4⟩
  · omega
  · injection hv with e1 e2 e3
    subst e1
    refine ⟨g, 0, rfl, (Array.getElem?_eq_some_iff.1 hgg).1, fun k hk => ?_⟩
    have ht := tokCells_at l k (by omega)
    have h5 := h.cells (g := g) rfl (k * 2) _ ht.1
    have h6 := h.cells (g := g) rfl (k * 2 + 1) _ ht.2
    rw [own_adds] at h5 h6
    rw [Nat.zero_add]
    exact ⟨h5, h6⟩

/-- an owned row below B is kept where all below B is -/
theorem own_below {w w' : World} {B base : Nat} {e : TypeId} {size n : Nat} {v : Value} {xs : List Value} (h : w.ownsRow base e size v n xs) (hb : Below B w w') (hB : ∀ k, v.ownBlock = some k → k < B) : w'.ownsRow base e size v n xs := by
  refine ⟨h.1, ?_⟩
  rcases h.2 with hn | ⟨g, cap, cur, rfl, hbg, hgg, rest⟩
  · exact .inl hn
  · exact .inr ⟨g, cap, cur, rfl, hbg, (hb.block g (hB g rfl)).trans hgg, rest⟩
theorem own_below' {w w' : World} {base : Nat} {e : TypeId} {size n : Nat} {v : Value} {xs : List Value} (h : w.ownsRow base e size v n xs) (hb : Below w.heap.size w w') : w'.ownsRow base e size v n xs :=
  own_below h hb (fun k hk => (h.lt k hk).2)
theorem own_base {w : World} {base base' : Nat} {e : TypeId} {size n : Nat} {v : Value} {xs : List Value} (h : w.ownsRow base e size v n xs) (hb : base' ≤ base) : w.ownsRow base' e size v n xs := by
  refine ⟨h.1, ?_⟩
  rcases h.2 with hn | ⟨g, cap, cur, rfl, hbg, rest⟩
  · exact .inl hn
  · exact .inr ⟨g, cap, cur, rfl, by omega, rest⟩

/-- the marks k, k + 1, .. -/
def marks (k m : Nat) : List Value := (List.range m).map fun i => .int .i64 ((k + i : Nat) : Int)
/-- a mark leaves: the row marked, nothing else turned -/
def MarkOut (w : World) (base : Nat) (e : TypeId) (size : Nat) (v : Value) (n k : Nat) (w' : World) : Prop :=
  w.grownBy w' v.ownBlock ∧ w'.heap.size = w.heap.size ∧ w'.ownsRow base e size v n (marks k (n * size))

/-- the block of a slice value lies in lo .. hi - 1 -/
def InR (v : Value) (lo hi : Nat) : Prop := ∀ k, v.ownBlock = some k → lo ≤ k ∧ k < hi
theorem markBelow {w0 w w' : World} {B base : Nat} {e : TypeId} {size n k : Nat} {v : Value} {lo hi : Nat} (h : Below B w0 w) (hm : MarkOut w base e size v n k w') (hv : InR v lo hi) (hb : B ≤ lo) (hB : B ≤ w.heap.size) : Below B w0 w' :=
  h.grown hm.1 hB (fun k hk => Nat.le_trans hb (hv k hk).1)
theorem markKept {w w' : World} {base base' : Nat} {e e' : TypeId} {size size' n n' k : Nat} {v u : Value} {xs : List Value} {lo hi lo' hi' : Nat} (hu : w.ownsRow base' e' size' u n' xs) (hm : MarkOut w base e size v n k w')
    (hv : InR v lo hi) (hui : InR u lo' hi') (hd : hi ≤ lo' ∨ hi' ≤ lo) : w'.ownsRow base' e' size' u n' xs := by
  refine hu.kept hm.1 ?_
  cases hub : u.ownBlock with
  | none => exact .inl rfl
  | some g =>
    refine .inr (fun he => ?_)
    have h1 := hui g hub
    have h2 := hv g he.symm
    omega
end Go.Proofs.YtgebjnoicgmdoaaGreatDoor

namespace Go.Proofs.YtgebjnoicgmdoaaGreatDoor
open Go.RowKit

theorem l03Sign_any (w : World) (s : Int) :
    Calls Tryz.prog 130 #[.int .i64 s] w fun e w' => e = .returned (.bool (Sg.isSign s)) ∧ w' = w := by
  by_cases h1 : 0 ≤ s
  · by_cases h2 : s ≤ 31
    · go_enter Tryz.func130, Tryz.ntmps130
      go_wp2
      go_ret
      exact ⟨by simp [Sg.isSign, h1, h2], rfl⟩
    · go_enter Tryz.func130, Tryz.ntmps130
      go_wp2
      go_ret
      exact ⟨by simp [Sg.isSign, h1, h2], rfl⟩
  · go_enter Tryz.func130, Tryz.ntmps130
    go_wp2
    go_ret
    exact ⟨by simp [Sg.isSign]; omega, rfl⟩

end Go.Proofs.YtgebjnoicgmdoaaGreatDoor

namespace Go.Proofs.YtgebjnoicgmdoaaGreatDoor
open Go.RowKit

namespace Sg
theorem bit_bd (s p : Int) : 0 ≤ bit s p ∧ bit s p ≤ 1 := by unfold bit; split <;> omega
theorem least_ok (s : Int) : envOk (least s) = true := by
  have h0 := bit_bd s 0; have h1 := bit_bd s 1; have h2 := bit_bd s 2; have h3 := bit_bd s 3; have h4 := bit_bd s 4
  simp [envOk, least]; omega
theorem least_get (s : Int) (k : Nat) (hk : k < 5) : (least s).getD k 0 = bit s k := by
  rcases (show k = 0 ∨ k = 1 ∨ k = 2 ∨ k = 3 ∨ k = 4 by omega) with rfl | rfl | rfl | rfl | rfl <;> rfl
/-- the cells of the least env, made as far as k -/
def cells (s : Int) (k : Nat) : List Value := (List.range 5).map fun (j : Nat) => .int .i64 (if j < k then bit s j else 0)
theorem cells_get (s : Int) (k j : Nat) (hj : j < 5) : (cells s k)[j]? = some (.int .i64 (if j < k then bit s j else 0)) := by
  simp [cells, hj]
theorem cells_put (s : Int) (k : Nat) (hk : k < 5) : (cells s k).set k (.int .i64 (bit s k)) = cells s (k + 1) := by
  rcases (show k = 0 ∨ k = 1 ∨ k = 2 ∨ k = 3 ∨ k = 4 by omega) with rfl | rfl | rfl | rfl | rfl <;> simp [cells, List.range, List.range.loop]
theorem bit_eq (s : Int) (hs : 0 ≤ s ∧ s ≤ 31) (k : Nat) (hk : k < 5) : Go.bits BinOp.and IntKind.i64 (s / 2 ^ k) 1 = bit s k := by
  rw [and_one _ (Int.ediv_nonneg hs.1 (Int.pow_nonneg (by decide))) (Int.le_trans (Int.ediv_le_self _ hs.1) hs.2)]
  unfold bit has
  simp only [hs.1, hs.2, Int.toNat_natCast, true_and, decide_eq_true_eq, show (0 : Int) ≤ (k : Int) by omega, show (k : Int) < 5 by omega]
  split <;> omega
end Sg

theorem least_row (w : World) (s : Int) : IntR (w.alloc (.cells (Sg.cells s 5).toArray 3)) (w.heap.size + 1) (some ⟨w.heap.size, 0, none⟩) 5 (Sg.least s) := by
  refine ⟨rfl, fun _ => ⟨w.heap.size, 0, rfl, by omega, fun k hk => ?_⟩⟩
  rw [(Blk.made w _ _).cell, Nat.zero_add, List.getElem?_toArray, Sg.cells_get s 5 k hk, if_pos hk, Sg.least_get s k hk]

set_option maxHeartbeats 800000 in
theorem smallestEnv_any (w : World) (s : Int) (hs : 0 ≤ s ∧ s ≤ 31) :
    Calls Tryz.prog 168 #[.int .i64 s] w fun e w' => e = .returned (.slice (some ⟨w.heap.size, 0, none⟩) 5 5) ∧ w' = w.alloc (.cells (Sg.cells s 5).toArray 3) := by
  have hmk : ∀ w, (Instr.makeSlice 29 (.int .i64 5) (.int .i64 5)).run Tryz.prog w = .ok (.slice (some ⟨w.heap.size, 0, none⟩) 5 5) (w.alloc (.cells #[.int .i64 0, .int .i64 0, .int .i64 0, .int .i64 0, .int .i64 0] 3)) := fun _ => by kernel_rfl
  go_enter Tryz.func168, Tryz.ntmps168
  go_wp2
  go_loopw [8] (fun i wr => ∃ k : Nat, k ≤ 5 ∧ i = .int .i64 k ∧ wr = w.alloc (.cells (Sg.cells s k).toArray 3)) (fun i _ => 5 - (intOf i).toNat)
  case atStart => exact ⟨0, by omega, rfl, rfl⟩
  case round =>
    obtain ⟨k, hk, rfl, rfl⟩ := hrel
    by_cases hlt : k < 5
    · have hb := Sg.bit_eq s hs k hlt
      have HP := Lib.hid (Sg.cells_put s k hlt)
      obtain ⟨v, hv⟩ : ∃ v, (Sg.cells s k)[k]? = some v := ⟨_, Sg.cells_get s k k hlt⟩
      have e0 : (w.alloc (.cells (Sg.cells s k).toArray 3)).cell? ⟨w.heap.size, k, none⟩ = some v := by
        rw [(Blk.made w _ _).cell, List.getElem?_toArray, hv]
      have f0 := (Blk.made w 3 (Sg.cells s k).toArray).thawed k
      have hkt : ((k : Int)).toNat = k := by omega
      clear hv
      obtain ⟨h1, h2⟩ := hs
      generalize Sg.cells s k = cs at *
      go_wp2
      go_roundw
      case rel => exact ⟨k + 1, by omega, by go_num, by rw [HP.out]⟩
      case measure => simp [intOf]; omega
    · obtain rfl : k = 5 := by omega
      go_wp2
      go_ret
      exact ⟨rfl, rfl⟩

/-- what LevelSign answers -/
def lsgR (l : List (Int × Int)) (s : Int) : Int := if Sg.isSign s = true then (match evalR (Sg.least s) l with | some v => min v 1 | none => -1) else -1
theorem lsgR_no {l : List (Int × Int)} {s : Int} (h : Sg.isSign s = false) : lsgR l s = -1 := by unfold lsgR; rw [if_neg (by rw [h]; decide)]
theorem lsgR_none {l : List (Int × Int)} {s : Int} (h : evalR (Sg.least s) l = none) : lsgR l s = -1 := by unfold lsgR; rw [h]; split <;> rfl
theorem lsgR_some {l : List (Int × Int)} {s v : Int} (hs : Sg.isSign s = true) (h : evalR (Sg.least s) l = some v) : lsgR l s = min v 1 := by unfold lsgR; rw [h, if_pos hs]
theorem sign_bd {s : Int} (h : Sg.isSign s = true) : 0 ≤ s ∧ s ≤ 31 := by simpa [Sg.isSign] using h

set_option maxRecDepth 100000 in
set_option maxHeartbeats 1600000 in
theorem implLevelSign_any (w : World) (B : Nat) (A : Option Addr) (n c : Nat) (l : List (Int × Int)) (s : Int) (T : TypeId) (pv : Value) (h0 : 1 < B) (hB : B ≤ w.heap.size)
    (hl : TokR w B A n l) (hn : (n : Int) ≤ 140737488355328) (hE : ErrAt w T pv) :
    Calls Tryz.prog 165 #[.slice A n c, .int .i64 s] w fun e w' => e = .returned (.int .i64 (lsgR l s)) ∧ Below w.heap.size w w' := by
  cases hs : Sg.isSign s with
  | false =>
    have HF := Lib.hid (lsgR_no (l := l) hs)
    clear hl
    go_enter Tryz.func165, Tryz.ntmps165
    go_wp2_with fail
    refine (signOk_any w s).mono ?_
    rintro e w' ⟨rfl, rfl⟩
    rw [hs]
    go_wp2
    go_ret
    exact ⟨by rw [HF.out]; rfl, Below.refl _ _⟩
  | true =>
    have hbd := sign_bd hs
    have hb1 := (Below.refl w.heap.size w).alloc (Nat.le_refl _) (.cells (Sg.cells s 5).toArray 3)
    have hev := levelEval_any (w.alloc (.cells (Sg.cells s 5).toArray 3)) (w.heap.size + 1) A (some ⟨w.heap.size, 0, none⟩) n c 5 5 (Sg.least s) l T pv (by omega) (by simp) ((hl.below (hb1.mono hB)).more (by omega)) hn (least_row w s) (by omega) (hE.below (hb1.mono hB) h0)
    cases hr : evalR (Sg.least s) l with
    | none =>
      rw [hr] at hev
      have HEV := Lib.hid hev
      have HB1 := Lib.hid hb1
      have HF := Lib.hid (lsgR_none (s := s) hr)
      clear hev hb1 hr hl
      go_enter Tryz.func165, Tryz.ntmps165
      go_wp2_with fail
      refine (signOk_any w s).mono ?_
      rintro e w' ⟨rfl, rfl⟩
      rw [hs]
      go_wp2_with fail
      refine (smallestEnv_any _ s hbd).mono ?_
      rintro e w2 ⟨rfl, rfl⟩
      go_wp2_with fail
      refine HEV.out.mono ?_
      rintro e w3 ⟨rfl, hb3⟩
      unfold evalV
      have HB3 := Lib.hid (HB1.out.trans (hb3.mono (by simp)))
      clear hb3
      go_wp2
      go_ret
      exact ⟨by rw [HF.out]; rfl, HB3.out⟩
    | some v =>
      rw [hr] at hev
      have HEV := Lib.hid hev
      have HB1 := Lib.hid hb1
      have HF := Lib.hid (lsgR_some hs hr)
      clear hev hb1 hr hl
      by_cases hv : v ≤ 1
      · have HM : Hid (min v 1 = v) := by unfold Hid; omega
        go_enter Tryz.func165, Tryz.ntmps165
        go_wp2_with fail
        refine (signOk_any w s).mono ?_
        rintro e w' ⟨rfl, rfl⟩
        rw [hs]
        go_wp2_with fail
        refine (smallestEnv_any _ s hbd).mono ?_
        rintro e w2 ⟨rfl, rfl⟩
        go_wp2_with fail
        refine HEV.out.mono ?_
        rintro e w3 ⟨rfl, hb3⟩
        unfold evalV
        have HB3 := Lib.hid (HB1.out.trans (hb3.mono (by simp)))
        clear hb3
        go_wp2
        go_ret
        exact ⟨by rw [HF.out, HM.out]; rfl, HB3.out⟩
      · have HM : Hid (min v 1 = 1) := by unfold Hid; omega
        have hv' : 1 < v := by omega
        go_enter Tryz.func165, Tryz.ntmps165
        go_wp2_with fail
        refine (signOk_any w s).mono ?_
        rintro e w' ⟨rfl, rfl⟩
        rw [hs]
        go_wp2_with fail
        refine (smallestEnv_any _ s hbd).mono ?_
        rintro e w2 ⟨rfl, rfl⟩
        go_wp2_with fail
        refine HEV.out.mono ?_
        rintro e w3 ⟨rfl, hb3⟩
        unfold evalV
        have HB3 := Lib.hid (HB1.out.trans (hb3.mono (by simp)))
        clear hb3
        go_wp2
        go_ret
        exact ⟨by rw [HF.out, HM.out]; rfl, HB3.out⟩

end Go.Proofs.YtgebjnoicgmdoaaGreatDoor

namespace Go.Proofs.YtgebjnoicgmdoaaGreatDoor
open Go.RowKit

set_option maxHeartbeats 800000 in
theorem mul64_one (y : Nat) (hy : y ≤ 1000) (w : World) :
    Calls Tryz.prog 167 #[.int .u64 1, .int .u64 y] w fun e w' => e = .returned (.tuple #[.int .u64 0, .int .u64 y]) ∧ w = w' := by
  have a1 : bits BinOp.and IntKind.u64 1 4294967295 = 1 := by decide +kernel
  have a0 : bits BinOp.and IntKind.u64 0 4294967295 = 0 := by decide +kernel
  have ay : bits BinOp.and IntKind.u64 (y : Int) 4294967295 = (y : Int) := by
    have h := bits_and_u64_nat y 4294967295 (by omega) (by omega)
    rw [show y &&& 4294967295 = y % 4294967296 from Nat.and_two_pow_sub_one_eq_mod y 32, Nat.mod_eq_of_lt (by omega)] at h
    exact h
  have wy : IntKind.u64.wrap (y : Int) = (y : Int) := by rw [IntKind.wrap_u64]; omega
  have w0 : IntKind.u64.wrap 0 = 0 := by rw [IntKind.wrap_u64]; rfl
  have dy : (y : Int) / 4294967296 = 0 := by omega
  have H1 := Lib.hid a1
  have H2 := Lib.hid a0
  have H3 := Lib.hid ay
  have H4 := Lib.hid wy
  have H5 := Lib.hid w0
  have H6 := Lib.hid dy
  clear a1 a0 ay wy w0 dy
  go_enter Tryz.func167, Tryz.ntmps167
  go_wp2
  simp only [H1.out, H2.out, H3.out, H4.out, H5.out, H6.out, Int.one_mul, Int.mul_zero, Int.zero_ediv, Int.add_zero]
  go_ret2
  exact ⟨rfl, rfl⟩

set_option maxHeartbeats 800000 in
theorem mul_one (y : Nat) (hy : y ≤ 1000) (w : World) :
    Calls Tryz.prog 159 #[.int .u64 1, .int .u64 y] w fun e w' => e = .returned (.tuple #[.int .u64 0, .int .u64 y]) ∧ w = w' := by
  go_enter Tryz.func159, Tryz.ntmps159
  go_wp2_with fail
  refine (mul64_one y hy w).mono ?_
  rintro e w' ⟨rfl, rfl⟩
  go_wp2
  go_ret2
  exact ⟨rfl, rfl⟩

/-- a call gives back a slice of tokens of its own that is not nil -/
def ResT (w : World) (l : List (Int × Int)) (e : Ending) (w' : World) : Prop :=
  ∃ g c, e = .returned (.slice (some ⟨g, 0, none⟩) l.length c) ∧ OwnT w' w.heap.size (some ⟨g, 0, none⟩) l.length c l ∧ Below w.heap.size w w'

set_option maxRecDepth 100000 in
set_option maxHeartbeats 800000 in
theorem grow_nil (n : Nat) (h1 : 1 ≤ n) (hn : n ≤ 1000) (w : World) :
    Calls Tryz.prog 158 #[.slice none 0 0, .int .i64 n] w (ResT w []) := by
  obtain ⟨i0, hi, hz0, hz1, hz2⟩ := info_parts info_tok
  have hr := Lib.run_append_nil_zeros (P := Tryz.prog) w 25 3 25 51 i0 _ .i64 .i64 Tryz.underlying25 Tryz.underlying3 hi hz0 n (by omega) (by omega) (by omega) (by rw [hz2]; omega)
  have hge := grownCap_ge w n 0 51
  have hle := grownCap_le_maxLen w n 0 51 (by unfold maxLen; omega)
  generalize grownCap w n 0 51 = cp at hr hge hle
  obtain ⟨cur, hcur⟩ : ∃ cur, Builtin.zeroCells (Value.agg #[.int .i64 0, .int .i64 0]).cells n ++ Builtin.zeroCells (Value.agg #[.int .i64 0, .int .i64 0]).cells (cp - n) = cur := ⟨_, rfl⟩
  have hsz : cur.size = cp * 2 := by
    rw [← hcur, Array.size_append, size_zeroCells, size_zeroCells]
    have : (Value.agg #[.int .i64 0, .int .i64 0]).cells.size = 2 := rfl
    rw [this]; omega
  rw [hcur] at hr
  have HO : Hid (OwnT (w.drew.alloc (.cells cur 51)) w.heap.size (some ⟨w.heap.size, 0, none⟩) 0 cp []) :=
    World.ownsRow_made w.drew cur cp (Nat.le_refl _) hle hsz
  have HB : Hid (Below w.heap.size w (w.drew.alloc (.cells cur 51))) := (Below.refl _ _).drew.alloc (Nat.le_refl _) _
  have HR := Lib.hid hr
  clear hr hcur hsz hle hi hz0 hz1 hz2
  go_enter Tryz.func158, Tryz.ntmps158
  go_wp2_with (at_builtin; refine Lib.wpList_append_run _ rfl (.tmp 20) (.tmp 21) 25 3 rfl (.slice none 0 0) (.int .i64 n) rfl rfl _ _ HR.out ?_)
  go_wp2
  go_ret
  exact ⟨w.heap.size, cp, rfl, HO.out, HB.out⟩

/-- copy between rows whose elements have several cells -/
theorem run_copyN {P : Program} (w : World) (dT sT ty elem : TypeId) (g o dLen dCap : Nat) (a : Addr) (sLen sCap size : Nat) (cur : Array Value) (t : TypeId) (cs : List Value)
    (hu : P.underlying dT = some (.slice elem)) (i : TypeInfo) (hi : P.info? elem = some i) (hs : i.size = size)
    (hg : w.heap[g]? = some (.cells cur t (0, 0))) (hn : cs.length = Nat.min sLen dLen * size)
    (hsrc : ∀ j v, cs[j]? = some v → w.cell? (a.add j) = some v) (hfit : o + cs.length ≤ cur.size) (h1 : ∀ v ∈ cs, v.oneCell' = true) :
    (Builtin.copy_ #[dT, sT] ty #[.slice (some ⟨g, o, none⟩) dLen dCap, .slice (some a) sLen sCap]).run P w =
      .ok (goInt (Nat.min sLen dLen)) (w.setRow g (cur.toList.take o ++ cs ++ cur.toList.drop (o + cs.length)).toArray) := by
  have hf := run_firstCells_some (P := P) w size (Nat.min sLen dLen) a sLen sCap cs hn hsrc
  have hst := run_storeCells_at P g o t cs 0 cur w hg (by simpa using hfit) h1
  simp [Builtin.copy_, run_underlying hu, Builtin.lenOf, sizeOf, typeInfo, hi, hs, hf, hst]

/-- a token that is a successor, n times -/
def sxs (n : Nat) : List (Int × Int) := List.replicate n (1, 0)
theorem sxs_cells (n j : Nat) (h : j < n * 2) : (tokCells (sxs n))[j]? = some (.int .i64 (if j % 2 = 0 then 1 else 0)) := by
  have hl : (sxs n).length = n := by simp [sxs]
  have hg : ∀ k, k < n → (sxs n).getD k (0, 0) = (1, 0) := by
    intro k hk
    simp [sxs, List.getD_eq_getElem?_getD, hk]
  rcases Nat.mod_two_eq_zero_or_one j with h0 | h0
  · obtain ⟨k, rfl⟩ : ∃ k, j = k * 2 := ⟨j / 2, by omega⟩
    rw [(tokCells_at _ k (by omega)).1, hg k (by omega), if_pos h0]
  · obtain ⟨k, rfl⟩ : ∃ k, j = k * 2 + 1 := ⟨j / 2, by omega⟩
    rw [(tokCells_at _ k (by omega)).2, hg k (by omega), if_neg (by omega)]
theorem sxs_one (n : Nat) : ∀ v ∈ tokCells (sxs n), v.oneCell' = true := by
  intro v hv
  simp only [tokCells, List.mem_flatMap] at hv
  obtain ⟨t, _, ht⟩ := hv
  simp at ht
  rcases ht with rfl | rfl <;> rfl

/-- the first k of n tokens are successors -/
def Rep (w : World) (g n k : Nat) (wr : World) : Prop :=
  Below w.heap.size w wr ∧ ∃ cs, Blk wr g 51 cs ∧ cs.size = n * 2 ∧ ∀ j, j < k * 2 → cs[j]? = some (.int .i64 (if j % 2 = 0 then 1 else 0))

theorem rep_copy {w wr : World} {n k m : Nat} (h : Rep w w.heap.size n k wr) (hm : k + m ≤ n) (cs : Array Value) (hb : Blk wr w.heap.size 51 cs) :
    Rep w w.heap.size n (k + m) (wr.setRow w.heap.size (cs.toList.take (k * 2) ++ tokCells (sxs m) ++ cs.toList.drop (k * 2 + (tokCells (sxs m)).length)).toArray) := by
  obtain ⟨hbel, cs', hblk, hs, hc⟩ := h
  have e := Eq.trans (Eq.symm hblk) hb
  injection e with e
  injection e with e
  subst e
  have hlen : (tokCells (sxs m)).length = m * 2 := by rw [tokCells_len]; simp [sxs]
  refine ⟨below_setRow hbel (Nat.le_refl _) _, _, setRow_heap wr w.heap.size cs' _ 51 (0, 0) hblk, by simp [hlen, hs]; omega, ?_⟩
  intro j hj
  rw [List.getElem?_toArray, List.append_assoc]
  by_cases h1 : j < k * 2
  · rw [List.getElem?_append_left (by simp; omega), List.getElem?_take_of_lt h1, Array.getElem?_toList]
    exact hc j h1
  · rw [List.getElem?_append_right (by simp; omega)]
    have ht : (cs'.toList.take (k * 2)).length = k * 2 := by simp; omega
    rw [ht, List.getElem?_append_left (by rw [hlen]; omega), sxs_cells m (j - k * 2) (by omega), show (j - k * 2) % 2 = j % 2 by omega]

theorem rep_done {w wr : World} {n : Nat} (h : Rep w w.heap.size n n wr) (hn : n ≤ 1000) : OwnT wr w.heap.size (some ⟨w.heap.size, 0, none⟩) (sxs n).length n (sxs n) := by
  have hl : (sxs n).length = n := by simp [sxs]
  obtain ⟨hbel, cs, hblk, hs, hc⟩ := h
  rw [hl]
  refine ⟨by rw [tokCells_len, hl], .inr ⟨w.heap.size, n, cs, rfl, Nat.le_refl _, hblk, Nat.le_refl _, by unfold maxLen; omega, hs, ?_⟩⟩
  rw [← hs, List.take_of_length_le (by simp)]
  apply List.ext_getElem?
  intro i
  by_cases hi : i < n * 2
  · rw [sxs_cells n i hi, Array.getElem?_toList]
    exact hc i hi
  · rw [List.getElem?_eq_none (by simp; omega), List.getElem?_eq_none (by rw [tokCells_len, hl]; omega)]

set_option maxRecDepth 100000 in
set_option maxHeartbeats 1600000 in
theorem repeat_one (n : Nat) (hn : n ≤ 24) (w : World) (gx cx : Nat) (hgx : gx < w.heap.size) (x0 : w.cell? ⟨gx, 0, none⟩ = some (.int .i64 1)) (x1 : w.cell? ⟨gx, 1, none⟩ = some (.int .i64 0)) :
    Calls Tryz.prog 144 #[.slice (some ⟨gx, 0, none⟩) 1 cx, .int .i64 n] w (ResT w (sxs n)) := by
  obtain ⟨i0, hi, hz0, hz1, hz2⟩ := info_parts info_tok
  have hmk : ∀ wx, (Instr.makeSlice 25 (.int .i64 (n : Int)) (.int .i64 (n : Int))).run Tryz.prog wx = .ok (.slice (some ⟨wx.heap.size, 0, none⟩) n n) (wx.alloc (.cells (madeCells (Value.agg #[.int .i64 0, .int .i64 0]).cells (n * 2)) 51)) := by
    intro wx
    have hr := run_make (P := Tryz.prog) wx 25 51 i0 _ Tryz.underlying25 hi hz0 .i64 .i64 n n (by omega) (by omega) (by rw [hz2]; omega) (by omega)
    simp only [Int.toNat_natCast, hz1] at hr
    exact hr
  obtain ⟨cur, hcur⟩ : ∃ cur, madeCells (Value.agg #[.int .i64 0, .int .i64 0]).cells (n * 2) = cur := ⟨_, rfl⟩
  have hcs : cur.size = n * 2 := by rw [← hcur]; simp [madeCells]
  rw [hcur] at hmk
  have hst : Rep w w.heap.size n 0 (w.alloc (.cells cur 51)) := ⟨(Below.refl _ _).alloc (Nat.le_refl _) _, cur, Blk.made _ _ _, hcs, by intro j hj; omega⟩
  have hc1 : (Builtin.copy_ #[25, 25] 3 #[.slice (some ⟨w.heap.size, 0, none⟩) n n, .slice (some ⟨gx, 0, none⟩) 1 cx]).run Tryz.prog (w.alloc (.cells cur 51)) =
      .ok (goInt (Nat.min 1 n)) ((w.alloc (.cells cur 51)).setRow w.heap.size (cur.toList.take (0 * 2) ++ tokCells (sxs (Nat.min 1 n)) ++ cur.toList.drop (0 * 2 + (tokCells (sxs (Nat.min 1 n))).length)).toArray) := by
    have hlen : (tokCells (sxs (Nat.min 1 n))).length = Nat.min 1 n * 2 := by rw [tokCells_len]; simp [sxs]
    have hmin : Nat.min 1 n ≤ n := Nat.min_le_right _ _
    have hmin1 : Nat.min 1 n ≤ 1 := Nat.min_le_left _ _
    have h := run_copyN (P := Tryz.prog) (w.alloc (.cells cur 51)) 25 25 3 51 w.heap.size 0 n n ⟨gx, 0, none⟩ 1 cx 2 cur 51 (tokCells (sxs (Nat.min 1 n))) Tryz.underlying25 i0 hi hz1 (heap_alloc_new w _) hlen
      (by
        intro j v hj
        have hjl : j < (tokCells (sxs (Nat.min 1 n))).length := (List.getElem?_eq_some_iff.1 hj).1
        rw [hlen] at hjl
        rw [sxs_cells _ j hjl] at hj
        injection hj with hj
        subst hj
        rw [own_adds, World.cell?_alloc_past _ _ _ (by exact hgx)]
        have hj2 : j = 0 ∨ j = 1 := by omega
        rcases hj2 with rfl | rfl
        · exact x0
        · exact x1)
      (by rw [hlen]; omega) (sxs_one _)
    simpa using h
  have hmin : Nat.min 1 n ≤ n := Nat.min_le_right _ _
  have hmin1 : Nat.min 1 n ≤ 1 := Nat.min_le_left _ _
  have hrep1 := rep_copy (m := Nat.min 1 n) hst (by omega) cur (Blk.made _ _ _)
  obtain ⟨w1, hw1⟩ : ∃ w1, (w.alloc (.cells cur 51)).setRow w.heap.size (cur.toList.take (0 * 2) ++ tokCells (sxs (Nat.min 1 n)) ++ cur.toList.drop (0 * 2 + (tokCells (sxs (Nat.min 1 n))).length)).toArray = w1 := ⟨_, rfl⟩
  rw [hw1] at hc1 hrep1
  obtain ⟨m1, hm1⟩ : ∃ m1, Nat.min 1 n = m1 := ⟨_, rfl⟩
  have hpos : 1 ≤ n → 1 ≤ m1 := by intro h; rw [← hm1]; exact Nat.le_min.2 ⟨Nat.le_refl _, h⟩
  rw [hm1] at hc1 hrep1 hmin hmin1
  rw [Nat.zero_add] at hrep1
  have HR1 := Lib.hid hrep1
  have HPOS := Lib.hid hpos
  have HM := Lib.hid hm1
  have HI := Lib.hid hi
  have HZ := Lib.hid hz1
  clear hrep1 hw1 hst hcur hcs hi hz0 hz1 hz2 hpos hm1
  have hconv : IntKind.u64.wrap (n : Int) = (n : Int) := by rw [IntKind.wrap_u64]; omega
  have hconv2 : IntKind.i64.wrap (n : Int) = (n : Int) := by rw [IntKind.wrap_i64]; omega
  have hd0 : decide ((n : Int) < 0) = false := decide_eq_false (by omega)
  have hd1 : decide ((9223372036854775807 : Int) < (n : Int)) = false := decide_eq_false (by omega)
  go_enter Tryz.func144, Tryz.ntmps144
  go_wp2_with fail
  refine (mul_one n (by omega) w).mono ?_
  rintro e w' ⟨rfl, rfl⟩
  go_wp2_with fail
  go_loopw [8] (fun i wr => ∃ k : Nat, k ≤ n ∧ Hid (1 ≤ n → 1 ≤ k) ∧ i = .int .i64 k ∧ Rep w w.heap.size n k wr) (fun i _ => n - (intOf i).toNat)
  case atStart => exact ⟨m1, hmin, HPOS.out, rfl, HR1.out⟩
  case round =>
    obtain ⟨k, hk, hkp, rfl, hR⟩ := hrel
    by_cases hlt : k < n
    · have hk1 := hkp.out (by omega)
      have hne : ¬ n = k := by omega
      obtain ⟨m, hm⟩ : ∃ m, Nat.min k (n - k) = m := ⟨_, rfl⟩
      have hm1 : 1 ≤ m := by rw [← hm]; exact Nat.le_min.2 ⟨by omega, by omega⟩
      have hm2 : m ≤ k := by rw [← hm]; exact Nat.min_le_left _ _
      have hm3 : m ≤ n - k := by rw [← hm]; exact Nat.min_le_right _ _
      obtain ⟨hbel, cs, hblk, hs, hc⟩ := hR
      have hlen : (tokCells (sxs m)).length = m * 2 := by rw [tokCells_len]; simp [sxs]
      have HNX := Lib.hid (rep_copy (m := m) ⟨hbel, cs, hblk, hs, hc⟩ (by omega) cs hblk)
      have hcp : (Builtin.copy_ #[25, 25] 3 #[.slice (some ⟨w.heap.size, k * 2, none⟩) (n - k) (n - k), .slice (some ⟨w.heap.size, 0, none⟩) k n]).run Tryz.prog wr.drew =
          .ok (goInt m) (wr.drew.setRow w.heap.size (cs.toList.take (k * 2) ++ tokCells (sxs m) ++ cs.toList.drop (k * 2 + (tokCells (sxs m)).length)).toArray) := by
        have h := run_copyN (P := Tryz.prog) wr.drew 25 25 3 51 w.heap.size (k * 2) (n - k) (n - k) ⟨w.heap.size, 0, none⟩ k n 2 cs 51 (tokCells (sxs m)) Tryz.underlying25 i0 HI.out HZ.out hblk (by rw [hlen, hm])
          (by
            intro j v hj
            have hjl : j < (tokCells (sxs m)).length := (List.getElem?_eq_some_iff.1 hj).1
            rw [hlen] at hjl
            rw [sxs_cells _ j hjl] at hj
            rw [own_adds, ← hj]
            exact (hblk.cell j).trans (hc j (by omega)))
          (by rw [hlen]; omega) (sxs_one _)
        rw [hm] at h
        exact h
      obtain ⟨w2, hw2⟩ : ∃ w2, wr.setRow w.heap.size (cs.toList.take (k * 2) ++ tokCells (sxs m) ++ cs.toList.drop (k * 2 + (tokCells (sxs m)).length)).toArray = w2 := ⟨_, rfl⟩
      have hw3 : wr.drew.setRow w.heap.size (cs.toList.take (k * 2) ++ tokCells (sxs m) ++ cs.toList.drop (k * 2 + (tokCells (sxs m)).length)).toArray = w2.drew := by rw [← hw2]; rfl
      rw [hw3] at hcp
      have HN2 : Hid (Rep w w.heap.size n (k + m) w2.drew) := by
        have h := HNX.out
        rw [hw2] at h
        exact ⟨h.1.drew, h.2⟩
      have HCP := Lib.hid hcp
      have hsub : n - k = n - k := rfl
      clear HNX hw2 hw3 hm hs hc hblk hlen hsub hcp
      have hcp := HCP.out
      go_wp2_with fail
      go_region
      go_wp2
      go_roundw
      case rel => exact ⟨k + m, by omega, fun _ => by omega, by go_num, HN2.out⟩
      case measure => simp [intOf]; omega
    · obtain rfl : k = n := by omega
      have HD := Lib.hid (rep_done hR (by omega))
      have HB := Lib.hid hR.1
      have HL : Hid ((sxs k).length = k) := by show _ = _; simp [sxs]
      clear hR
      go_wp2
      go_ret
      exact ⟨w.heap.size, k, by rw [HL.out]; rfl, HD.out, HB.out⟩

/-- a slice value that is not nil, its cells those of the tokens l, below block B -/
def TokA (w : World) (B : Nat) (ad : Addr) (l : List (Int × Int)) : Prop := ad.block < B ∧ ∀ j u, (tokCells l)[j]? = some u → w.cell? (ad.add j) = some u
theorem TokA.below {w w' : World} {B : Nat} {ad : Addr} {l : List (Int × Int)} (h : TokA w B ad l) (hb : Below B w w') : TokA w' B ad l :=
  ⟨h.1, fun j u hu => by
    have hbl : (ad.add j).block = ad.block := by unfold Addr.add; split <;> rfl
    exact (hb.cell (by rw [hbl]; exact h.1)).trans (h.2 j u hu)⟩
theorem TokA.more {w : World} {B B' : Nat} {ad : Addr} {l : List (Int × Int)} (h : TokA w B ad l) (hB : B ≤ B') : TokA w B' ad l := ⟨by have := h.1; omega, h.2⟩
theorem TokR.tokA {w : World} {B : Nat} {A : Option Addr} {n : Nat} {l : List (Int × Int)} (h : TokR w B A n l) (hn : 0 < n) : ∃ ad, A = some ad ∧ TokA w B ad l := by
  obtain ⟨b, off, rfl, hb, hc⟩ := h.2 hn
  refine ⟨_, rfl, hb, fun j u hu => ?_⟩
  have hj : j < (tokCells l).length := (List.getElem?_eq_some_iff.1 hu).1
  rw [tokCells_len, h.1] at hj
  have hadd : (⟨b, off, none⟩ : Addr).add j = ⟨b, off + j, none⟩ := by
    unfold Addr.add
    by_cases h : j = 0
    · subst h; rfl
    · rw [if_neg h]
  rw [hadd]
  rcases Nat.mod_two_eq_zero_or_one j with h0 | h0
  · obtain ⟨k, rfl⟩ : ∃ k, j = k * 2 := ⟨j / 2, by omega⟩
    rw [(tokCells_at l k (by have := h.1; omega)).1] at hu
    rw [← hu]; exact (hc k (by omega)).1
  · obtain ⟨k, rfl⟩ : ∃ k, j = k * 2 + 1 := ⟨j / 2, by omega⟩
    rw [(tokCells_at l k (by have := h.1; omega)).2] at hu
    rw [← hu]; exact (hc k (by omega)).2
theorem OwnT.tokA {w : World} {base : Nat} {g n c : Nat} {l : List (Int × Int)} (h : OwnT w base (some ⟨g, 0, none⟩) n c l) : TokA w w.heap.size ⟨g, 0, none⟩ l :=
  ⟨(h.lt g rfl).2, fun j u hu => h.cells (g := g) rfl j u hu⟩
theorem tokCells_one (l : List (Int × Int)) : ∀ v ∈ tokCells l, v.oneCell' = true := by
  intro v hv
  simp only [tokCells, List.mem_flatMap] at hv
  obtain ⟨t, _, ht⟩ := hv
  simp at ht
  rcases ht with rfl | rfl <;> rfl
end Go.Proofs.YtgebjnoicgmdoaaGreatDoor
