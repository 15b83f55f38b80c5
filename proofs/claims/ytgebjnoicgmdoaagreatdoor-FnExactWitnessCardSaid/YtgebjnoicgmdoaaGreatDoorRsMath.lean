/- LevelSign of the program and of the model. -/
/- math/bits.Mul at small numbers; slices.Grow, Repeat and Concat over tokens. -/
/- slices.Concat over slices of tokens. -/
/- LevelSucc of the program and of the reference model. -/
/- LevelJoin of the program and of the reference model. -/
/- Residuals as lists of pairs: what is right for a sign, and what is at most what. -/
import Derived.Test.YtgebjnoicgmdoaaGreatDoorSgHas
import Derived.Test.YtgebjnoicgmdoaaGreatDoorMarks
import Derived.Test.YtgebjnoicgmdoaaGreatDoorROk0
import Derived.Lib.AppendZeros
import Derived.Laws.BitsAllLaws
import Derived.Laws.BitsLemmas
import Derived.Laws.CopyOwn
import Derived.RegionTactic
import Derived.BigRegion

namespace Go.Proofs.YtgebjnoicgmdoaaGreatDoor
open Go.RowKit

namespace Sg
theorem bit_bd (s p : Int) : 0 ≤ bit s p ∧ bit s p ≤ 1 := by unfold bit; split <;> omega
theorem least_ok (s : Int) : envOk (least s) = true := by
  have h0 := bit_bd s 0; have h1 := bit_bd s 1; have h2 := bit_bd s 2; have h3 := bit_bd s 3; have h4 := bit_bd s 4
  simp [envOk, least]; omega
theorem least_get (s : Int) (k : Nat) (hk : k < 5) : (least s).getD k 0 = bit s k := by
  rcases (show k = 0 ∨ k = 1 ∨ k = 2 ∨ k = 3 ∨ k = 4 by omega) with rfl | rfl | rfl | rfl | rfl <;> rfl
/-- the cells of the least env, made as far as k -/
def cells (s : Int) (k : Nat) : List Value := (List.range 5).map fun (j : Nat) => .int .i64 (if j < k then bit s j else 0)
theorem cells_get (s : Int) (k j : Nat) (hj : j < 5) : (cells s k)[j]? = some (.int .i64 (if j < k then bit s j else 0)) := by
  simp [cells, hj]
theorem cells_put (s : Int) (k : Nat) (hk : k < 5) : (cells s k).set k (.int .i64 (bit s k)) = cells s (k + 1) := by
  rcases (show k = 0 ∨ k = 1 ∨ k = 2 ∨ k = 3 ∨ k = 4 by omega) with rfl | rfl | rfl | rfl | rfl <;> simp [cells, List.range, List.range.loop]
theorem bit_eq (s : Int) (hs : 0 ≤ s ∧ s ≤ 31) (k : Nat) (hk : k < 5) : Go.bits BinOp.and IntKind.i64 (s / 2 ^ k) 1 = bit s k := by
  rw [and_one _ (Int.ediv_nonneg hs.1 (Int.pow_nonneg (by decide))) (Int.le_trans (Int.ediv_le_self _ hs.1) hs.2)]
  unfold bit has
  simp only [hs.1, hs.2, Int.toNat_natCast, true_and, decide_eq_true_eq, show (0 : Int) ≤ (k : Int) by omega, show (k : Int) < 5 by omega]
  split <;> omega
end Sg

theorem least_row (w : World) (s : Int) : IntR (w.alloc (.cells (Sg.cells s 5).toArray 3)) (w.heap.size + 1) (some ⟨w.heap.size, 0, none⟩) 5 (Sg.least s) := by
  refine ⟨rfl, fun _ => ⟨w.heap.size, 0, rfl, by omega, fun k hk => ?_⟩⟩
  rw [(Blk.made w _ _).cell, Nat.zero_add, List.getElem?_toArray, Sg.cells_get s 5 k hk, if_pos hk, Sg.least_get s k hk]

set_option maxHeartbeats 800000 in
theorem smallestEnv_any (w : World) (s : Int) (hs : 0 ≤ s ∧ s ≤ 31) :
    Calls Tryz.prog 168 #[.int .i64 s] w fun e w' => e = .returned (.slice (some ⟨w.heap.size, 0, none⟩) 5 5) ∧ w' = w.alloc (.cells (Sg.cells s 5).toArray 3) := by
  have hmk : ∀ w, (Instr.makeSlice 29 (.int .i64 5) (.int .i64 5)).run Tryz.prog w = .ok (.slice (some ⟨w.heap.size, 0, none⟩) 5 5) (w.alloc (.cells #[.int .i64 0, .int .i64 0, .int .i64 0, .int .i64 0, .int .i64 0] 3)) := fun _ => by kernel_rfl
  go_enter Tryz.func168, Tryz.ntmps168
  go_wp2
  go_loopw [8] (fun i wr => ∃ k : Nat, k ≤ 5 ∧ i = .int .i64 k ∧ wr = w.alloc (.cells (Sg.cells s k).toArray 3)) (fun i _ => 5 - (intOf i).toNat)
  case atStart => exact ⟨0, by omega, rfl, rfl⟩
  case round =>
    obtain ⟨k, hk, rfl, rfl⟩ := hrel
    by_cases hlt : k < 5
    · have hb := Sg.bit_eq s hs k hlt
      have HP := Lib.hid (Sg.cells_put s k hlt)
      obtain ⟨v, hv⟩ : ∃ v, (Sg.cells s k)[k]? = some v := ⟨_, Sg.cells_get s k k hlt⟩
      have e0 : (w.alloc (.cells (Sg.cells s k).toArray 3)).cell? ⟨w.heap.size, k, none⟩ = some v := by
        rw [(Blk.made w _ _).cell, List.getElem?_toArray, hv]
      have f0 := (Blk.made w 3 (Sg.cells s k).toArray).thawed k
      have hkt : ((k : Int)).toNat = k := by omega
      clear hv
      obtain ⟨h1, h2⟩ := hs
      generalize Sg.cells s k = cs at *
      go_wp2
      go_roundw
      case rel => exact ⟨k + 1, by omega, by go_num, by rw [HP.out]⟩
      case measure => simp [intOf]; omega
    · obtain rfl : k = 5 := by omega
      go_wp2
      go_ret
      exact ⟨rfl, rfl⟩

/-- what LevelSign answers -/
def lsgR (l : List (Int × Int)) (s : Int) : Int := if Sg.isSign s = true then (match evalR (Sg.least s) l with | some v => min v 1 | none => -1) else -1
theorem lsgR_no {l : List (Int × Int)} {s : Int} (h : Sg.isSign s = false) : lsgR l s = -1 := by unfold lsgR; rw [if_neg (by rw [h]; decide)]
theorem lsgR_none {l : List (Int × Int)} {s : Int} (h : evalR (Sg.least s) l = none) : lsgR l s = -1 := by unfold lsgR; rw [h]; split <;> rfl
theorem lsgR_some {l : List (Int × Int)} {s v : Int} (hs : Sg.isSign s = true) (h : evalR (Sg.least s) l = some v) : lsgR l s = min v 1 := by unfold lsgR; rw [h, if_pos hs]
theorem sign_bd {s : Int} (h : Sg.isSign s = true) : 0 ≤ s ∧ s ≤ 31 := by simpa [Sg.isSign] using h

set_option maxRecDepth 100000 in
set_option maxHeartbeats 1600000 in
theorem implLevelSign_any (w : World) (B : Nat) (A : Option Addr) (n c : Nat) (l : List (Int × Int)) (s : Int) (T : TypeId) (pv : Value) (h0 : 1 < B) (hB : B ≤ w.heap.size)
    (hl : TokR w B A n l) (hn : (n : Int) ≤ 140737488355328) (hE : ErrAt w T pv) :
    Calls Tryz.prog 165 #[.slice A n c, .int .i64 s] w fun e w' => e = .returned (.int .i64 (lsgR l s)) ∧ Below w.heap.size w w' := by
  cases hs : Sg.isSign s with
  | false =>
    have HF := Lib.hid (lsgR_no (l := l) hs)
    clear hl
    go_enter Tryz.func165, Tryz.ntmps165
    go_wp2_with fail
    refine (signOk_any w s).mono ?_
    rintro e w' ⟨rfl, rfl⟩
    rw [hs]
    go_wp2
    go_ret
    exact ⟨by rw [HF.out]; rfl, Below.refl _ _⟩
  | true =>
    have hbd := sign_bd hs
    have hb1 := (Below.refl w.heap.size w).alloc (Nat.le_refl _) (.cells (Sg.cells s 5).toArray 3)
    have hev := levelEval_any (w.alloc (.cells (Sg.cells s 5).toArray 3)) (w.heap.size + 1) A (some ⟨w.heap.size, 0, none⟩) n c 5 5 (Sg.least s) l T pv (by omega) (by simp) ((hl.below (hb1.mono hB)).more (by omega)) hn (least_row w s) (by omega) (hE.below (hb1.mono hB) h0)
    cases hr : evalR (Sg.least s) l with
    | none =>
      rw [hr] at hev
      have HEV := Lib.hid hev
      have HB1 := Lib.hid hb1
      have HF := Lib.hid (lsgR_none (s := s) hr)
      clear hev hb1 hr hl
      go_enter Tryz.func165, Tryz.ntmps165
      go_wp2_with fail
      refine (signOk_any w s).mono ?_
      rintro e w' ⟨rfl, rfl⟩
      rw [hs]
      go_wp2_with fail
      refine (smallestEnv_any _ s hbd).mono ?_
      rintro e w2 ⟨rfl, rfl⟩
      go_wp2_with fail
      refine HEV.out.mono ?_
      rintro e w3 ⟨rfl, hb3⟩
      unfold evalV
      have HB3 := Lib.hid (HB1.out.trans (hb3.mono (by simp)))
      clear hb3
      go_wp2
      go_ret
      exact ⟨by rw [HF.out]; rfl, HB3.out⟩
    | some v =>
      rw [hr] at hev
      have HEV := Lib.hid hev
      have HB1 := Lib.hid hb1
      have HF := Lib.hid (lsgR_some hs hr)
      clear hev hb1 hr hl
      by_cases hv : v ≤ 1
      · have HM : Hid (min v 1 = v) := by unfold Hid; omega
        go_enter Tryz.func165, Tryz.ntmps165
        go_wp2_with fail
        refine (signOk_any w s).mono ?_
        rintro e w' ⟨rfl, rfl⟩
        rw [hs]
        go_wp2_with fail
        refine (smallestEnv_any _ s hbd).mono ?_
        rintro e w2 ⟨rfl, rfl⟩
        go_wp2_with fail
        refine HEV.out.mono ?_
        rintro e w3 ⟨rfl, hb3⟩
        unfold evalV
        have HB3 := Lib.hid (HB1.out.trans (hb3.mono (by simp)))
        clear hb3
        go_wp2
        go_ret
        exact ⟨by rw [HF.out, HM.out]; rfl, HB3.out⟩
      · have HM : Hid (min v 1 = 1) := by unfold Hid; omega
        have hv' : 1 < v := by omega
        go_enter Tryz.func165, Tryz.ntmps165
        go_wp2_with fail
        refine (signOk_any w s).mono ?_
        rintro e w' ⟨rfl, rfl⟩
        rw [hs]
        go_wp2_with fail
        refine (smallestEnv_any _ s hbd).mono ?_
        rintro e w2 ⟨rfl, rfl⟩
        go_wp2_with fail
        refine HEV.out.mono ?_
        rintro e w3 ⟨rfl, hb3⟩
        unfold evalV
        have HB3 := Lib.hid (HB1.out.trans (hb3.mono (by simp)))
        clear hb3
        go_wp2
        go_ret
        exact ⟨by rw [HF.out, HM.out]; rfl, HB3.out⟩

end Go.Proofs.YtgebjnoicgmdoaaGreatDoor

namespace Go.Proofs.YtgebjnoicgmdoaaGreatDoor
open Go.RowKit

set_option maxHeartbeats 800000 in
theorem mul64_one (y : Nat) (hy : y ≤ 1000) (w : World) :
    Calls Tryz.prog 167 #[.int .u64 1, .int .u64 y] w fun e w' => e = .returned (.tuple #[.int .u64 0, .int .u64 y]) ∧ w = w' := by
  have a1 : bits BinOp.and IntKind.u64 1 4294967295 = 1 := by decide +kernel
  have a0 : bits BinOp.and IntKind.u64 0 4294967295 = 0 := by decide +kernel
  have ay : bits BinOp.and IntKind.u64 (y : Int) 4294967295 = (y : Int) := by
    have h := bits_and_u64_nat y 4294967295 (by omega) (by omega)
    rw [show y &&& 4294967295 = y % 4294967296 from Nat.and_two_pow_sub_one_eq_mod y 32, Nat.mod_eq_of_lt (by omega)] at h
    exact h
  have wy : IntKind.u64.wrap (y : Int) = (y : Int) := by rw [IntKind.wrap_u64]; omega
  have w0 : IntKind.u64.wrap 0 = 0 := by rw [IntKind.wrap_u64]; rfl
  have dy : (y : Int) / 4294967296 = 0 := by omega
  have H1 := Lib.hid a1
  have H2 := Lib.hid a0
  have H3 := Lib.hid ay
  have H4 := Lib.hid wy
  have H5 := Lib.hid w0
  have H6 := Lib.hid dy
  clear a1 a0 ay wy w0 dy
  go_enter Tryz.func167, Tryz.ntmps167
  go_wp2
  simp only [H1.out, H2.out, H3.out, H4.out, H5.out, H6.out, Int.one_mul, Int.mul_zero, Int.zero_ediv, Int.add_zero]
  go_ret2
  exact ⟨rfl, rfl⟩

set_option maxHeartbeats 800000 in
theorem mul_one (y : Nat) (hy : y ≤ 1000) (w : World) :
    Calls Tryz.prog 159 #[.int .u64 1, .int .u64 y] w fun e w' => e = .returned (.tuple #[.int .u64 0, .int .u64 y]) ∧ w = w' := by
  go_enter Tryz.func159, Tryz.ntmps159
  go_wp2_with fail
  refine (mul64_one y hy w).mono ?_
  rintro e w' ⟨rfl, rfl⟩
  go_wp2
  go_ret2
  exact ⟨rfl, rfl⟩

/-- a call gives back a slice of tokens of its own that is not nil -/
def ResT (w : World) (l : List (Int × Int)) (e : Ending) (w' : World) : Prop :=
  ∃ g c, e = .returned (.slice (some ⟨g, 0, none⟩) l.length c) ∧ OwnT w' w.heap.size (some ⟨g, 0, none⟩) l.length c l ∧ Below w.heap.size w w'

set_option maxRecDepth 100000 in
set_option maxHeartbeats 800000 in
theorem grow_nil (n : Nat) (h1 : 1 ≤ n) (hn : n ≤ 1000) (w : World) :
    Calls Tryz.prog 158 #[.slice none 0 0, .int .i64 n] w (ResT w []) := by
  obtain ⟨i0, hi, hz0, hz1, hz2⟩ := info_parts info_tok
  have hr := Lib.run_append_nil_zeros (P := Tryz.prog) w 25 3 25 51 i0 _ .i64 .i64 Tryz.underlying25 Tryz.underlying3 hi hz0 n (by omega) (by omega) (by omega) (by rw [hz2]; omega)
  have hge := grownCap_ge w n 0 51
  have hle := grownCap_le_maxLen w n 0 51 (by unfold maxLen; omega)
  generalize grownCap w n 0 51 = cp at hr hge hle
  obtain ⟨cur, hcur⟩ : ∃ cur, Builtin.zeroCells (Value.agg #[.int .i64 0, .int .i64 0]).cells n ++ Builtin.zeroCells (Value.agg #[.int .i64 0, .int .i64 0]).cells (cp - n) = cur := ⟨_, rfl⟩
  have hsz : cur.size = cp * 2 := by
    rw [← hcur, Array.size_append, size_zeroCells, size_zeroCells]
    have : (Value.agg #[.int .i64 0, .int .i64 0]).cells.size = 2 := rfl
    rw [this]; omega
  rw [hcur] at hr
  have HO : Hid (OwnT (w.drew.alloc (.cells cur 51)) w.heap.size (some ⟨w.heap.size, 0, none⟩) 0 cp []) :=
    World.ownsRow_made w.drew cur cp (Nat.le_refl _) hle hsz
  have HB : Hid (Below w.heap.size w (w.drew.alloc (.cells cur 51))) := (Below.refl _ _).drew.alloc (Nat.le_refl _) _
  have HR := Lib.hid hr
  clear hr hcur hsz hle hi hz0 hz1 hz2
  go_enter Tryz.func158, Tryz.ntmps158
  go_wp2_with (at_builtin; refine Lib.wpList_append_run _ rfl (.tmp 20) (.tmp 21) 25 3 rfl (.slice none 0 0) (.int .i64 n) rfl rfl _ _ HR.out ?_)
  go_wp2
  go_ret
  exact ⟨w.heap.size, cp, rfl, HO.out, HB.out⟩

/-- a slice value that is not nil, its cells those of the tokens l, below block B -/
def TokA (w : World) (B : Nat) (ad : Addr) (l : List (Int × Int)) : Prop := ad.block < B ∧ ∀ j u, (tokCells l)[j]? = some u → w.cell? (ad.add j) = some u
theorem TokA.below {w w' : World} {B : Nat} {ad : Addr} {l : List (Int × Int)} (h : TokA w B ad l) (hb : Below B w w') : TokA w' B ad l :=
  ⟨h.1, fun j u hu => by
    have hbl : (ad.add j).block = ad.block := by unfold Addr.add; split <;> rfl
    exact (hb.cell (by rw [hbl]; exact h.1)).trans (h.2 j u hu)⟩
theorem TokA.more {w : World} {B B' : Nat} {ad : Addr} {l : List (Int × Int)} (h : TokA w B ad l) (hB : B ≤ B') : TokA w B' ad l := ⟨by have := h.1; omega, h.2⟩
theorem TokR.tokA {w : World} {B : Nat} {A : Option Addr} {n : Nat} {l : List (Int × Int)} (h : TokR w B A n l) (hn : 0 < n) : ∃ ad, A = some ad ∧ TokA w B ad l := by
  obtain ⟨b, off, rfl, hb, hc⟩ := h.2 hn
  refine ⟨_, rfl, hb, fun j u hu => ?_⟩
  have hj : j < (tokCells l).length := (List.getElem?_eq_some_iff.1 hu).1
  rw [tokCells_len, h.1] at hj
  have hadd : (⟨b, off, none⟩ : Addr).add j = ⟨b, off + j, none⟩ := by
    unfold Addr.add
    by_cases h : j = 0
    · subst h; rfl
    · rw [if_neg h]
  rw [hadd]
  rcases Nat.mod_two_eq_zero_or_one j with h0 | h0
  · obtain ⟨k, rfl⟩ : ∃ k, j = k * 2 := ⟨j / 2, by omega⟩
    rw [(tokCells_at l k (by have := h.1; omega)).1] at hu
    rw [← hu]; exact (hc k (by omega)).1
  · obtain ⟨k, rfl⟩ : ∃ k, j = k * 2 + 1 := ⟨j / 2, by omega⟩
    rw [(tokCells_at l k (by have := h.1; omega)).2] at hu
    rw [← hu]; exact (hc k (by omega)).2
theorem OwnT.tokA {w : World} {base : Nat} {g n c : Nat} {l : List (Int × Int)} (h : OwnT w base (some ⟨g, 0, none⟩) n c l) : TokA w w.heap.size ⟨g, 0, none⟩ l :=
  ⟨(h.lt g rfl).2, fun j u hu => h.cells (g := g) rfl j u hu⟩
theorem tokCells_one (l : List (Int × Int)) : ∀ v ∈ tokCells l, v.oneCell' = true := by
  intro v hv
  simp only [tokCells, List.mem_flatMap] at hv
  obtain ⟨t, _, ht⟩ := hv
  simp at ht
  rcases ht with rfl | rfl <;> rfl
end Go.Proofs.YtgebjnoicgmdoaaGreatDoor

namespace Go.Proofs.YtgebjnoicgmdoaaGreatDoor
open Go.RowKit

theorem flat_take {α : Type} (ls : List (List α)) (k : Nat) (hk : k < ls.length) : (ls.take (k + 1)).flatten = (ls.take k).flatten ++ ls.getD k [] := by
  rw [List.take_succ_eq_append_getElem hk, List.flatten_append]
  simp [List.getD_eq_getElem?_getD, List.getElem?_eq_getElem hk]
theorem flat_le {α : Type} (ls : List (List α)) (k : Nat) : (ls.take k).flatten.length ≤ ls.flatten.length := by
  have h : ls.flatten = (ls.take k).flatten ++ (ls.drop k).flatten := by rw [← List.flatten_append, List.take_append_drop]
  rw [h]; simp

/-- the slices that are joined: their values in a row at block gs, their tokens below B -/
def Parts (w : World) (B gs : Nat) (ad : Nat → Addr) (cp : Nat → Nat) (ls : List (List (Int × Int))) : Prop :=
  gs < B ∧ ∀ i, i < ls.length → w.cell? ⟨gs, i, none⟩ = some (.slice (some (ad i)) (ls.getD i []).length (cp i)) ∧ TokA w B (ad i) (ls.getD i [])
theorem Parts.below {w w' : World} {B gs : Nat} {ad : Nat → Addr} {cp : Nat → Nat} {ls : List (List (Int × Int))} (h : Parts w B gs ad cp ls) (hb : Below B w w') : Parts w' B gs ad cp ls :=
  ⟨h.1, fun i hi => ⟨(hb.cell (p := ⟨gs, i, none⟩) h.1).trans (h.2 i hi).1, (h.2 i hi).2.below hb⟩⟩

set_option maxRecDepth 100000 in
set_option maxHeartbeats 1600000 in
theorem concat_any (w : World) (B gs cs : Nat) (ad : Nat → Addr) (cp : Nat → Nat) (ls : List (List (Int × Int))) (hB : B ≤ w.heap.size) (hp : Parts w B gs ad cp ls) (hm : ls.length ≤ 10) (h1 : 1 ≤ ls.flatten.length) (hn : ls.flatten.length ≤ 1000) :
    Calls Tryz.prog 143 #[.slice (some ⟨gs, 0, none⟩) ls.length cs] w (ResT w ls.flatten) := by
  obtain ⟨i0, hi, hz0, hz1, hz2⟩ := info_parts info_tok
  go_enter Tryz.func143, Tryz.ntmps143
  go_wp2
  go_loop [3, 11] (fun s i => ∃ k : Nat, k ≤ ls.length ∧ i = .int .i64 k ∧ s = .int .i64 ((ls.take k).flatten.length : Nat)) (fun _ i => ls.length - (intOf i).toNat)
  case atStart => exact ⟨0, Nat.zero_le _, rfl, rfl⟩
  case round =>
    obtain ⟨k, hk, rfl, rfl⟩ := hrel
    have hle := flat_le ls k
    by_cases hlt : k < ls.length
    · have hc := (hp.2 k hlt).1
      have HF := Lib.hid (congrArg List.length (flat_take ls k hlt))
      have hle2 := flat_le ls (k + 1)
      have hsum : (ls.take k).flatten.length + (ls.getD k []).length ≤ 1000 := by
        have := HF.out
        simp at this
        simp at hle2
        have : (List.take (k + 1) ls).flatten.length ≤ ls.flatten.length := by simpa using flat_le ls (k + 1)
        rw [HF.out, List.length_append] at this
        omega
      have HP := Lib.hid hp
      obtain ⟨a, ha⟩ : ∃ a, (ls.take k).flatten.length = a := ⟨_, rfl⟩
      obtain ⟨b, hb⟩ : ∃ b, (ls.getD k []).length = b := ⟨_, rfl⟩
      have HF2 : Hid ((ls.take (k + 1)).flatten.length = a + b) := by
        show _ = _
        rw [HF.out, List.length_append, ha, hb]
      rw [hb] at hc
      rw [ha, hb] at hsum
      have HA := Lib.hid ha
      rw [ha]
      clear ha hb hle hle2 HF hp
      go_wp2
      go_round
      case rel => exact ⟨k + 1, by omega, by go_num, by rw [HF2.out]; go_num⟩
      case measure => simp [intOf]; omega
    · obtain rfl : k = ls.length := by omega
      have ht : (ls.take ls.length).flatten.length = ls.flatten.length := by rw [List.take_length]
      rw [ht]
      have HT := Lib.hid ht
      obtain ⟨N, hN⟩ : ∃ N, ls.flatten.length = N := ⟨_, rfl⟩
      rw [hN] at h1 hn ⊢
      have HN := Lib.hid hN
      clear ht hN hle hlt
      go_wp2_with fail
      refine (grow_nil N h1 hn w).mono ?_
      rintro e w1 ⟨g, c, rfl, ho1, hb1⟩
      simp only [List.length_nil] at ho1 ⊢
      have HO1 := Lib.hid ho1
      clear ho1
      go_wp2
      go_loopw [6, 27] (fun v i wr => ∃ (k g c : Nat), k ≤ ls.length ∧ i = .int .i64 k ∧ v = .slice (some ⟨g, 0, none⟩) (ls.take k).flatten.length c ∧ OwnT wr w.heap.size (some ⟨g, 0, none⟩) (ls.take k).flatten.length c (ls.take k).flatten ∧ Below w.heap.size w wr) (fun _ i _ => ls.length - (intOf i).toNat)
      case atStart => exact ⟨0, g, c, Nat.zero_le _, rfl, rfl, HO1.out, hb1⟩
      case round =>
        obtain ⟨k, g, c, hk, rfl, rfl, hown, hbel⟩ := hrel
        have hszr := hbel.size
        by_cases hlt : k < ls.length
        · have hpr := hp.below (hbel.mono hB)
          obtain ⟨hc, hT⟩ := hpr.2 k hlt
          have HF := Lib.hid (flat_take ls k hlt)
          have hle2 : (ls.take (k + 1)).flatten.length ≤ N := by rw [← HN.out]; exact flat_le ls (k + 1)
          have HTA := Lib.hid hT
          obtain ⟨L, hL⟩ : ∃ L, ls.getD k [] = L := ⟨_, rfl⟩
          obtain ⟨F, hF⟩ : ∃ F, (ls.take k).flatten = F := ⟨_, rfl⟩
          have HF2 : Hid ((ls.take (k + 1)).flatten = F ++ L) := by
            show _ = _
            rw [HF.out, hL, hF]
          rw [HF2.out, List.length_append] at hle2
          rw [hL] at hc HTA
          rw [hF] at hown ⊢
          have HP := Lib.hid hp
          have HPR := Lib.hid hpr
          obtain ⟨q, hq⟩ : ∃ q, ad k = q := ⟨_, rfl⟩
          rw [hq] at hc HTA
          clear hL hF HF hT hp hpr hq
          go_wp2_with (at_builtin; refine wpList_append_own _ rfl (.tmp 31) (.tmp 32) 25 rfl w.heap.size 51 i0 (.agg #[.int .i64 0, .int .i64 0]) 2 16 Tryz.underlying25 hi hz0 hz1 hz2 rfl (by decide) (.slice (some ⟨g, 0, none⟩) F.length c) F.length (tokCells F) rfl hown q L.length (cp k) (tokCells L) rfl (tokCells_len L) HTA.out.2 (tokCells_one L) (by unfold maxLen; omega) (by omega) hszr ?_; intro v' w3 hown' hgrow hnil)
          · obtain ⟨g', cap', rfl⟩ : ∃ g' cap', v' = .slice (some ⟨g', 0, none⟩) (F.length + L.length) cap' := by
              rcases hown'.2 with ⟨h0, _⟩ | ⟨g', cap', _, h0, _⟩
              · have := (hnil.1 h0).1
                cases this
              · exact ⟨g', cap', h0⟩
            have HB1 : Hid (Below w.heap.size w w3) := hbel.grown hgrow hszr (fun k h => (hown.lt k h).1)
            have HW : Hid (OwnT w3 w.heap.size (some ⟨g', 0, none⟩) (ls.take (k + 1)).flatten.length cap' (ls.take (k + 1)).flatten) := by
              show OwnT _ _ _ _ _ _
              rw [HF2.out, List.length_append]
              unfold OwnT
              rw [tokCells_append]
              exact hown'
            have HLn : Hid ((ls.take (k + 1)).flatten.length = F.length + L.length) := by show _ = _; rw [HF2.out, List.length_append]
            clear hown hown' hgrow hbel hnil
            go_wp2
            go_roundw
            case rel => exact ⟨k + 1, g', cap', by omega, by go_num, by rw [HLn.out], HW.out, HB1.out⟩
            case measure => simp [intOf]; omega
        · obtain rfl : k = ls.length := by omega
          rw [List.take_length] at hown ⊢
          have HO := Lib.hid hown
          clear hown
          go_wp2
          go_ret
          exact ⟨g, c, rfl, HO.out, hbel⟩
end Go.Proofs.YtgebjnoicgmdoaaGreatDoor

namespace Go.Proofs.YtgebjnoicgmdoaaGreatDoor
open Go.RowKit

/-- the cells of one new token -/
theorem Blk.tokA2 (w : World) (a b : Int) : ∀ j u, (tokCells [(a, b)])[j]? = some u → (w.alloc (.cells #[.int .i64 a, .int .i64 b] 51)).cell? ((⟨w.heap.size, 0, none⟩ : Addr).add j) = some u := by
  intro j u hu
  rw [own_adds, (Blk.made w 51 #[.int .i64 a, .int .i64 b]).cell]
  have hj : j = 0 ∨ j = 1 := by
    have := (List.getElem?_eq_some_iff.1 hu).1
    rw [tokCells_len] at this
    simp at this
    omega
  rcases hj with rfl | rfl
  · simpa [tokCells] using hu
  · simpa [tokCells] using hu

end Go.Proofs.YtgebjnoicgmdoaaGreatDoor

namespace Go.Proofs.YtgebjnoicgmdoaaGreatDoor
open Go.RowKit

/-- three slices that are joined, the last one token -/
theorem parts3 {w2 : World} {B : Nat} {q0 q1 : Addr} {n0 c0 n1 c1 : Nat} {l0 l1 : List (Int × Int)} (op : Int) (hB : B ≤ w2.heap.size) (h0 : TokA w2 B q0 l0) (h1 : TokA w2 B q1 l1) (e0 : l0.length = n0) (e1 : l1.length = n1) :
    Parts ((w2.alloc (.cells #[.int .i64 op, .int .i64 0] 51)).alloc (.cells #[.slice (some q0) n0 c0, .slice (some q1) n1 c1, .slice (some ⟨w2.heap.size, 0, none⟩) 1 1] 25))
      (w2.heap.size + 2) (w2.heap.size + 1) (fun i => if i = 0 then q0 else if i = 1 then q1 else ⟨w2.heap.size, 0, none⟩) (fun i => if i = 0 then c0 else if i = 1 then c1 else 1) [l0, l1, [(op, 0)]] := by
  have hba : Below B w2 ((w2.alloc (.cells #[.int .i64 op, .int .i64 0] 51)).alloc (.cells #[.slice (some q0) n0 c0, .slice (some q1) n1 c1, .slice (some ⟨w2.heap.size, 0, none⟩) 1 1] 25)) :=
    ((Below.refl _ _).alloc hB _).alloc (by simp; omega) _
  have hbk := Blk.made (w2.alloc (.cells #[.int .i64 op, .int .i64 0] 51)) 25 #[.slice (some q0) n0 c0, .slice (some q1) n1 c1, .slice (some ⟨w2.heap.size, 0, none⟩) 1 1]
  simp only [World.size_alloc] at hbk
  refine ⟨by omega, fun i hi => ?_⟩
  have hi2 : i = 0 ∨ i = 1 ∨ i = 2 := by simp at hi; omega
  rcases hi2 with rfl | rfl | rfl
  · exact ⟨(hbk.cell 0).trans (by simp [e0]), ((h0.below hba).more (B' := w2.heap.size + 2) (by omega)).1, (h0.below hba).2⟩
  · exact ⟨(hbk.cell 1).trans (by simp [e1]), ((h1.below hba).more (B' := w2.heap.size + 2) (by omega)).1, (h1.below hba).2⟩
  · have hb2 : Below (w2.heap.size + 1) (w2.alloc (.cells #[.int .i64 op, .int .i64 0] 51)) ((w2.alloc (.cells #[.int .i64 op, .int .i64 0] 51)).alloc (.cells #[.slice (some q0) n0 c0, .slice (some q1) n1 c1, .slice (some ⟨w2.heap.size, 0, none⟩) 1 1] 25)) :=
      (Below.refl _ _).alloc (by simp) _
    have ht : TokA (w2.alloc (.cells #[.int .i64 op, .int .i64 0] 51)) (w2.heap.size + 1) ⟨w2.heap.size, 0, none⟩ [(op, 0)] := ⟨Nat.lt_succ_self _, Blk.tokA2 w2 op 0⟩
    exact ⟨(hbk.cell 2).trans rfl, ((ht.below hb2).more (B' := w2.heap.size + 2) (by omega)).1, (ht.below hb2).2⟩

end Go.Proofs.YtgebjnoicgmdoaaGreatDoor

namespace Go.Proofs.YtgebjnoicgmdoaaGreatDoor

namespace Nm
/-- a residual for a sign -/
def ROk (s : Int) (l : List At) : Prop := Sg.isSign s = true ∧ 1 ≤ l.length ∧ AllOk l ∧ Incr l ∧ (∀ k, k < l.length → (l.getD k (0, 0)).1 = -1 ∨ Sg.has s (l.getD k (0, 0)).1 = true) ∧ ((l.getD 0 (0, 0)).1 = -1 → Exceeds ((l.getD 0 (0, 0)).2 - 1) (l.drop 1))
end Nm
end Go.Proofs.YtgebjnoicgmdoaaGreatDoor
