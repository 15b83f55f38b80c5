/- LevelSign of the program and of the model. -/
import Derived.Test.YtijiohdddfdjfaaDoorSgOf
import Derived.Test.YtijiohdddfdjfaaDoorLEval
import Derived.Test.YtijiohdddfdjfaaDoorSpecEval
import Derived.Test.YtijiohdddfdjfaaDoorMarks
import Derived.Test.YtijiohdddfdjfaaDoorROk0
namespace Go.Proofs.YtijiohdddfdjfaaDoor
open Go.RowKit

namespace Sg
theorem bit_bd (s p : Int) : 0 ≤ bit s p ∧ bit s p ≤ 1 := by unfold bit; split <;> omega
theorem least_len (s : Int) : (least s).length = 5 := rfl
theorem least_ok (s : Int) : envOk (least s) = true := by
  have h0 := bit_bd s 0; have h1 := bit_bd s 1; have h2 := bit_bd s 2; have h3 := bit_bd s 3; have h4 := bit_bd s 4
  simp [envOk, least]; omega
theorem least_get (s : Int) (k : Nat) (hk : k < 5) : (least s).getD k 0 = bit s k := by
  rcases (show k = 0 ∨ k = 1 ∨ k = 2 ∨ k = 3 ∨ k = 4 by omega) with rfl | rfl | rfl | rfl | rfl <;> rfl
/-- the cells of the least env, made as far as k -/
def cells (s : Int) (k : Nat) : List Value := (List.range 5).map fun (j : Nat) => .int .i64 (if j < k then bit s j else 0)
theorem cells_len (s : Int) (k : Nat) : (cells s k).length = 5 := by simp [cells]
theorem cells_get (s : Int) (k j : Nat) (hj : j < 5) : (cells s k)[j]? = some (.int .i64 (if j < k then bit s j else 0)) := by
  simp [cells, hj]
theorem cells_put (s : Int) (k : Nat) (hk : k < 5) : (cells s k).set k (.int .i64 (bit s k)) = cells s (k + 1) := by
  rcases (show k = 0 ∨ k = 1 ∨ k = 2 ∨ k = 3 ∨ k = 4 by omega) with rfl | rfl | rfl | rfl | rfl <;> simp [cells, List.range, List.range.loop]
theorem bit_eq (s : Int) (hs : 0 ≤ s ∧ s ≤ 31) (k : Nat) (hk : k < 5) : Go.bits BinOp.and IntKind.i64 (s / 2 ^ k) 1 = bit s k := by
  rw [and_one _ (Int.ediv_nonneg hs.1 (Int.pow_nonneg (by decide))) (Int.le_trans (Int.ediv_le_self _ hs.1) hs.2)]
  unfold bit has
  simp only [hs.1, hs.2, Int.toNat_natCast, true_and, decide_eq_true_eq, show (0 : Int) ≤ (k : Int) by omega, show (k : Int) < 5 by omega]
  split <;> omega
end Sg

theorem least_row (w : World) (s : Int) : IntR (w.alloc (.cells (Sg.cells s 5).toArray 3)) (w.heap.size + 1) (some ⟨w.heap.size, 0, none⟩) 5 (Sg.least s) := by
  refine ⟨rfl, fun _ => ⟨w.heap.size, 0, rfl, by omega, fun k hk => ?_⟩⟩
  rw [(Blk.made w _ _).cell, Nat.zero_add, List.getElem?_toArray, Sg.cells_get s 5 k hk, if_pos hk, Sg.least_get s k hk]

set_option maxHeartbeats 800000 in
theorem smallestEnv_any (w : World) (s : Int) (hs : 0 ≤ s ∧ s ≤ 31) :
    Calls Tryd.prog 44 #[.int .i64 s] w fun e w' => e = .returned (.slice (some ⟨w.heap.size, 0, none⟩) 5 5) ∧ w' = w.alloc (.cells (Sg.cells s 5).toArray 3) := by
  have hmk : ∀ w, (Instr.makeSlice 27 (.int .i64 5) (.int .i64 5)).run Tryd.prog w = .ok (.slice (some ⟨w.heap.size, 0, none⟩) 5 5) (w.alloc (.cells #[.int .i64 0, .int .i64 0, .int .i64 0, .int .i64 0, .int .i64 0] 3)) := fun _ => by kernel_rfl
  go_enter Tryd.func44, Tryd.ntmps44
  go_wp2
  go_loopw [8] (fun i wr => ∃ k : Nat, k ≤ 5 ∧ i = .int .i64 k ∧ wr = w.alloc (.cells (Sg.cells s k).toArray 3)) (fun i _ => 5 - (intOf i).toNat)
  case atStart => exact ⟨0, by omega, rfl, rfl⟩
  case round =>
    obtain ⟨k, hk, rfl, rfl⟩ := hrel
    by_cases hlt : k < 5
    · have hb := Sg.bit_eq s hs k hlt
      have HP := Lib.hid (Sg.cells_put s k hlt)
      obtain ⟨v, hv⟩ : ∃ v, (Sg.cells s k)[k]? = some v := ⟨_, Sg.cells_get s k k hlt⟩
      have e0 : (w.alloc (.cells (Sg.cells s k).toArray 3)).cell? ⟨w.heap.size, k, none⟩ = some v := by
        rw [(Blk.made w _ _).cell, List.getElem?_toArray, hv]
      have f0 := (Blk.made w 3 (Sg.cells s k).toArray).thawed k
      have hkt : ((k : Int)).toNat = k := by omega
      clear hv
      obtain ⟨h1, h2⟩ := hs
      generalize Sg.cells s k = cs at *
      go_wp2
      go_roundw
      case rel => exact ⟨k + 1, by omega, by go_num, by rw [HP.out]⟩
      case measure => simp [intOf]; omega
    · obtain rfl : k = 5 := by omega
      go_wp2
      go_ret
      exact ⟨rfl, rfl⟩

set_option maxRecDepth 100000 in
set_option maxHeartbeats 1600000 in
theorem l03Least_any (w : World) (s : Int) :
    Calls Tryd.prog 58 #[.int .i64 s] w fun e w' => ∃ g cap, e = .returned (.slice (some ⟨g, 0, none⟩) 5 cap) ∧ OwnI w' w.heap.size (some ⟨g, 0, none⟩) 5 cap (Sg.least s) ∧ Below w.heap.size w w' := by
  obtain ⟨i0, hi, hz0, hz1, hz2⟩ := info_parts info_int
  have ho0 : OwnI (w.alloc (.cells #[] 3)) w.heap.size (some ⟨w.heap.size, 0, none⟩) 0 0 [] := World.ownsRow_made w #[] 0 (Nat.le_refl _) (by simp [maxLen]) (by simp)
  have HO0 := Lib.hid ho0
  have HB0 := Lib.hid ((Below.refl w.heap.size w).alloc (Nat.le_refl _) (.cells #[] 3))
  clear ho0
  go_enter Tryd.func58, Tryd.ntmps58
  go_wp2
  go_loopw [3, 4] (fun v i wr => ∃ (k g cap : Nat), k ≤ 5 ∧ i = .int .i64 k ∧ v = .slice (some ⟨g, 0, none⟩) k cap ∧ OwnI wr w.heap.size (some ⟨g, 0, none⟩) k cap ((Sg.least s).take k) ∧ Below w.heap.size w wr) (fun _ i _ => 5 - (intOf i).toNat)
  case atStart => exact ⟨0, _, 0, by omega, rfl, rfl, HO0.out, HB0.out⟩
  case round =>
    obtain ⟨k, g, cap, hk, rfl, rfl, hown, hbel⟩ := hrel
    have hszr := hbel.size
    by_cases hk5 : k < 5
    · have hk5' : (k : Int) < 5 := by omega
      have HTK : Hid ((Sg.least s).take (k + 1) = (Sg.least s).take k ++ [Sg.bit s k]) := by
        have := Sg.least_get s k hk5
        rw [List.getD_eq_getElem?_getD] at this
        have hlen := Sg.least_len s
        unfold Hid
        rw [List.take_succ_eq_append_getElem (by omega)]
        rw [List.getElem?_eq_getElem (by omega)] at this
        simp only [Option.getD_some] at this
        rw [this]
      generalize (Sg.least s).take k = env at *
      cases hh : Sg.has s k with
      | false =>
        have HBT : Hid (Sg.bit s k = 0) := by unfold Hid Sg.bit; rw [hh]; rfl
        go_wp2_with fail
        refine (specSignHas_any wr s k).mono ?_
        rintro e w1 ⟨rfl, rfl⟩
        rw [hh]
        go_wp2_with (at_builtin; refine wpList_append_own _ rfl (.tmp 14) (.tmp 16) 27 rfl w.heap.size 3 i0 (.int .i64 0) 1 8 Tryd.underlying27 hi hz0 hz1 hz2 rfl (by decide) (.slice (some ⟨g, 0, none⟩) k cap) k (env.map (Value.int .i64)) rfl (hown.alloc _) ⟨w1.heap.size, 0, none⟩ 1 1 [.int .i64 0] rfl rfl (cell_one_new _ _ _) (fun u hu => by simp at hu; subst hu; rfl) (by unfold maxLen; omega) (by omega) (by simp; omega) ?_; intro v' w3 hown' hgrow hnil)
        obtain ⟨g2, cap2, rfl⟩ : ∃ g' cap', v' = .slice (some ⟨g', 0, none⟩) (k + 1) cap' := by
          rcases hown'.2 with ⟨h0, _⟩ | ⟨g', cap', _, h0, _⟩
          · have := (hnil.1 h0).1
            cases this
          · exact ⟨g', cap', h0⟩
        have HB1 : Hid (Below w.heap.size w w3) := (hbel.alloc hszr _).grown hgrow (by simp; omega) (fun k h => (hown.lt k h).1)
        have HW : Hid (OwnI w3 w.heap.size (some ⟨g2, 0, none⟩) (k + 1) cap2 (env ++ [0])) := by
          show OwnI _ _ _ _ _ _
          simpa [OwnI] using hown'
        clear hown hown' hgrow hbel hnil
        go_wp2
        go_roundw
        case rel => exact ⟨k + 1, g2, cap2, by omega, by go_num, rfl, by rw [HTK.out, HBT.out]; exact HW.out, HB1.out⟩
        case measure => simp [intOf]; omega
      | true =>
        have HBT : Hid (Sg.bit s k = 1) := by unfold Hid Sg.bit; rw [hh]; rfl
        go_wp2_with fail
        refine (specSignHas_any wr s k).mono ?_
        rintro e w1 ⟨rfl, rfl⟩
        rw [hh]
        go_wp2_with (at_builtin; refine wpList_append_own _ rfl (.tmp 14) (.tmp 16) 27 rfl w.heap.size 3 i0 (.int .i64 0) 1 8 Tryd.underlying27 hi hz0 hz1 hz2 rfl (by decide) (.slice (some ⟨g, 0, none⟩) k cap) k (env.map (Value.int .i64)) rfl (hown.alloc _) ⟨w1.heap.size, 0, none⟩ 1 1 [.int .i64 1] rfl rfl (cell_one_new _ _ _) (fun u hu => by simp at hu; subst hu; rfl) (by unfold maxLen; omega) (by omega) (by simp; omega) ?_; intro v' w3 hown' hgrow hnil)
        obtain ⟨g2, cap2, rfl⟩ : ∃ g' cap', v' = .slice (some ⟨g', 0, none⟩) (k + 1) cap' := by
          rcases hown'.2 with ⟨h0, _⟩ | ⟨g', cap', _, h0, _⟩
          · have := (hnil.1 h0).1
            cases this
          · exact ⟨g', cap', h0⟩
        have HB1 : Hid (Below w.heap.size w w3) := (hbel.alloc hszr _).grown hgrow (by simp; omega) (fun k h => (hown.lt k h).1)
        have HW : Hid (OwnI w3 w.heap.size (some ⟨g2, 0, none⟩) (k + 1) cap2 (env ++ [1])) := by
          show OwnI _ _ _ _ _ _
          simpa [OwnI] using hown'
        clear hown hown' hgrow hbel hnil
        go_wp2
        go_roundw
        case rel => exact ⟨k + 1, g2, cap2, by omega, by go_num, rfl, by rw [HTK.out, HBT.out]; exact HW.out, HB1.out⟩
        case measure => simp [intOf]; omega
    · obtain rfl : k = 5 := by omega
      have HT : Hid ((Sg.least s).take 5 = Sg.least s) := rfl
      go_wp2
      go_ret
      exact ⟨g, cap, rfl, by rw [HT.out] at hown; exact hown, hbel⟩

/-- what LevelSign answers -/
def lsgR (l : List (Int × Int)) (s : Int) : Int := if Sg.isSign s = true then (match evalR (Sg.least s) l with | some v => min v 1 | none => -1) else -1
theorem lsgR_no {l : List (Int × Int)} {s : Int} (h : Sg.isSign s = false) : lsgR l s = -1 := by unfold lsgR; rw [if_neg (by rw [h]; decide)]
theorem lsgR_none {l : List (Int × Int)} {s : Int} (h : evalR (Sg.least s) l = none) : lsgR l s = -1 := by unfold lsgR; rw [h]; split <;> rfl
theorem lsgR_some {l : List (Int × Int)} {s v : Int} (hs : Sg.isSign s = true) (h : evalR (Sg.least s) l = some v) : lsgR l s = min v 1 := by unfold lsgR; rw [h, if_pos hs]
theorem sign_bd {s : Int} (h : Sg.isSign s = true) : 0 ≤ s ∧ s ≤ 31 := by simpa [Sg.isSign] using h

set_option maxRecDepth 100000 in
set_option maxHeartbeats 1600000 in
theorem implLevelSign_any (w : World) (B : Nat) (A : Option Addr) (n c : Nat) (l : List (Int × Int)) (s : Int) (T : TypeId) (pv : Value) (h0 : 0 < B) (hB : B ≤ w.heap.size)
    (hl : TokR w B A n l) (hn : (n : Int) ≤ 140737488355328) (hE : ErrAt w T pv) :
    Calls Tryd.prog 15 #[.slice A n c, .int .i64 s] w fun e w' => e = .returned (.int .i64 (lsgR l s)) ∧ Below w.heap.size w w' := by
  cases hs : Sg.isSign s with
  | false =>
    have HF := Lib.hid (lsgR_no (l := l) hs)
    clear hl
    go_enter Tryd.func15, Tryd.ntmps15
    go_wp2_with fail
    refine (signOk_any w s).mono ?_
    rintro e w' ⟨rfl, rfl⟩
    rw [hs]
    go_wp2
    go_ret
    exact ⟨by rw [HF.out]; rfl, Below.refl _ _⟩
  | true =>
    have hbd := sign_bd hs
    have hb1 := (Below.refl w.heap.size w).alloc (Nat.le_refl _) (.cells (Sg.cells s 5).toArray 3)
    have hev := levelEval_any (w.alloc (.cells (Sg.cells s 5).toArray 3)) (w.heap.size + 1) A (some ⟨w.heap.size, 0, none⟩) n c 5 5 (Sg.least s) l T pv (by omega) (by simp) ((hl.below (hb1.mono hB)).more (by omega)) hn (least_row w s) (by omega) (hE.below (hb1.mono hB) h0)
    cases hr : evalR (Sg.least s) l with
    | none =>
      rw [hr] at hev
      have HEV := Lib.hid hev
      have HB1 := Lib.hid hb1
      have HF := Lib.hid (lsgR_none (s := s) hr)
      clear hev hb1 hr hl
      go_enter Tryd.func15, Tryd.ntmps15
      go_wp2_with fail
      refine (signOk_any w s).mono ?_
      rintro e w' ⟨rfl, rfl⟩
      rw [hs]
      go_wp2_with fail
      refine (smallestEnv_any _ s hbd).mono ?_
      rintro e w2 ⟨rfl, rfl⟩
      go_wp2_with fail
      refine HEV.out.mono ?_
      rintro e w3 ⟨rfl, hb3⟩
      unfold evalV
      have HB3 := Lib.hid (HB1.out.trans (hb3.mono (by simp)))
      clear hb3
      go_wp2
      go_ret
      exact ⟨by rw [HF.out]; rfl, HB3.out⟩
    | some v =>
      rw [hr] at hev
      have HEV := Lib.hid hev
      have HB1 := Lib.hid hb1
      have HF := Lib.hid (lsgR_some hs hr)
      clear hev hb1 hr hl
      by_cases hv : v ≤ 1
      · have HM : Hid (min v 1 = v) := by unfold Hid; omega
        go_enter Tryd.func15, Tryd.ntmps15
        go_wp2_with fail
        refine (signOk_any w s).mono ?_
        rintro e w' ⟨rfl, rfl⟩
        rw [hs]
        go_wp2_with fail
        refine (smallestEnv_any _ s hbd).mono ?_
        rintro e w2 ⟨rfl, rfl⟩
        go_wp2_with fail
        refine HEV.out.mono ?_
        rintro e w3 ⟨rfl, hb3⟩
        unfold evalV
        have HB3 := Lib.hid (HB1.out.trans (hb3.mono (by simp)))
        clear hb3
        go_wp2
        go_ret
        exact ⟨by rw [HF.out, HM.out]; rfl, HB3.out⟩
      · have HM : Hid (min v 1 = 1) := by unfold Hid; omega
        have hv' : 1 < v := by omega
        go_enter Tryd.func15, Tryd.ntmps15
        go_wp2_with fail
        refine (signOk_any w s).mono ?_
        rintro e w' ⟨rfl, rfl⟩
        rw [hs]
        go_wp2_with fail
        refine (smallestEnv_any _ s hbd).mono ?_
        rintro e w2 ⟨rfl, rfl⟩
        go_wp2_with fail
        refine HEV.out.mono ?_
        rintro e w3 ⟨rfl, hb3⟩
        unfold evalV
        have HB3 := Lib.hid (HB1.out.trans (hb3.mono (by simp)))
        clear hb3
        go_wp2
        go_ret
        exact ⟨by rw [HF.out, HM.out]; rfl, HB3.out⟩

set_option maxRecDepth 100000 in
set_option maxHeartbeats 1600000 in
theorem specLevelSign_any (w : World) (B : Nat) (A : Option Addr) (n c : Nat) (l : List (Int × Int)) (s : Int) (hB : B ≤ w.heap.size)
    (hl : TokR w B A n l) (hn : (n : Int) ≤ 140737488355328) :
    Calls Tryd.prog 24 #[.slice A n c, .int .i64 s] w fun e w' => e = .returned (.int .i64 (lsgR l s)) ∧ Below w.heap.size w w' := by
  cases hok : Lv.levelOk l with
  | false =>
    have HX := Lib.hid (lsgR_none (s := s) (evalR_not_ok (env := Sg.least s) hok))
    have HO := Lib.hid hok
    clear hok
    go_enter Tryd.func24, Tryd.ntmps24
    go_wp2_with fail
    refine (specOk_any w B A n c l hB hl hn).mono ?_
    rintro e w1 ⟨rfl, hb1⟩
    rw [HO.out]
    go_wp2
    go_ret
    exact ⟨by rw [HX.out]; rfl, hb1⟩
  | true =>
    have HO := Lib.hid hok
    cases hs : Sg.isSign s with
    | false =>
      have HF := Lib.hid (lsgR_no (l := l) hs)
      clear hok
      go_enter Tryd.func24, Tryd.ntmps24
      go_wp2_with fail
      refine (specOk_any w B A n c l hB hl hn).mono ?_
      rintro e w1 ⟨rfl, hb1⟩
      rw [HO.out]
      go_wp2_with fail
      refine (l03Sign_any w1 s).mono ?_
      rintro e w' ⟨rfl, rfl⟩
      rw [hs]
      go_wp2
      go_ret
      exact ⟨by rw [HF.out]; rfl, hb1⟩
    | true =>
      obtain ⟨v, hv⟩ := Lv.run_of_ok (env := Sg.least s) hok
      have HF := Lib.hid (lsgR_some hs (show evalR (Sg.least s) l = some v by simp [evalR, Sg.least_ok, Lv.eval, hok, hv]))
      have HRun := Lib.hid hv
      obtain ⟨hlen, hbd⟩ := envOk_mem (Sg.least_ok s)
      have HBD := Lib.hid hbd
      have hnn : 1 ≤ n ∧ n ≤ 24 := by
        have := hl.1
        simp [Lv.levelOk] at hok
        omega
      obtain ⟨hn1, hn24⟩ := hnn
      have hmv : v < 1 ∨ 1 ≤ v := by omega
      have HM1 : Hid (v < 1 → min v 1 = v) := by intro h; omega
      have HM2 : Hid (1 ≤ v → min v 1 = 1) := by intro h; omega
      clear hok hv hlen hbd
      go_enter Tryd.func24, Tryd.ntmps24
      go_wp2_with fail
      refine (specOk_any w B A n c l hB hl hn).mono ?_
      rintro e w1 ⟨rfl, hb1⟩
      rw [HO.out]
      go_wp2_with fail
      refine (l03Sign_any w1 s).mono ?_
      rintro e w' ⟨rfl, rfl⟩
      rw [hs]
      go_wp2_with fail
      refine (l03Least_any w' s).mono ?_
      rintro e w2 ⟨g, cap, rfl, ho2, hb2⟩
      have hB2 := hb1.trans (hb2.mono hb1.size)
      have HB2 := Lib.hid hB2
      have HEV := Lib.hid (specEvalIn_any w2 w2.heap.size A (some ⟨g, 0, none⟩) n c cap (Sg.least s) l (Nat.le_refl _) ((hl.below (hB2.mono hB)).more (by have := hB2.size; omega)) ho2.reads HBD.out v HRun.out hn24 hn1)
      clear hb1 hb2 hB2 ho2 hl
      go_wp2_with fail
      refine HEV.out.mono ?_
      rintro e w3 ⟨rfl, hb3⟩
      have HB3 := Lib.hid (HB2.out.trans (hb3.mono HB2.out.size))
      clear hb3 HEV
      rcases hmv with hv | hv
      · go_wp2
        go_ret
        exact ⟨by rw [HF.out, HM1.out hv]; rfl, HB3.out⟩
      · go_wp2
        go_ret
        exact ⟨by rw [HF.out, HM2.out hv]; rfl, HB3.out⟩
end Go.Proofs.YtijiohdddfdjfaaDoor
