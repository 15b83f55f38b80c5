/- SignMerge of the program. -/
import Derived.Test.YtghoofgfimeedaaGreatDoorMgMath
import Derived.Deep.WholeRow

namespace Go.Proofs.YtghoofgfimeedaaGreatDoor
open Go.RowKit

/-- the cells of the table as it is made -/
noncomputable def tab0 (A : Option Addr) (n c : Nat) : Array Value := Tryz.zeroCells79.setIfInBounds 0 (.slice A n c)
theorem tab0_size (A : Option Addr) (n c : Nat) : (tab0 A n c).size = 129 := by unfold tab0; rw [Array.size_setIfInBounds]; exact Tryz.zeroCells79_size
set_option maxRecDepth 100000 in
theorem zero_rows (S : Nat) (hS : S < 32) : Tryz.zeroCells79[1 + S * 3]? = some (.int .u32 0) ∧ Tryz.zeroCells79[1 + S * 3 + 1]? = some (.int .i32 0) := by
  match S, hS with
  | 0, _ => exact ⟨by kernel_rfl, by kernel_rfl⟩
  | 1, _ => exact ⟨by kernel_rfl, by kernel_rfl⟩
  | 2, _ => exact ⟨by kernel_rfl, by kernel_rfl⟩
  | 3, _ => exact ⟨by kernel_rfl, by kernel_rfl⟩
  | 4, _ => exact ⟨by kernel_rfl, by kernel_rfl⟩
  | 5, _ => exact ⟨by kernel_rfl, by kernel_rfl⟩
  | 6, _ => exact ⟨by kernel_rfl, by kernel_rfl⟩
  | 7, _ => exact ⟨by kernel_rfl, by kernel_rfl⟩
  | 8, _ => exact ⟨by kernel_rfl, by kernel_rfl⟩
  | 9, _ => exact ⟨by kernel_rfl, by kernel_rfl⟩
  | 10, _ => exact ⟨by kernel_rfl, by kernel_rfl⟩
  | 11, _ => exact ⟨by kernel_rfl, by kernel_rfl⟩
  | 12, _ => exact ⟨by kernel_rfl, by kernel_rfl⟩
  | 13, _ => exact ⟨by kernel_rfl, by kernel_rfl⟩
  | 14, _ => exact ⟨by kernel_rfl, by kernel_rfl⟩
  | 15, _ => exact ⟨by kernel_rfl, by kernel_rfl⟩
  | 16, _ => exact ⟨by kernel_rfl, by kernel_rfl⟩
  | 17, _ => exact ⟨by kernel_rfl, by kernel_rfl⟩
  | 18, _ => exact ⟨by kernel_rfl, by kernel_rfl⟩
  | 19, _ => exact ⟨by kernel_rfl, by kernel_rfl⟩
  | 20, _ => exact ⟨by kernel_rfl, by kernel_rfl⟩
  | 21, _ => exact ⟨by kernel_rfl, by kernel_rfl⟩
  | 22, _ => exact ⟨by kernel_rfl, by kernel_rfl⟩
  | 23, _ => exact ⟨by kernel_rfl, by kernel_rfl⟩
  | 24, _ => exact ⟨by kernel_rfl, by kernel_rfl⟩
  | 25, _ => exact ⟨by kernel_rfl, by kernel_rfl⟩
  | 26, _ => exact ⟨by kernel_rfl, by kernel_rfl⟩
  | 27, _ => exact ⟨by kernel_rfl, by kernel_rfl⟩
  | 28, _ => exact ⟨by kernel_rfl, by kernel_rfl⟩
  | 29, _ => exact ⟨by kernel_rfl, by kernel_rfl⟩
  | 30, _ => exact ⟨by kernel_rfl, by kernel_rfl⟩
  | 31, _ => exact ⟨by kernel_rfl, by kernel_rfl⟩
  | k + 32, h => omega
theorem tab0_row (A : Option Addr) (n c S : Nat) (hS : S < 32) : (tab0 A n c)[1 + S * 3]? = some (.int .u32 0) ∧ (tab0 A n c)[1 + S * 3 + 1]? = some (.int .i32 0) := by
  unfold tab0
  rw [Array.getElem?_setIfInBounds_ne (by omega), Array.getElem?_setIfInBounds_ne (by omega)]
  exact zero_rows S hS
theorem tab0_tab (w : World) (A : Option Addr) (n c : Nat) (l : List (Int × Int)) : Tab (w.alloc (.cells (tab0 A n c) 79)) w.heap.size A n c l (tab0 A n c) :=
  ⟨Blk.made _ _ _, tab0_size A n c, by unfold tab0; rw [Array.getElem?_setIfInBounds_self_of_lt (by rw [Tryz.zeroCells79_size]; omega)], fun S hS => .inl (tab0_row A n c S hS)⟩
theorem xor_bit (P : Nat) (hP : P < 5) (S : Nat) (hS : S < 32) : Go.bits BinOp.xor IntKind.i64 (S : Int) (2 ^ P) = ((S ^^^ 2 ^ P : Nat) : Int) := by
  have : ∀ k : Fin 5, ∀ m : Fin 32, Go.bits BinOp.xor IntKind.i64 ((m : Nat) : Int) (2 ^ (k : Nat)) = (((m : Nat) ^^^ 2 ^ (k : Nat) : Nat) : Int) := by decide +kernel
  exact this ⟨P, hP⟩ ⟨S, hS⟩

set_option maxRecDepth 100000 in
set_option maxHeartbeats 6400000 in
theorem implSignMerge_any (w : World) (B : Nat) (A : Option Addr) (n c : Nat) (l : List (Int × Int)) (p : Int) (T : TypeId) (pv : Value) (h0 : 0 < B) (hB : B ≤ w.heap.size) (hl : TokR w B A n l) (hn : (n : Int) ≤ 140737488355328) (hE : ErrAt w T pv) :
    Calls Tryz.prog 24 #[.slice A n c, .int .i64 p] w fun e w' => e = .returned (.bool (mergeR l p)) ∧ Below w.heap.size w w' := by
  have hOK := Lib.hid (levelOk_any w B A n c l T pv h0 hB hl hn hE)
  cases h1 : Lv.levelOk l with
  | false =>
    have HF := Lib.hid (mergeR_no (l := l) (p := p) (fun h => by rw [h1] at h; cases h.1))
    rw [h1] at hOK
    clear h1 hl hE
    go_enter Tryz.func24, Tryz.ntmps24
    go_wp2_with fail
    refine hOK.out.mono ?_
    rintro e w1 ⟨rfl, hb1⟩
    go_wp2
    go_ret
    exact ⟨by rw [HF.out]; rfl, hb1⟩
  | true =>
    have HO := Lib.hid h1
    rw [h1] at hOK
    clear h1
    cases h2 : Sg.isPar p with
    | false =>
      have HF := Lib.hid (mergeR_no (l := l) (p := p) (fun h => by simp [Sg.isPar] at h2; omega))
      have HPA := Lib.hid h2
      clear h2 hl hE
      go_enter Tryz.func24, Tryz.ntmps24
      go_wp2_with fail
      refine hOK.out.mono ?_
      rintro e w1 ⟨rfl, hb1⟩
      go_wp2_with fail
      refine (paramOk_any w1 p).mono ?_
      rintro e w2 ⟨rfl, rfl⟩
      rw [HPA.out]
      go_wp2
      go_ret
      exact ⟨by rw [HF.out]; rfl, hb1⟩
    | true =>
      have hpp : 0 ≤ p ∧ p < 5 := by simp [Sg.isPar] at h2; omega
      obtain ⟨P, rfl⟩ : ∃ P : Nat, p = P := ⟨p.toNat, by omega⟩
      have hP : P < 5 := by omega
      have HPA := Lib.hid h2
      clear h2 hpp
      go_enter Tryz.func24, Tryz.ntmps24
      go_wp2_with fail
      refine hOK.out.mono ?_
      rintro e w1 ⟨rfl, hb1⟩
      go_wp2_with fail
      refine (paramOk_any w1 P).mono ?_
      rintro e w2 ⟨rfl, rfl⟩
      rw [HPA.out]
      have hst : ∀ x : World, (storeCells ⟨x.heap.size, 0, none⟩ (Tryz.zeroCells79.toList.set 0 (.slice A n c))).run Tryz.prog (x.alloc (.cells Tryz.zeroCells79 79)) = .ok () (x.alloc (.cells (tab0 A n c) 79)) := fun x => by
        have h := run_storeCells_new (P := Tryz.prog) x 79 Tryz.zeroCells79 (tab0 A n c) (by rw [tab0_size]; kernel_rfl) (by rw [tab0_size]; exact Tryz.zeroCells79_size) (by kernel_rfl)
        rw [show (tab0 A n c).toList = Tryz.zeroCells79.toList.set 0 (.slice A n c) from by unfold tab0; exact Array.toList_setIfInBounds] at h
        exact h
      have HT0 := Lib.hid (tab0_tab w2 A n c l)
      have HB0 : Hid (Below w.heap.size w (w2.alloc (.cells (tab0 A n c) 79))) := hb1.alloc hb1.size _
      have hw2 := hb1.size
      have HL := Lib.hid hl
      have HE := Lib.hid hE
      have h2P : (2 : Int) ^ P ≤ 16 ∧ 0 < (2 : Int) ^ P := by
        have : ∀ k : Fin 5, (2 : Int) ^ (k : Nat) ≤ 16 ∧ 0 < (2 : Int) ^ (k : Nat) := by decide
        exact this ⟨P, hP⟩
      obtain ⟨hp1, hp2⟩ := h2P
      clear hl hE hb1
      go_wp2
      clear hst
      go_loopw [18] (fun i wr => ∃ (S : Nat) (cs : Array Value), S ≤ 32 ∧ i = .int .i64 S ∧ Hid (∀ s : Nat, s < S → hasP (rsd l s) P = false ∧ rsd l s = rsd l (s ^^^ 2 ^ P)) ∧ Hid (Tab wr w2.heap.size A n c l cs) ∧ Hid (Below w.heap.size w wr)) (fun i _ => 32 - (intOf i).toNat)
      case atStart => exact ⟨0, _, by omega, rfl, (fun s hs => absurd hs (by omega)), HT0.out, HB0.out⟩
      case round =>
        obtain ⟨S, cs, hS, rfl, HALL, HTAB, HBR⟩ := hrel
        by_cases hS2 : S < 32
        · have hSi : (S : Int) < 32 := by omega
          have hsr := HBR.out.size
          have HAT := Lib.hid (at_any wr B w2.heap.size S A n c l T pv cs h0 (by omega) (by omega) (HL.out.below (HBR.out.mono hB)) HO.out hS2 (HE.out.below (HBR.out.mono hB) h0) HTAB.out)
          clear HT0 HB0
          go_wp2_with fail
          refine HAT.out.mono ?_
          rintro e w3 ⟨A1, c1, cs1, rfl, ho1, htab1, hk1⟩
          obtain ⟨L1, hL1⟩ : ∃ L1, (rsd l S).length = L1 := ⟨_, rfl⟩
          have h61 : (rsd l S).length ≤ 6 := Nm.rnorm_len _
          rw [hL1] at ho1 h61 ⊢
          have hb3 := Kp.below HBR.out hk1 (by omega) hsr
          have hs3 := hb3.size
          have HP1 := Lib.hid (hasParam_any w3 w3.heap.size A1 L1 c1 (rsd l S) P (Nat.le_refl _) (at_reads ho1) (by omega))
          have HNO : Hid (¬ (hasP (rsd l S) P = false ∧ rsd l S = rsd l (S ^^^ 2 ^ P)) → mergeR l (P : Int) = false) := mergeR_not hS2
          clear HAT hL1 hk1 HTAB HBR
          go_wp2_with fail
          refine HP1.out.mono ?_
          rintro e w4 ⟨rfl, hb4⟩
          have htab4 := htab1.kept hb4
          have ho4 := at_below' ho1 hb4
          have hb04 := hb3.trans (hb4.mono hs3)
          have hs4 := hb04.size
          clear htab1 ho1 hb4 hb3 HP1
          cases hh : hasP (rsd l S) P with
          | true =>
            have HF := Lib.hid (HNO.out (fun hx => by rw [hh] at hx; cases hx.1))
            have HBE := Lib.hid hb04
            clear hh hb04 htab4 ho4
            go_wp2
            go_ret
            exact ⟨by rw [HF.out]; rfl, HBE.out⟩
          | false =>
            have hx := xor_bit P hP S hS2
            have hlt2 := bit_lt S hS2 P hP
            obtain ⟨X, hX⟩ : ∃ X, S ^^^ 2 ^ P = X := ⟨_, rfl⟩
            rw [hX] at hx hlt2
            have HXX := Lib.hid hX
            have HHP := Lib.hid hh
            have HAT2 := Lib.hid (at_any w4 B w2.heap.size X A n c l T pv cs1 h0 (by omega) (by omega) (HL.out.below (hb04.mono hB)) HO.out hlt2 (HE.out.below (hb04.mono hB) h0) htab4)
            have HO4 := Lib.hid ho4
            have HB4 := Lib.hid hb04
            clear hh hX htab4 ho4 hb04
            go_wp2_with fail
            refine HAT2.out.mono ?_
            rintro e w5 ⟨A2, c2, cs2, rfl, ho2, htab5, hk5⟩
            obtain ⟨L2, hL2⟩ : ∃ L2, (rsd l X).length = L2 := ⟨_, rfl⟩
            have h62 : (rsd l X).length ≤ 6 := Nm.rnorm_len _
            rw [hL2] at ho2 h62 ⊢
            have ho15 := at_kpT HO4.out hk5 (by omega)
            have hb05 := Kp.below HB4.out hk5 (by omega) hs4
            have hs5 := hb05.size
            have HEQ := Lib.hid (slicesEqual_any w5 w5.heap.size A1 A2 L1 L2 c1 c2 (rsd l S) (rsd l X) (Nat.le_refl _) (at_reads ho15) (at_reads ho2) (by omega) (by omega))
            have HT5 := Lib.hid htab5
            have HB5 := Lib.hid hb05
            clear HAT2 hL2 hk5 ho15 ho2 htab5 hb05 hx
            go_wp2_with fail
            refine HEQ.out.mono ?_
            rintro e w6 ⟨rfl, hb6⟩
            have HT6 := Lib.hid (HT5.out.kept hb6)
            have HB6 := Lib.hid (HB5.out.trans (hb6.mono hs5))
            clear HEQ hb6
            cases hsame : decide (rsd l S = rsd l X) with
            | true =>
              have HA3 : Hid (∀ s : Nat, s < S + 1 → hasP (rsd l s) P = false ∧ rsd l s = rsd l (s ^^^ 2 ^ P)) := fun s hs => by
                by_cases e : s = S
                · subst e; exact ⟨HHP.out, by rw [HXX.out]; exact of_decide_eq_true hsame⟩
                · exact HALL.out s (by omega)
              clear hsame
              go_wp2
              go_roundw
              case rel => exact ⟨S + 1, cs2, by omega, by go_num, HA3.out, HT6.out, HB6.out⟩
              case measure => simp [intOf]; omega
            | false =>
              have HF := Lib.hid (HNO.out (fun hx => of_decide_eq_false hsame (by rw [HXX.out] at hx; exact hx.2)))
              clear hsame
              go_wp2
              go_ret
              exact ⟨by rw [HF.out]; rfl, HB6.out⟩
        · have hS3 : ¬ (S : Int) < 32 := by omega
          have HF : Hid (mergeR l (P : Int) = true) := mergeR_yes HO.out hP (fun s hs => HALL.out s (by omega))
          clear hS2 hS
          go_wp2
          go_ret
          exact ⟨by rw [HF.out]; rfl, HBR.out⟩
end Go.Proofs.YtghoofgfimeedaaGreatDoor
