/- LevelOff of the program and of the reference model; the law of LevelOff. -/
import Derived.Test.YtkpelkbkemohlaaDoorLaws2
namespace Go.Proofs.YtkpelkbkemohlaaDoor
open Go.RowKit

set_option maxHeartbeats 800000 in
theorem implOff_any (w : World) (B : Nat) (A : Option Addr) (n c : Nat) (l : List (Int × Int)) (T : TypeId) (pv : Value) (h0 : 0 < B) (hB : B ≤ w.heap.size)
    (hl : TokR w B A n l) (hn : (n : Int) ≤ 140737488355328) (hE : ErrAt w T pv) :
    Calls Tryd.prog 25 #[.slice A n c] w fun e w' => e = .returned (.int .i64 (offR l)) ∧ Below w.heap.size w w' := by
  cases hok : Lv.levelOk l with
  | false =>
    have HO := Lib.hid hok
    clear hok
    go_enter Tryd.func25, Tryd.ntmps25
    go_wp2_with fail
    refine (levelOk_any w B A n c l T pv h0 hB hl hn hE).mono ?_
    rintro e w1 ⟨rfl, hb1⟩
    rw [HO.out]
    go_wp2
    go_ret
    exact ⟨ret_int (by simp [offR, HO.out]), hb1⟩
  | true =>
    have HO := Lib.hid hok
    clear hok
    go_enter Tryd.func25, Tryd.ntmps25
    go_wp2_with fail
    refine (levelOk_any w B A n c l T pv h0 hB hl hn hE).mono ?_
    rintro e w1 ⟨rfl, hb1⟩
    rw [HO.out]
    go_wp2
    go_loopw [3, 11] (fun m i wr => ∃ k : Nat, k ≤ n ∧ i = .int .i64 k ∧ m = .int .i64 (succs (l.take k)) ∧ Below w.heap.size w wr) (fun _ i _ => n - (intOf i).toNat)
    case atStart => exact ⟨0, Nat.zero_le _, rfl, rfl, hb1⟩
    case round =>
      obtain ⟨k, hk, rfl, rfl, hbel⟩ := hrel
      have hsb := succs_bd (l.take k)
      have hs0 := hsb.1
      have hs1 : succs (l.take k) ≤ k := by have := hsb.2; simp at this; omega
      clear hsb
      by_cases hlt : k < n
      · have HS := Lib.hid (succs_snoc l k (by rw [hl.1]; exact hlt))
        obtain ⟨b, off, rfl, hb, hc⟩ := hl.2 (by omega)
        obtain ⟨c1, c2⟩ := hc k hlt
        have HL := Lib.hid hl
        generalize l.getD k (0, 0) = t at c1 c2 HS
        obtain ⟨op, N⟩ := t
        have k1 := (hbel.cell (p := ⟨b, off + k * 2, none⟩) (by show b < _; omega)).trans c1
        have k2 := (hbel.cell (p := ⟨b, off + k * 2 + 1, none⟩) (by show b < _; omega)).trans c2
        have HBA := Lib.hid (hbel.alloc hbel.size (.cells #[.int .i64 op, .int .i64 N] 80))
        clear c1 c2 hc hl
        by_cases e1 : op = 1
        · subst e1
          go_wp2
          go_roundw
          case rel => exact ⟨k + 1, by omega, by go_num, by rw [HS.out]; simp, HBA.out⟩
          case measure => simp [intOf]; omega
        · have d1 : (op == 1) = false := by simpa using e1
          have HS2 : Hid (succs (l.take (k + 1)) = succs (l.take k)) := by
            show _ = _
            rw [HS.out, if_neg e1]; omega
          clear e1
          go_wp2
          go_roundw
          case rel => exact ⟨k + 1, by omega, by go_num, by rw [HS2.out], HBA.out⟩
          case measure => simp [intOf]; omega
      · have HF : Hid (succs (l.take k) = offR l) := by
          show _ = _
          rw [List.take_of_length_le (by have := hl.1; omega)]
          simp [offR, HO.out]
        clear hl
        go_wp2
        go_ret
        exact ⟨ret_int HF.out, hbel⟩

set_option maxHeartbeats 800000 in
theorem specOff_any (w : World) (B : Nat) (A : Option Addr) (n c : Nat) (l : List (Int × Int)) (hB : B ≤ w.heap.size) (hl : TokR w B A n l) (hn : (n : Int) ≤ 140737488355328) :
    Calls Tryd.prog 45 #[.slice A n c] w fun e w' => e = .returned (.int .i64 (offR l)) ∧ Below w.heap.size w w' := by
  cases hok : Lv.levelOk l with
  | false =>
    have HO := Lib.hid hok
    clear hok
    go_enter Tryd.func45, Tryd.ntmps45
    go_wp2_with fail
    refine (specOk_any w B A n c l hB hl hn).mono ?_
    rintro e w1 ⟨rfl, hb1⟩
    rw [HO.out]
    go_wp2
    go_ret
    exact ⟨ret_int (by simp [offR, HO.out]), hb1⟩
  | true =>
    have HO := Lib.hid hok
    clear hok
    go_enter Tryd.func45, Tryd.ntmps45
    go_wp2_with fail
    refine (specOk_any w B A n c l hB hl hn).mono ?_
    rintro e w1 ⟨rfl, hb1⟩
    rw [HO.out]
    have hl1 := hl.below (hb1.mono hB)
    go_wp2
    go_loop [3, 4] (fun m i => ∃ k : Nat, k ≤ n ∧ i = .int .i64 k ∧ m = .int .i64 (succs (l.take k))) (fun _ i => n - (intOf i).toNat)
    case atStart => exact ⟨0, Nat.zero_le _, rfl, rfl⟩
    case round =>
      obtain ⟨k, hk, rfl, rfl⟩ := hrel
      have hsb := succs_bd (l.take k)
      have hs0 := hsb.1
      have hs1 : succs (l.take k) ≤ k := by have := hsb.2; simp at this; omega
      clear hsb
      by_cases hlt : k < n
      · have HS := Lib.hid (succs_snoc l k (by rw [hl.1]; exact hlt))
        obtain ⟨b, off, rfl, hb, hc⟩ := hl1.2 (by omega)
        obtain ⟨c1, c2⟩ := hc k hlt
        have HL := Lib.hid hl
        generalize l.getD k (0, 0) = t at c1 c2 HS
        obtain ⟨op, N⟩ := t
        clear hc hl hl1
        by_cases e1 : op = 1
        · subst e1
          go_wp2
          go_round
          case rel => exact ⟨k + 1, by omega, by go_num, by rw [HS.out]; simp⟩
          case measure => simp [intOf]; omega
        · have d1 : (op == 1) = false := by simpa using e1
          have HS2 : Hid (succs (l.take (k + 1)) = succs (l.take k)) := by
            show _ = _
            rw [HS.out, if_neg e1]; omega
          clear e1
          go_wp2
          go_round
          case rel => exact ⟨k + 1, by omega, by go_num, by rw [HS2.out]⟩
          case measure => simp [intOf]; omega
      · have HF : Hid (succs (l.take k) = offR l) := by
          show _ = _
          rw [List.take_of_length_le (by have := hl.1; omega)]
          simp [offR, HO.out]
        clear hl hl1
        go_wp2
        go_ret
        exact ⟨ret_int HF.out, hb1⟩

set_option maxHeartbeats 1000000 in
theorem offLaw_any (w : World) (B : Nat) (A : Option Addr) (n c : Nat) (l : List (Int × Int)) (T : TypeId) (pv : Value) (h0 : 0 < B) (hB : B ≤ w.heap.size)
    (hl : TokR w B A n l) (hn : (n : Int) ≤ 9223372036854775807) (hE : ErrAt w T pv) :
    Calls Tryd.prog 10 #[.slice A n c] w fun e w' => e = .returned (.bool true) ∧ Below w.heap.size w w' := by
  by_cases hbig : (1048576 : Int) < n
  · go_enter Tryd.func10, Tryd.ntmps10
    go_wp2_with fail
    refine (szTokS_any A n c 1048576 w (by omega) (by omega) hn).mono ?_
    rintro e w' ⟨rfl, rfl⟩
    rw [if_pos hbig]
    go_wp2
    go_ret
    exact ⟨rfl, Below.refl _ _⟩
  · have hn' : n ≤ 1048576 := by omega
    go_enter Tryd.func10, Tryd.ntmps10
    go_wp2_with fail
    refine (szTokS_any A n c 1048576 w (by omega) (by omega) hn).mono ?_
    rintro e w' ⟨rfl, rfl⟩
    rw [if_neg (by omega)]
    have hs : ¬ (1048576 - (n : Int) < 0) := by omega
    go_wp2_with fail
    refine (toTokS_any w B A n c l hB hl hn').mono ?_
    rintro e w1 ⟨rfl, hb1, ho1⟩
    have hs1 := ho1.reads
    have hz1 : w.heap.size + 1 ≤ w1.heap.size := by obtain ⟨_, cs, hblk, _⟩ := ho1; exact hblk.lt
    go_wp2_with fail
    refine (specOff_any w1 (w.heap.size + 1) _ n n l hz1 hs1 (by omega)).mono ?_
    rintro e w2 ⟨rfl, hb2⟩
    have hB2 : Below w.heap.size w w2 := hb1.trans (hb2.mono hb1.size)
    go_wp2_with fail
    refine (toTokS_any w2 B A n c l (Nat.le_trans hB hB2.size) (hl.below (hB2.mono hB)) hn').mono ?_
    rintro e w3 ⟨rfl, hb3, ho3⟩
    have hs3 := ho3.reads
    have hz3 : w2.heap.size + 1 ≤ w3.heap.size := by obtain ⟨_, cs, hblk, _⟩ := ho3; exact hblk.lt
    have hB3 : Below w.heap.size w w3 := hB2.trans (hb3.mono hB2.size)
    go_wp2_with fail
    refine (implOff_any w3 (w2.heap.size + 1) _ n n l T pv (by omega) hz3 hs3 (by omega) (hE.below (hB3.mono hB) h0)).mono ?_
    rintro e w4 ⟨rfl, hb4⟩
    have hB4 : Below w.heap.size w w4 := hB3.trans (hb4.mono hB3.size)
    have hs4 : TokR w4 (w2.heap.size + 1) (some ⟨w2.heap.size, 0, none⟩) n l := hs3.below (hb4.mono hz3)
    have hz4 := hb4.size
    have hbb : ((offR l) != (offR l)) = false := by simp
    go_wp2_with fail
    refine (toTokS_any w4 B A n c l (Nat.le_trans hB hB4.size) (hl.below (hB4.mono hB)) hn').mono ?_
    rintro e w5 ⟨rfl, hb5, ho5⟩
    have hs5 := ho5.reads
    have hz5 : w4.heap.size + 1 ≤ w5.heap.size := by obtain ⟨_, cs, hblk, _⟩ := ho5; exact hblk.lt
    have hB5 : Below w.heap.size w w5 := hB4.trans (hb5.mono hB4.size)
    have hs6 : TokR w5 (w4.heap.size + 1) (some ⟨w2.heap.size, 0, none⟩) n l := (hs4.below (hb5.mono (by omega))).more (by omega)
    go_wp2_with fail
    refine (eqTokS_any w5 (w4.heap.size + 1) _ _ n n n n l l hz5 hs6 hs5 (by omega) (by omega)).mono ?_
    rintro e w6 ⟨rfl, hb6⟩
    have hB6 : Below w.heap.size w w6 := hB5.trans (hb6.mono hB5.size)
    rw [decide_eq_true rfl]
    go_wp2
    go_ret
    exact ⟨rfl, hB6⟩
end Go.Proofs.YtkpelkbkemohlaaDoor
