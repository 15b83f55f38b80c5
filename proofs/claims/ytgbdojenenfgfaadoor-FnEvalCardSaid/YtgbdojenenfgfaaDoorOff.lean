/- LevelOff of the program and of the reference model; the law of LevelOff. -/
import Derived.Test.YtgbdojenenfgfaaDoorLaws2
import Derived.Test.YtgbdojenenfgfaaDoorSpec
namespace Go.Proofs.YtgbdojenenfgfaaDoor
open Go.RowKit

set_option maxHeartbeats 800000 in
theorem implOff_any (w : World) (B : Nat) (A : Option Addr) (n c : Nat) (l : List (Int × Int)) (T : TypeId) (pv : Value) (h0 : 0 < B) (hB : B ≤ w.heap.size)
    (hl : TokR w B A n l) (hn : (n : Int) ≤ 140737488355328) (hE : ErrAt w T pv) :
    Calls Tryd.prog 17 #[.slice A n c] w fun e w' => e = .returned (.int .i64 (offR l)) ∧ Below w.heap.size w w' := by
  cases hok : Lv.levelOk l with
  | false =>
    have HO := Lib.hid hok
    clear hok
    go_enter Tryd.func17, Tryd.ntmps17
    go_wp2_with fail
    refine (levelOk_any w B A n c l T pv h0 hB hl hn hE).mono ?_
    rintro e w1 ⟨rfl, hb1⟩
    rw [HO.out]
    go_wp2
    go_ret
    exact ⟨ret_int (by simp [offR, HO.out]), hb1⟩
  | true =>
    have HO := Lib.hid hok
    clear hok
    go_enter Tryd.func17, Tryd.ntmps17
    go_wp2_with fail
    refine (levelOk_any w B A n c l T pv h0 hB hl hn hE).mono ?_
    rintro e w1 ⟨rfl, hb1⟩
    rw [HO.out]
    go_wp2
    go_loopw [3, 11] (fun m i wr => ∃ k : Nat, k ≤ n ∧ i = .int .i64 k ∧ m = .int .i64 (succs (l.take k)) ∧ Below w.heap.size w wr) (fun _ i _ => n - (intOf i).toNat)
    case atStart => exact ⟨0, Nat.zero_le _, rfl, rfl, hb1⟩
    case round =>
      obtain ⟨k, hk, rfl, rfl, hbel⟩ := hrel
      have hsb := succs_bd (l.take k)
      have hs0 := hsb.1
      have hs1 : succs (l.take k) ≤ k := by have := hsb.2; simp at this; omega
      clear hsb
      by_cases hlt : k < n
      · have HS := Lib.hid (succs_snoc l k (by rw [hl.1]; exact hlt))
        obtain ⟨b, off, rfl, hb, hc⟩ := hl.2 (by omega)
        obtain ⟨c1, c2⟩ := hc k hlt
        have HL := Lib.hid hl
        generalize l.getD k (0, 0) = t at c1 c2 HS
        obtain ⟨op, N⟩ := t
        have k1 := (hbel.cell (p := ⟨b, off + k * 2, none⟩) (by show b < _; omega)).trans c1
        have k2 := (hbel.cell (p := ⟨b, off + k * 2 + 1, none⟩) (by show b < _; omega)).trans c2
        have HBA := Lib.hid (hbel.alloc hbel.size (.cells #[.int .i64 op, .int .i64 N] 71))
        clear c1 c2 hc hl
        by_cases e1 : op = 1
        · subst e1
          go_wp2
          go_roundw
          case rel => exact ⟨k + 1, by omega, by go_num, by rw [HS.out]; simp, HBA.out⟩
          case measure => simp [intOf]; omega
        · have d1 : (op == 1) = false := by simpa using e1
          have HS2 : Hid (succs (l.take (k + 1)) = succs (l.take k)) := by
            show _ = _
            rw [HS.out, if_neg e1]; omega
          clear e1
          go_wp2
          go_roundw
          case rel => exact ⟨k + 1, by omega, by go_num, by rw [HS2.out], HBA.out⟩
          case measure => simp [intOf]; omega
      · have HF : Hid (succs (l.take k) = offR l) := by
          show _ = _
          rw [List.take_of_length_le (by have := hl.1; omega)]
          simp [offR, HO.out]
        clear hl
        go_wp2
        go_ret
        exact ⟨ret_int HF.out, hbel⟩

end Go.Proofs.YtgbdojenenfgfaaDoor
