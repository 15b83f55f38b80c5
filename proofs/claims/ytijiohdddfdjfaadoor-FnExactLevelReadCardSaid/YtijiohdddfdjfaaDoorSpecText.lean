/- LevelText of the reference model. -/
import Derived.Test.YtijiohdddfdjfaaDoorText
import Derived.Laws.IdiomStrings
namespace Go.Proofs.YtijiohdddfdjfaaDoor
open Go.RowKit

theorem tx_take_zero (l : List (Int × Int)) (h : 0 < l.length) : tx (l.take (0 + 1)) = (⟨#[]⟩ : ByteArray) ++ word (l.getD 0 (0, 0)) := by
  cases l with
  | nil => exact absurd h (by simp)
  | cons t r =>
    rw [Nat.zero_add, List.take_succ_cons, List.take_zero, tx_one]
    apply ByteArray.ext
    simp
theorem tx_take_succ (l : List (Int × Int)) (k : Nat) (h0 : 0 < k) (hk : k < l.length) : tx (l.take (k + 1)) = tx (l.take k) ++ ⟨#[32]⟩ ++ word (l.getD k (0, 0)) := by
  have hg : l.getD k (0, 0) = l[k] := by simp [List.getD_eq_getElem?_getD, List.getElem?_eq_getElem hk]
  rw [List.take_succ_eq_append_getElem hk, hg, tx_snoc]
  intro h
  have := congrArg List.length h
  rw [List.length_take, List.length_nil] at this
  omega

theorem word_u2 (m : Nat) : (⟨#[117]⟩ : ByteArray) ++ ⟨#[48 + UInt8.ofNat m]⟩ = word (4, (m : Int)) := by
  have e : (48 : UInt8) + UInt8.ofNat m = UInt8.ofNat (48 + m) := by simp
  rw [e]
  rfl
theorem conv_u (w : World) (m : Nat) (hm : m < 5) : ∀ o, (convert 22 9 (.slice (some ⟨w.heap.size + 1, 0, none⟩) 1 1)).run Tryd.prog ((w.alloc o).alloc (.cells #[.int .u8 (48 + (m : Int))] 5)) =
    .ok (.string ⟨#[UInt8.ofNat (48 + m)]⟩) ((w.alloc o).alloc (.cells #[.int .u8 (48 + (m : Int))] 5)) := by
  intro o
  refine run_convert_bytes_back _ 22 9 5 ⟨w.heap.size + 1, 0, none⟩ 1 [UInt8.ofNat (48 + m)] Tryd.underlying22 Tryd.underlying5 Tryd.underlying9 ?_
  intro j hj
  obtain rfl : j = 0 := by simp at hj; omega
  have h := (Blk.made (w.alloc o) 5 #[.int .u8 (48 + (m : Int))]).cell 0
  rw [World.size_alloc] at h
  refine Eq.trans h ?_
  have e : ((UInt8.ofNat (48 + m)).toNat : Int) = 48 + (m : Int) := by rw [UInt8.toNat_ofNat']; omega
  simp only [List.getElem_cons_zero, e]
  rfl

set_option maxRecDepth 100000 in
set_option maxHeartbeats 4000000 in
theorem specText_any (w : World) (B : Nat) (A : Option Addr) (n c : Nat) (l : List (Int × Int)) (hB : B ≤ w.heap.size)
    (hl : TokR w B A n l) (hn : n ≤ 1048576) :
    Calls Tryd.prog 68 #[.slice A n c] w fun e w' => e = .returned (.string (textR l)) ∧ Below w.heap.size w w' := by
  have hll := hl.1
  cases hok : Lv.levelOk l with
  | false =>
    have HO := Lib.hid hok
    have HP : Hid (textR l = ⟨#[]⟩) := by show _ = _; simp [textR, hok]
    clear hok
    go_enter Tryd.func68, Tryd.ntmps68
    go_wp2
    go_loopw [3, 4] (fun v i wr => v = .string ⟨#[]⟩ ∧ i = .int .i64 0 ∧ wr = w) (fun _ _ _ => 0)
    case atStart => exact ⟨rfl, rfl, rfl⟩
    case round =>
      obtain ⟨rfl, rfl, rfl⟩ := hrel
      by_cases hz : n = 0
      · subst hz
        go_wp2
        go_ret
        exact ⟨by rw [HP.out]; rfl, Below.refl _ _⟩
      · have hp : (0 : Int) < n := by omega
        go_wp2_with fail
        refine (specOk_any wr B A n c l hB hl (by omega)).mono ?_
        rintro e w1 ⟨rfl, hb1⟩
        rw [HO.out]
        go_wp2
        go_ret
        exact ⟨by rw [HP.out]; rfl, hb1⟩
  | true =>
    have HO := Lib.hid hok
    have HP : Hid (textR l = tx l) := by show _ = _; simp [textR, hok]
    obtain ⟨hn1, hn24⟩ : 1 ≤ n ∧ n ≤ 24 := by have := hl.1; simp [Lv.levelOk] at hok; omega
    clear hok
    go_enter Tryd.func68, Tryd.ntmps68
    go_wp2
    go_loopw [3, 4] (fun v i wr => ∃ k : Nat, k ≤ n ∧ i = .int .i64 k ∧ v = .string (tx (l.take k)) ∧ Below w.heap.size w wr) (fun _ i _ => n - (intOf i).toNat)
    case atStart => exact ⟨0, Nat.zero_le _, rfl, rfl, Below.refl _ _⟩
    case round =>
      obtain ⟨k, hk, rfl, rfl, hbel⟩ := hrel
      have hszr := hbel.size
      by_cases hlt : k < n
      · have hlr := hl.below (hbel.mono hB)
        obtain ⟨b, off, rfl, hb, hc⟩ := hl.2 (by omega)
        obtain ⟨c1, c3⟩ := hc k hlt
        have htk := ok_tk' HO.out (k := k) (by omega)
        have hsz := tx_size (l.take k)
        have hsz2 : (tx (l.take k)).size ≤ 120 := by simp at hsz; omega
        have hz0 : k = 0 → Hid (tx (l.take (k + 1)) = (⟨#[]⟩ : ByteArray) ++ word (l.getD k (0, 0))) := by rintro rfl; exact tx_take_zero l (by omega)
        have hz1 : 0 < k → Hid (tx (l.take (k + 1)) = tx (l.take k) ++ ⟨#[32]⟩ ++ word (l.getD k (0, 0))) := fun h => tx_take_succ l k h (by omega)
        have hze : k = 0 → tx (l.take k) = ⟨#[]⟩ := by rintro rfl; rfl
        obtain ⟨t, ht⟩ : ∃ t, l.getD k (0, 0) = t := ⟨_, rfl⟩
        rw [ht] at c1 c3 htk hz0 hz1
        obtain ⟨op, N⟩ := t
        obtain ⟨X, hX⟩ : ∃ X, tx (l.take k) = X := ⟨_, rfl⟩
        rw [hX] at hsz2 hze hz1 ⊢
        obtain ⟨Y, hY⟩ : ∃ Y, tx (l.take (k + 1)) = Y := ⟨_, rfl⟩
        rw [hY] at hz0 hz1
        have HY := Lib.hid hY
        have hops := Lv.tk_cases htk
        have hb05 : 0 ≤ N ∧ N < 5 := by simp [Lv.tkOk] at htk; omega
        obtain ⟨hN0, hN5⟩ := hb05
        simp only at hops
        have HL := Lib.hid hl
        clear hc ht hsz htk hX hl hY
        go_wp2_with fail
        refine (specOk_any wr B _ n c l (by omega) hlr (by omega)).mono ?_
        rintro e w1 ⟨rfl, hb1⟩
        rw [HO.out]
        have hB1 := hbel.trans (hb1.mono hszr)
        have hz3 := hB1.size
        have k1 := (hB1.cell (p := ⟨b, off + k * 2, none⟩) (by show b < _; omega)).trans c1
        have k2 := (hB1.cell (p := ⟨b, off + k * 2 + 1, none⟩) (by show b < _; omega)).trans c3
        have hbw : b < w1.heap.size := by omega
        have ka1 : ∀ o, (w1.alloc o).cell? ⟨b, off + k * 2, none⟩ = some (.int .i64 op) := fun o => (World.cell?_alloc_past _ _ _ (by exact hbw)).trans k1
        have ka2 : ∀ o, (w1.alloc o).cell? ⟨b, off + k * 2 + 1, none⟩ = some (.int .i64 N) := fun o => (World.cell?_alloc_past _ _ _ (by exact hbw)).trans k2
        clear c1 c3 hb1 hbel hlr
        by_cases hk0 : k = 0
        · obtain rfl : X = ⟨#[]⟩ := hze hk0
          have HZ := hz0 hk0
          have hkn : ¬ ((0 : Int) < (k : Int)) := by omega
          clear hz0 hz1 hze hsz2 hk0
          rcases hops with rfl | rfl | rfl | rfl | rfl
          · go_wp2
            go_roundw
            case rel => exact ⟨k + 1, by omega, by go_num, by rw [HY.out, HZ.out]; rfl, hB1.alloc hz3 _⟩
            case measure => simp [intOf]; omega
          · go_wp2
            go_roundw
            case rel => exact ⟨k + 1, by omega, by go_num, by rw [HY.out, HZ.out]; rfl, hB1.alloc hz3 _⟩
            case measure => simp [intOf]; omega
          · go_wp2
            go_roundw
            case rel => exact ⟨k + 1, by omega, by go_num, by rw [HY.out, HZ.out]; rfl, hB1.alloc hz3 _⟩
            case measure => simp [intOf]; omega
          · go_wp2
            go_roundw
            case rel => exact ⟨k + 1, by omega, by go_num, by rw [HY.out, HZ.out]; rfl, hB1.alloc hz3 _⟩
            case measure => simp [intOf]; omega
          · obtain ⟨m, rfl⟩ := Int.eq_ofNat_of_zero_le hN0
            have hcv := conv_u w1 m (by omega)
            go_wp2
            go_roundw
            case rel => exact ⟨k + 1, by omega, by go_num, by rw [HY.out, HZ.out, ← word_u2 m], (hB1.alloc hz3 _).alloc (by simp; omega) _⟩
            case measure => simp [intOf]; omega
        · have HZ := hz1 (by omega)
          have hkn : (0 : Int) < (k : Int) := by omega
          clear hz0 hz1 hze hk0
          rcases hops with rfl | rfl | rfl | rfl | rfl
          · go_wp2
            go_roundw
            case rel => exact ⟨k + 1, by omega, by go_num, by rw [HY.out, HZ.out]; rfl, hB1.alloc hz3 _⟩
            case measure => simp [intOf]; omega
          · go_wp2
            go_roundw
            case rel => exact ⟨k + 1, by omega, by go_num, by rw [HY.out, HZ.out]; rfl, hB1.alloc hz3 _⟩
            case measure => simp [intOf]; omega
          · go_wp2
            go_roundw
            case rel => exact ⟨k + 1, by omega, by go_num, by rw [HY.out, HZ.out]; rfl, hB1.alloc hz3 _⟩
            case measure => simp [intOf]; omega
          · go_wp2
            go_roundw
            case rel => exact ⟨k + 1, by omega, by go_num, by rw [HY.out, HZ.out]; rfl, hB1.alloc hz3 _⟩
            case measure => simp [intOf]; omega
          · obtain ⟨m, rfl⟩ := Int.eq_ofNat_of_zero_le hN0
            have hcv := conv_u w1 m (by omega)
            go_wp2
            go_roundw
            case rel => exact ⟨k + 1, by omega, by go_num, by rw [HY.out, HZ.out, ← word_u2 m], (hB1.alloc hz3 _).alloc (by simp; omega) _⟩
            case measure => simp [intOf]; omega
      · obtain rfl : k = n := by omega
        rw [List.take_of_length_le (show l.length ≤ k by omega)]
        go_wp2
        go_ret
        exact ⟨by rw [HP.out]; rfl, hbel⟩
end Go.Proofs.YtijiohdddfdjfaaDoor
