/- Chapter 5's draws: a list of constraints, from bytes. -/
import Derived.Test.YtmmhcpigcdlnmaaCons
import Derived.Test.YtmmhcpigcdlnmaaDraw1

namespace Go.Proofs.Ytmmhcpigcdlnmaa
open Go.RowKit
open Cs (Cn)

/-- a row of constraints of the call's own -/
def CsDrew (base : Nat) (e : Ending) (w' : World) : Prop :=
  ∃ (g cap m : Nat) (l : List Cn), e = .returned (.slice (some ⟨g, 0, none⟩) m cap) ∧ m ≤ 60 ∧ OwnC w' base (some ⟨g, 0, none⟩) m cap l

set_option maxRecDepth 100000 in
set_option maxHeartbeats 1600000 in
theorem drawThin_any (w : World) (B : Nat) (A : Option Addr) (n c : Nat) (hB : B ≤ w.heap.size) (hb : BytR w B A n) (hn : n ≤ 1048576) :
    Calls Try.prog 26 #[.slice A n c] w fun e w' => CsDrew w.heap.size e w' ∧ Below w.heap.size w w' := by
  go_enter Try.func26, Try.ntmps26
  go_wp2_with fail
  refine (open_any w B A n c hB hb hn).mono ?_
  rintro e w1 ⟨rfl, hb1, hc1⟩
  have hs1 := hb1.size
  go_wp2_with fail
  refine (cons_any w1 w.heap.size A n c 0 hc1 (by omega) hn).mono ?_
  rintro e w2 ⟨g, cap, m, rfl, hm, ⟨l, ho2⟩, _, hk2⟩
  have HB2 := Lib.hid (Kp.below hb1 hk2 (Nat.le_refl _) hs1)
  have HO2 := Lib.hid (own_base ho2 hs1)
  clear ho2 hk2 hb1 hc1
  go_wp2
  go_ret
  exact ⟨⟨g, cap, m, l, rfl, by omega, HO2.out⟩, HB2.out⟩

set_option maxRecDepth 100000 in
set_option maxHeartbeats 1600000 in
theorem drawSigns_any (w : World) (B : Nat) (A : Option Addr) (n c : Nat) (hB : B ≤ w.heap.size) (hb : BytR w B A n) (hn : n ≤ 1048576) :
    Calls Try.prog 30 #[.slice A n c] w fun e w' => CsDrew w.heap.size e w' ∧ Below w.heap.size w w' := by
  go_enter Try.func30, Try.ntmps30
  go_wp2_with fail
  refine (open_any w B A n c hB hb hn).mono ?_
  rintro e w1 ⟨rfl, hb1, hc1⟩
  have hs1 := hb1.size
  go_wp2_with fail
  refine (cons_any w1 w.heap.size A n c 0 hc1 (by omega) hn).mono ?_
  rintro e w2 ⟨g, cap, m, rfl, hm, ⟨l, ho2⟩, _, hk2⟩
  have HB2 := Lib.hid (Kp.below hb1 hk2 (Nat.le_refl _) hs1)
  have HO2 := Lib.hid (own_base ho2 hs1)
  clear ho2 hk2 hb1 hc1
  go_wp2
  go_ret
  exact ⟨⟨g, cap, m, l, rfl, by omega, HO2.out⟩, HB2.out⟩

set_option maxRecDepth 100000 in
set_option maxHeartbeats 3200000 in
theorem drawCore_any (w : World) (B : Nat) (A : Option Addr) (n c : Nat) (hB : B ≤ w.heap.size) (hb : BytR w B A n) (hn : n ≤ 1048576) :
    Calls Try.prog 10 #[.slice A n c] w fun e w' => CsDrew w.heap.size e w' ∧ Below w.heap.size w w' := by
  obtain ⟨i0, hi, hz0, hz1, hz2⟩ := info_parts info_con
  go_enter Try.func10, Try.ntmps10
  go_wp2_with fail
  refine (open_any w B A n c hB hb hn).mono ?_
  rintro e w1 ⟨rfl, hb1, hc1⟩
  have hs1 := hb1.size
  go_wp2_with fail
  refine (cons_any w1 w.heap.size A n c 0 hc1 (by omega) hn).mono ?_
  rintro e w2 ⟨g, cap, m, rfl, hm, ⟨l, ho2⟩, hc2, hk2⟩
  have hlt1 := hc1.lt
  have HO2 := Lib.hid ho2
  have HC2 := Lib.hid hc2
  have HK2 := Lib.hid hk2
  have HB1 := Lib.hid hb1
  clear ho2 hk2 hb1 hc1 hc2
  go_wp2
  go_loopw [4, 5] (fun v i wr => ∃ (k g cap m : Nat) (l : List Cn), k ≤ 6 ∧ i = .int .i64 k ∧ m ≤ 40 + k ∧ v = .slice (some ⟨g, 0, none⟩) m cap ∧ Hid (OwnC wr w1.heap.size (some ⟨g, 0, none⟩) m cap l) ∧ Hid (Cur wr w.heap.size A n c (200 + 5 * k)) ∧ Hid (Kp w.heap.size w1 wr)) (fun _ i _ => 6 - (intOf i).toNat)
  case atStart => exact ⟨0, g, cap, m, l, by omega, rfl, by omega, rfl, HO2.out, HC2.out.more (by omega), HK2.out⟩
  case round =>
    clear HO2 HC2 HK2
    obtain ⟨k, g, cap, m, l, hk, rfl, hm, rfl, HO, HC, HK⟩ := hrel
    have hsr := HK.out.size
    by_cases hlt : k < 6
    · have hki : (k : Int) < 6 := by omega
      have dki : decide ((k : Int) < 6) = true := decide_eq_true hki
      go_wp2_with fail
      refine (once_any wr w.heap.size A n c _ 5 HC.out (by omega) (by omega) hn).mono ?_
      rintro e w3 ⟨r, rfl, hc3, hk3⟩
      have HO3 := Lib.hid (Kp.own HO.out hk3 (by omega))
      have HK3 := Lib.hid (HK.out.trans hk3)
      have HC3 := Lib.hid hc3
      clear hk3 hc3
      cases r with
      | true =>
        have HB3 := Lib.hid (Kp.below HB1.out HK3.out (Nat.le_refl _) hs1)
        have HOX := Lib.hid (own_base HO3.out hs1)
        go_wp2
        go_ret
        exact ⟨⟨g, cap, m, l, rfl, by omega, HOX.out⟩, HB3.out⟩
      | false =>
        go_wp2_with fail
        refine (con_any w3 w.heap.size A n c _ HC3.out (by omega) hn).mono ?_
        rintro e w4 ⟨U, R, V, rfl, hc4, hk4⟩
        have ho4 := Kp.own HO3.out hk4 (by omega)
        have HK4 := Lib.hid (HK3.out.trans hk4)
        have HC4 := Lib.hid hc4
        have hs4 := HK4.out.size
        clear hk4 hc4
        go_wp2_with (at_builtin; refine wpList_append_own _ rfl (.tmp 19) (.tmp 22) 24 rfl w1.heap.size 34 i0 (.agg #[.int .i64 0, .int .i64 0, .int .i64 0]) 3 24 Try.underlying24 hi hz0 hz1 hz2 rfl (by decide) (.slice (some ⟨g, 0, none⟩) m cap) m (conCells l) rfl (ho4.alloc _) ⟨w4.heap.size, 0, none⟩ 1 1 (conCells [(U, R, V)]) rfl rfl (con_new w4 U R V) (conCells_one _) (by unfold maxLen; omega) (by omega) (by simp; omega) ?_; intro v' w5 hown' hgrow hnil)
        obtain ⟨g5, c5, rfl⟩ : ∃ g' c', v' = .slice (some ⟨g', 0, none⟩) (m + 1) c' := by
          rcases hown'.2 with ⟨h0, _⟩ | ⟨g', c', _, h0, _⟩
          · have := (hnil.1 h0).1
            cases this
          · exact ⟨g', c', h0⟩
        have hr5 : ∀ k, (Value.slice (some ⟨g, 0, none⟩) m cap).ownBlock = some k → w1.heap.size ≤ k := fun k h => (ho4.lt k h).1
        have HC5 := Lib.hid ((HC4.out.alloc (.cells #[.int .i64 U, .int .i64 R, .int .i64 V] 34)).grown hgrow (fun k h => by have := hr5 k h; omega))
        have HK5 := Lib.hid ((HK4.out.alloc (.cells #[.int .i64 U, .int .i64 R, .int .i64 V] 34)).more hgrow (fun k h => hr5 k h))
        have HO5 : Hid (OwnC w5 w1.heap.size (some ⟨g5, 0, none⟩) (m + 1) c5 (l ++ [(U, R, V)])) := by
          show OwnC _ _ _ _ _ _
          unfold OwnC
          rw [conCells_append]
          exact hown'
        clear hown' hgrow hnil ho4 hr5 HC4 HK4 HO3 HC3 HK3
        go_wp2
        go_roundw
        case rel => exact ⟨k + 1, g5, c5, m + 1, _, by omega, by go_num, by omega, rfl, HO5.out, HC5.out.more (by omega), HK5.out⟩
        case measure => simp [intOf]; omega
    · have hki : ¬ (k : Int) < 6 := by omega
      have dki : decide ((k : Int) < 6) = false := decide_eq_false hki
      have HB3 := Lib.hid (Kp.below HB1.out HK.out (Nat.le_refl _) hs1)
      have HOX := Lib.hid (own_base HO.out hs1)
      go_wp2
      go_ret
      exact ⟨⟨g, cap, m, l, rfl, by omega, HOX.out⟩, HB3.out⟩
end Go.Proofs.Ytmmhcpigcdlnmaa
