/- The draw of a level in which OpImax has become OpMax as far as the bytes say. -/
import Derived.Test.YtghoofgfimeedaaDoorDraw6

namespace Go.Proofs.YtghoofgfimeedaaDoor
open Go.RowKit

set_option maxRecDepth 100000 in
set_option maxHeartbeats 4000000 in
theorem drawNormFree_any (w : World) (B : Nat) (A : Option Addr) (n c : Nat) (hB : B ≤ w.heap.size) (hb : BytR w B A n) (hn : n ≤ 1048576) :
    Calls Tryd.prog 15 #[.slice A n c] w fun e w' => ∃ g L cap l, e = .returned (.slice (some ⟨g, 0, none⟩) L cap) ∧ L ≤ 25 ∧ OwnT w' w.heap.size (some ⟨g, 0, none⟩) L cap l ∧ Below w.heap.size w w' := by
  go_enter Tryd.func15, Tryd.ntmps15
  go_wp2_with fail
  refine (open_any w B A n c hB hb hn).mono ?_
  rintro e w1 ⟨rfl, hb1, hc1⟩
  have hs1 := hb1.size
  have hlt1 := hc1.lt
  go_wp2_with fail
  refine (badLevel_any w1 w.heap.size A n c 0 hc1 (by omega) hn).mono ?_
  rintro e w2 ⟨g, cap, l, rfl, h1, h2, ho2, hc2, hk2⟩
  obtain ⟨L, hL⟩ : ∃ L, l.length = L := ⟨_, rfl⟩
  rw [hL] at h1 h2 ho2 ⊢
  have hs2 := hk2.size
  have HB2 := Lib.hid (Kp.below hb1 hk2 (Nat.le_refl _) hs1)
  have HO2 := Lib.hid ho2
  have HC2 := Lib.hid hc2
  have hg := (ho2.lt g rfl).1
  clear ho2 hc2 hk2 hb1 hc1 hL hb
  go_wp2
  go_loopw [5] (fun i wr => ∃ (k : Nat) (l' : List (Int × Int)), k ≤ L ∧ i = .int .i64 k ∧ Hid (OwnT wr w1.heap.size (some ⟨g, 0, none⟩) L cap l') ∧ Hid (Cur wr w.heap.size A n c (200 + k)) ∧ Hid (Below w.heap.size w wr) ∧ w1.heap.size ≤ wr.heap.size) (fun i _ => L - (intOf i).toNat)
  case atStart => exact ⟨0, l, Nat.zero_le _, rfl, HO2.out, HC2.out.more (by omega), HB2.out, by omega⟩
  case round =>
    rename_i wo
    clear HO2 HC2 HB2
    obtain ⟨k, l', hk, rfl, HO, HC, HB, hsr⟩ := hrel
    by_cases hlt : k < L
    · have d1 : decide ((k : Int) < (L : Int)) = true := by simp; omega
      go_wp2_with fail
      refine (once_any wr w.heap.size A n c (200 + k) 4 HC.out (by omega) (by omega) hn).mono ?_
      rintro e w3 ⟨r, rfl, hc3, hk3⟩
      have hs3 := hk3.size
      have HO3 := Lib.hid (Kp.own HO.out hk3 hlt1)
      have HB3 := Lib.hid (Kp.below HB.out hk3 (Nat.le_refl _) (Nat.le_trans hs1 hsr))
      have HC3 := Lib.hid hc3
      clear hc3 hk3 HO HC HB d1
      cases r with
      | true =>
        have HOE := Lib.hid (own_base HO3.out hs1)
        go_wp2
        go_ret
        exact ⟨_, _, _, _, rfl, h2, HOE.out, HB3.out⟩
      | false =>
        obtain ⟨b1, off, hA, _, hcs⟩ := (OwnT.reads HO3.out).2 (by omega)
        injection hA with hA
        injection hA with e1 e2
        subst e1; subst e2
        have x1 := (hcs k hlt).1
        simp only [Nat.zero_add] at x1
        have hki : (k : Int) < (L : Int) := by omega
        obtain ⟨p, hp⟩ : ∃ p, (l'.getD k (0, 0)).1 = p := ⟨_, rfl⟩
        rw [hp] at x1
        clear hcs hp
        by_cases e3 : p = 3
        · subst e3
          obtain ⟨⟨v1, y1⟩, z1⟩ := own_spotC HO3.out (j := k * 2) (by omega)
          obtain ⟨l'', hl'', ho4⟩ := own_putC HO3.out (j := k * 2) (by omega) 2
          have HO4 := Lib.hid ho4
          have HC4 : Hid (Cur (w3.setCell ⟨g, k * 2, none⟩ (.int .i64 2)) w.heap.size A n c (200 + (k + 1))) := by
            refine Lib.hid (HC3.out.grown (row := some g) ⟨rfl, rfl, rfl, by simp [World.setCell], fun i _ hi => Below.heap_setCell _ _ _ _ (fun e => hi (by rw [e]))⟩ (fun j hj => by injection hj with hj; omega))
          have HB4 := Lib.hid (HB3.out.setCell (p := ⟨g, k * 2, none⟩) (Nat.le_trans hs1 hg) (.int .i64 2))
          clear ho4 hl''
          go_wp2
          go_roundw
          case rel => exact ⟨k + 1, l'', by omega, by go_num, HO4.out, HC4.out, HB4.out, by simp [World.setCell]; omega⟩
          case measure => simp [intOf]; omega
        · have d3 : (p == 3) = false := by simpa using e3
          clear e3
          go_wp2
          go_roundw
          case rel => exact ⟨k + 1, l', by omega, by go_num, HO3.out, HC3.out, HB3.out, by omega⟩
          case measure => simp [intOf]; omega
    · obtain rfl : k = L := by omega
      have d1 : decide ((k : Int) < (k : Int)) = false := by simp
      have HOE := Lib.hid (own_base HO.out hs1)
      go_wp2
      go_ret
      exact ⟨_, _, _, _, rfl, h2, HOE.out, HB.out⟩
end Go.Proofs.YtghoofgfimeedaaDoor
