/- The model's cursor: residuals; the draw of ResidLe (written by tools/mkdrawr.py). -/
import Derived.Test.YtijiohdddfdjfaaDrawN
import Derived.Test.YtijiohdddfdjfaaSgDraw
import Derived.Test.YtijiohdddfdjfaaSRes
import Derived.Test.YtijiohdddfdjfaaROk2
import Derived.Test.YtijiohdddfdjfaaOwnO2
namespace Go.Proofs.Ytijiohdddfdjfaa
open Go.RowKit

theorem at_kp {a b : World} {base bc : Nat} {A : Option Addr} {n c : Nat} {xs : List Value} (h : OwnO a base A n c xs) (hk : Kp bc a b) (hb : bc < base) : OwnO b base A n c xs :=
  at_kept h hk fun k hk' e => by
    have := (h.lt k hk').1
    injection e with e
    omega
theorem at_capO {w : World} {base : Nat} {A : Option Addr} {n c : Nat} {xs : List Value} (h : OwnO w base A n c xs) : n ≤ c := by
  rcases h.2 with ⟨_, h0, _⟩ | ⟨_, _, _, _, _, _, h1, _⟩
  · omega
  · exact h1
/-- what a draw of atoms gives, wherever the row begins -/
def DrewO (lo hi bc : Nat) (A : Option Addr) (n c K : Nat) (w : World) (e : Ending) (w' : World) : Prop :=
  ∃ g o cap l, e = .returned (.slice (some ⟨g, o, none⟩) l.length cap) ∧ lo ≤ l.length ∧ l.length ≤ hi ∧ OwnO w' w.heap.size (some ⟨g, o, none⟩) l.length cap (tokCells l) ∧ Cur w' bc A n c K ∧ Kp bc w w'

set_option maxRecDepth 100000 in
set_option maxHeartbeats 6400000 in
theorem resid_any (w : World) (bc : Nat) (A : Option Addr) (n c K : Nat) (s : Int) (hc : Cur w bc A n c K) (hK : K ≤ 800000) (hn : n ≤ 1048576) :
    Calls Try.prog 29 #[.pointer (some ⟨bc, 0, none⟩), .int .i64 s] w (DrewO 1 7 bc A n c (K + 20) w) := by
  obtain ⟨i0, hi, hz0, hz1, hz2⟩ := info_parts info_atom
  have hlt := hc.lt
  go_enter Try.func29, Try.ntmps29
  go_wp2_with fail
  refine (atom_any w bc A n c K hc (by omega) hn).mono ?_
  rintro e w1 ⟨p, x, rfl, hpx, hc1, hk1⟩
  have hs1 := hk1.size
  have ho1 := own_lit w1 w.heap.size p x hs1
  have hk1a : Kp bc w (w1.alloc (.cells #[.int .i64 p, .int .i64 x] 30)) := hk1.alloc _
  have HAL : Hid (Nm.AllOk [(p, x)]) := Nm.allOk_of_mem (fun a ha => by simp at ha; subst ha; exact (Nm.atOk_iff _).2 (by simp only; omega))
  clear hk1 hc
  go_wp2_with fail
  refine (pick_any _ bc A n c _ 4 (hc1.alloc _) (by omega) (by omega) hn).mono ?_
  rintro e w2 ⟨r, rfl, hr, hc2, hk2⟩
  have hr4 : r ≤ 3 := by omega
  have HO2 := Lib.hid (Kp.own ho1 hk2 (by omega))
  have HK2 := Lib.hid (hk1a.trans hk2)
  have HC2 := Lib.hid hc2
  clear hk2 hc1 hc2 ho1 hk1a hr hpx
  go_wp2
  go_loopw [5, 6] (fun v i wr => ∃ (j g cap : Nat) (m : List (Int × Int)), j ≤ 3 ∧ i = .int .i64 j ∧ v = .slice (some ⟨g, 0, none⟩) m.length cap ∧ 1 ≤ m.length ∧ m.length + j ≤ 4 ∧ Hid (Nm.AllOk m) ∧ OwnA wr w.heap.size (some ⟨g, 0, none⟩) m.length cap m ∧ Cur wr bc A n c (K + 9 - 2 * j) ∧ Kp bc w wr) (fun _ i _ => (intOf i).toNat)
  case atStart => exact ⟨r, w1.heap.size, 1, [(p, x)], hr4, rfl, rfl, by simp, by simp; omega, HAL.out, HO2.out, HC2.out.more (by omega), HK2.out⟩
  case round =>
    obtain ⟨j, g, cap, m, hj, rfl, rfl, hm1, hm4, HA, hown, hcr, hkr⟩ := hrel
    have hsr := hkr.size
    by_cases hj0 : 0 < j
    · have hji : (0 : Int) < (j : Int) := by omega
      obtain ⟨M, hM⟩ : ∃ M, m.length = M := ⟨_, rfl⟩
      rw [hM] at hm1 hm4 hown ⊢
      have HM := Lib.hid hM
      clear hM
      go_wp2_with fail
      refine (atom_any wr bc A n c _ hcr (by omega) hn).mono ?_
      rintro e w3 ⟨p3, x3, rfl, hpx, hc3, hk3⟩
      have ho3 := Kp.own hown hk3 (by omega)
      have hk03 := hkr.trans hk3
      have hs3 := hk03.size
      have HA3 : Hid (Nm.AllOk (m ++ [(p3, x3)])) := HA.out.append (Nm.allOk_of_mem (fun a ha => by simp at ha; subst ha; exact (Nm.atOk_iff _).2 (by simp only; omega)))
      clear hk3 hcr hkr hown hpx
      go_wp2_with (at_builtin; first
        | (refine wpList_append_own _ rfl (.tmp 17) (.tmp 20) 24 rfl w.heap.size 30 i0 (.agg #[.int .i64 0, .int .i64 0]) 2 16 Try.underlying24 hi hz0 hz1 hz2 rfl (by decide) (.slice (some ⟨g, 0, none⟩) M cap) M (tokCells m) rfl (ho3.alloc _) ⟨w3.heap.size, 0, none⟩ 1 1 [.int .i64 p3, .int .i64 x3] rfl rfl (World.news_of_block (cs := #[.int .i64 p3, .int .i64 x3]) (t := 30) (fr := (0, 0)) (heap_alloc_new w3 _)) (by intro v hv; simp at hv; rcases hv with rfl | rfl <;> rfl) (by unfold maxLen; omega) (by omega) (by simp; omega) ?_
           intro v' w4 hown' hgrow _
           obtain ⟨g4, cap4, rfl⟩ : ∃ g' cap', v' = .slice (some ⟨g', 0, none⟩) (M + 1) cap' := by
             rcases hown'.2 with ⟨_, h⟩ | ⟨g', cap', _, h, _⟩
             · omega
             · exact ⟨g', cap', h⟩
           have HLN : Hid ((m ++ [(p3, x3)]).length = M + 1) := by show _ = _; rw [List.length_append, HM.out]; rfl
           have HW4 : Hid (OwnA w4 w.heap.size (some ⟨g4, 0, none⟩) (M + 1) cap4 (m ++ [(p3, x3)])) := by
             show OwnA _ _ _ _ _ _
             unfold OwnA
             rw [tokCells_append]
             exact hown'
           have HC4 := Lib.hid ((hc3.alloc _).grown hgrow (fun k h => by have := (ho3.lt k h).1; omega))
           have HK4 := Lib.hid ((hk03.alloc _).more hgrow (fun k h => (ho3.lt k h).1))
           clear hown' hgrow ho3 hc3 hk03))
      go_wp2
      go_roundw
      case rel => exact ⟨j - 1, g4, cap4, m ++ [(p3, x3)], by omega, by congr 1; omega, by rw [HLN.out], by rw [HLN.out]; omega, by rw [HLN.out]; omega, HA3.out, by rw [HLN.out]; exact HW4.out, HC4.out.more (by omega), HK4.out⟩
      case measure => simp [intOf]; omega
    · obtain rfl : j = 0 := by omega
      have hrd := OwnA.reads hown
      have hne : m.map (Nm.pl s) ≠ [] := by intro e; have h2 := congrArg List.length e; rw [List.length_map] at h2; simp at h2; subst h2; simp at hm1
      have hal : Nm.AllOk (m.map (Nm.pl s)) := Nm.allOk_of_mem fun a ha => by
        obtain ⟨b, hb, rfl⟩ := List.mem_map.1 ha
        exact Nm.pl_atOk ((Nm.atOk_iff _).2 (HA.out.mem hb))
      have hnl : (Nm.resid s m).length ≤ 6 := Nm.rnorm_len _
      have hnn : 1 ≤ (Nm.resid s m).length := List.length_pos_iff.2 (Nm.rnorm_ne hne hal)
      clear hown hne hal
      go_wp2_with fail
      refine (l03Resid_any wr wr.heap.size _ _ cap m s (Nat.le_refl _) hrd (by omega) hm1 HA.out).mono ?_
      rintro e w5 ⟨A5, cap5, rfl, ho5, hb5⟩
      have hc5 := hcr.below hb5
      have hk05 := hkr.trans (Kp.of_below hb5)
      have ho5 := at_base ho5 hsr
      generalize Nm.resid s m = l1 at ho5 hnl hnn ⊢
      obtain ⟨n1, hn1⟩ : ∃ n1, l1.length = n1 := ⟨_, rfl⟩
      rw [hn1] at hnl hnn ho5 ⊢
      obtain ⟨g2, o2, rfl, hg2, _⟩ := at_form ho5 hnn
      clear hb5 hrd hcr hkr HA hm1 hm4
      go_wp2_with fail
      refine (pick_any w5 bc A n c _ 12 hc5 (by omega) (by omega) hn).mono ?_
      rintro e w6 ⟨r, rfl, hr, hc6, hk6⟩
      have HO6 := Lib.hid (at_kp ho5 hk6 (by omega))
      have hk06 := hk05.trans hk6
      have hs6 := hk06.size
      clear hk6 hc5 hk05 ho5
      by_cases r0 : r = 0
      · subst r0
        go_wp2_with fail
        refine (atom_any w6 bc A n c _ hc6 (by omega) hn).mono ?_
        rintro e w7 ⟨p3, x3, rfl, hpx, hc7, hk7⟩
        have ho7 := at_kp HO6.out hk7 (by omega)
        have hk07 := hk06.trans hk7
        have hs7 := hk07.size
        have hoa := at_below' ho7 ((Below.refl _ _).alloc (Nat.le_refl _) (.cells #[.int .i64 p3, .int .i64 x3] 30))
        clear hk7 hc6 hk06 HO6 hpx
        go_wp2_with (at_builtin; first
          | (refine wpList_append_o _ rfl (.tmp 29) (.tmp 32) rfl i0 Try.underlying24 hi hz0 hz1 hz2 w.heap.size (some ⟨g2, o2, none⟩) n1 cap5 (tokCells l1) rfl hoa hnn ⟨w7.heap.size, 0, none⟩ 1 1 [.int .i64 p3, .int .i64 x3] rfl rfl (World.news_of_block (cs := #[.int .i64 p3, .int .i64 x3]) (t := 30) (fr := (0, 0)) (heap_alloc_new w7 _)) (by intro v hv; simp at hv; rcases hv with rfl | rfl <;> rfl) (by unfold maxLen; omega) (by omega) (by simp; omega) ?_
             intro g8 o8 cap8 w8 hown' hgrow
             have HLN : Hid ((l1 ++ [(p3, x3)]).length = n1 + 1) := by show _ = _; rw [List.length_append, hn1]; rfl
             have HW8 : Hid (OwnO w8 w.heap.size (some ⟨g8, o8, none⟩) (n1 + 1) cap8 (tokCells (l1 ++ [(p3, x3)]))) := by
               show OwnO _ _ _ _ _ _
               rw [tokCells_append]
               exact hown'
             have HC8 := Lib.hid ((hc7.alloc _).grown hgrow (fun k h => by have := (ho7.lt k h).1; omega))
             have HK8 := Lib.hid ((hk07.alloc _).more hgrow (fun k h => (ho7.lt k h).1))
             clear hown' hgrow ho7 hoa hc7 hk07))
        go_wp2
        go_ret
        exact ⟨g8, o8, cap8, l1 ++ [(p3, x3)], by rw [HLN.out]; rfl, by rw [HLN.out]; omega, by rw [HLN.out]; omega, by rw [HLN.out]; exact HW8.out, HC8.out.more (by omega), HK8.out⟩
      · by_cases r1 : r = 1
        · subst r1
          go_wp2_with fail
          refine (pick_any w6 bc A n c _ n1 hc6 (by omega) (by omega) hn).mono ?_
          rintro e w7 ⟨i, rfl, hi4, hc7, hk7⟩
          have hi1 : i < n1 := by omega
          have hii : (i : Int) < (n1 : Int) := by omega
          have HO7 := Lib.hid (at_kp HO6.out hk7 (by omega))
          have hk07 := hk06.trans hk7
          clear hk7 hc6 hk06 HO6 hi4
          go_wp2_with fail
          refine (raw_any w7 bc A n c _ hc7 (by omega) hn).mono ?_
          rintro e w8 ⟨v, rfl, hc8, hk8⟩
          have HO8 := Lib.hid (at_kp HO7.out hk8 (by omega))
          have hk08 := hk07.trans hk8
          have hs8 := hk08.size
          clear hk8 hc7 hk07 HO7
          go_wp2_with fail
          refine (pick_any _ bc A n c _ 3 (hc8.alloc _) (by omega) (by omega) hn).mono ?_
          rintro e w9 ⟨j, rfl, hj, hc9, hk9⟩
          have hbk := Kp.blk (Blk.made w8 _ _) hk9 (by omega)
          obtain ⟨u, hu⟩ : ∃ u, w9.cell? ⟨w8.heap.size, j, none⟩ = some (.int .i64 u) := by
            rcases (show j = 0 ∨ j = 1 ∨ j = 2 by omega) with rfl | rfl | rfl <;> exact ⟨_, hbk.cell _⟩
          have hj1 : j < 3 := by omega
          have hjj : (j : Int) < 3 := by omega
          have ho9 := at_kp (at_below' HO8.out ((Below.refl _ _).alloc (Nat.le_refl _) _)) hk9 (by omega)
          have hk09 := (hk08.alloc _).trans hk9
          obtain ⟨⟨v9, e9⟩, f9⟩ := at_spot (j := i * 2 + 1) ho9 (by omega)
          obtain ⟨l', hl', ho10⟩ := at_put (j := i) ho9 hi1 u
          rw [← Nat.add_assoc] at e9 f9 ho10
          have HO10 := Lib.hid ho10
          have HC := Lib.hid (hc9.grown (Kp.put w9 g2 (o2 + i * 2 + 1) (.int .i64 u)) (fun k h => by injection h with h; omega))
          have HK := Lib.hid (hk09.more (Kp.put w9 g2 (o2 + i * 2 + 1) (.int .i64 u)) (fun k h => by injection h with h; omega))
          clear hbk hk9 hc9 ho9 HO8 hk09 hk08 hc8 ho10 hj
          go_wp2
          go_ret
          exact ⟨g2, o2, cap5, l', by rw [hl', hn1]; rfl, by omega, by omega, by rw [hl', hn1]; exact HO10.out, HC.out.more (by omega), HK.out⟩
        · have d0 : ((r : Int) == 0) = false := by simp; omega
          have d1 : ((r : Int) == 1) = false := by simp; omega
          have HC := Lib.hid hc6
          clear hc6 r0 r1
          go_wp2
          go_ret
          exact ⟨g2, o2, cap5, l1, by rw [hn1]; rfl, by omega, by omega, by rw [hn1]; exact HO6.out, HC.out.more (by omega), hk06⟩

/-- a row of atoms that a draw has left, wherever it begins -/
def AtomO (w : World) (base : Nat) (A : Option Addr) (c : Nat) (l : List (Int × Int)) : Prop := OwnO w base A l.length c (tokCells l) ∧ 1 ≤ l.length ∧ l.length ≤ 7
/-- what the draw of two residuals gives -/
def DrawTwoO (w : World) (e : Ending) (w' : World) : Prop :=
  ∃ A1 c1 l1 A2 c2 l2 s, e = .returned (.tuple #[.slice A1 l1.length c1, .slice A2 l2.length c2, .int .i64 s]) ∧ AtomO w' w.heap.size A1 c1 l1 ∧ AtomO w' w.heap.size A2 c2 l2 ∧ Below w.heap.size w w'

set_option maxRecDepth 100000 in
set_option maxHeartbeats 6400000 in
theorem drawResidLe_any (w : World) (B : Nat) (A : Option Addr) (n c : Nat) (hB : B ≤ w.heap.size) (hb : BytR w B A n) (hn : n ≤ 1048576) :
    Calls Try.prog 10 #[.slice A n c] w (DrawTwoO w) := by
  obtain ⟨i0, hi, hz0, hz1, hz2⟩ := info_parts info_atom
  go_enter Try.func10, Try.ntmps10
  go_wp2_with fail
  refine (open_any w B A n c hB hb hn).mono ?_
  rintro e w1 ⟨rfl, hb1, hc1⟩
  have hs1 := hb1.size
  have hlt := hc1.lt
  go_wp2_with fail
  refine (sign_any w1 w.heap.size A n c 0 hc1 (by omega) hn).mono ?_
  rintro e w1' ⟨s, rfl, ⟨K1, hK1, hc1'⟩, hk1'⟩
  have hs1' := hk1'.size
  clear hc1
  go_wp2_with fail
  refine (resid_any w1' w.heap.size A n c K1 s hc1' (by omega) hn).mono ?_
  rintro e w2 ⟨ga, oa, ca, la, rfl, ha1, ha2, hoa, hc2, hk2⟩
  have hs2 := hk2.size
  go_wp2_with fail
  refine (resid_any w2 w.heap.size A n c _ s hc2 (by omega) hn).mono ?_
  rintro e w3 ⟨gb, ob, cb, lb, rfl, hb1', hb2', hob, hc3, hk3⟩
  have hoa3 := at_kp hoa hk3 (by omega)
  have hk13 := (hk1'.trans hk2).trans hk3
  clear hoa hk2 hk3 hc1' hc2 hk1'
  go_wp2_with fail
  refine (once_any w3 w.heap.size A n c _ 2 hc3 (by omega) (by omega) hn).mono ?_
  rintro e w4 ⟨r, rfl, hc4, hk4⟩
  have hoa4 := at_base (base' := w.heap.size) (at_kp hoa3 hk4 (by omega)) (by omega)
  have hob4 := at_base (base' := w.heap.size) (at_kp hob hk4 (by omega)) (by omega)
  have hb4 := Kp.below hb1 (hk13.trans hk4) (Nat.le_refl _) hs1
  have hs4 := hb4.size
  clear hoa3 hob hk13 hk4 hc3 hc4 hb1
  obtain ⟨L, hL⟩ : ∃ L, la.length = L := ⟨_, rfl⟩
  obtain ⟨M, hM⟩ : ∃ M, lb.length = M := ⟨_, rfl⟩
  rw [hL] at ha1 ha2 hoa4 ⊢
  rw [hM] at hb1' hb2' hob4 ⊢
  have HL := Lib.hid hL
  have HM := Lib.hid hM
  have HA := Lib.hid hoa4
  have HBb := Lib.hid hob4
  have HB4 := Lib.hid hb4
  clear hoa4 hob4 hb4 hL hM
  cases r with
  | false =>
    go_wp2
    go_ret3
    exact ⟨_, ca, la, _, cb, lb, s, by rw [HL.out, HM.out]; rfl, ⟨by rw [HL.out]; exact HA.out, by rw [HL.out]; omega, by rw [HL.out]; omega⟩, ⟨by rw [HM.out]; exact HBb.out, by rw [HM.out]; omega, by rw [HM.out]; omega⟩, HB4.out⟩
  | true =>
    go_wp2_with fail
    refine (specResidOk_any w4 w4.heap.size _ L ca la s (Nat.le_refl _) (at_reads HA.out) (by omega)).mono ?_
    rintro e w5 ⟨rfl, hb5⟩
    have HA5 := Lib.hid (at_below' HA.out hb5)
    have HB5 := Lib.hid (at_below' HBb.out hb5)
    have HBB := Lib.hid (HB4.out.trans (hb5.mono hs4))
    have hs5 := HBB.out.size
    clear hb5 HA HBb HB4
    cases hra : Nm.residOk s la with
    | false =>
      clear hra
      go_wp2
      go_ret3
      exact ⟨_, ca, la, _, cb, lb, s, by rw [HL.out, HM.out]; rfl, ⟨by rw [HL.out]; exact HA5.out, by rw [HL.out]; omega, by rw [HL.out]; omega⟩, ⟨by rw [HM.out]; exact HB5.out, by rw [HM.out]; omega, by rw [HM.out]; omega⟩, HBB.out⟩
    | true =>
      have HRA := Lib.hid hra
      clear hra
      go_wp2_with fail
      refine (specResidOk_any w5 w5.heap.size _ M cb lb s (Nat.le_refl _) (at_reads HB5.out) (by omega)).mono ?_
      rintro e w6 ⟨rfl, hb6⟩
      have HA6 := Lib.hid (at_below' HA5.out hb6)
      have HB6 := Lib.hid (at_below' HB5.out hb6)
      have HBC := Lib.hid (HBB.out.trans (hb6.mono hs5))
      have hs6 := HBC.out.size
      clear hb6 HA5 HB5 HBB
      cases hrb : Nm.residOk s lb with
      | false =>
        clear hrb
        go_wp2
        go_ret3
        exact ⟨_, ca, la, _, cb, lb, s, by rw [HL.out, HM.out]; rfl, ⟨by rw [HL.out]; exact HA6.out, by rw [HL.out]; omega, by rw [HL.out]; omega⟩, ⟨by rw [HM.out]; exact HB6.out, by rw [HM.out]; omega, by rw [HM.out]; omega⟩, HBC.out⟩
      | true =>
        have hok1 := (Nm.residOk_iff _ _).1 HRA.out
        have hok2 := (Nm.residOk_iff _ _).1 hrb
        have HAL : Hid (Nm.AllOk (la ++ lb)) := hok1.2.2.1.append hok2.2.2.1
        have HCL0 : Hid ((tokCells la).length = L * 2) := by show _ = _; rw [tokCells_len, HL.out]
        have HCL1 : Hid ((tokCells lb).length = M * 2) := by show _ = _; rw [tokCells_len, HM.out]
        obtain ⟨q0, hq0e, hq0⟩ := (at_reads HA6.out).tokA (by omega)
        injection hq0e with hq0e
        subst hq0e
        obtain ⟨q1, hq1e, hq1⟩ := (at_reads HB6.out).tokA (by omega)
        injection hq1e with hq1e
        subst hq1e
        have HQ0 := Lib.hid hq0
        have HQ1 := Lib.hid hq1
        have ho0 : OwnA (w6.alloc (.cells #[] 30)) w6.heap.size (some ⟨w6.heap.size, 0, none⟩) 0 0 [] := World.ownsRow_made w6 #[] 0 (Nat.le_refl _) (by simp [maxLen]) (by simp)
        have hba : Below w6.heap.size w6 (w6.alloc (.cells #[] 30)) := (Below.refl _ _).alloc (Nat.le_refl _) _
        clear hrb hok1 hok2 hq0 hq1
        go_wp2_with (at_builtin; first
          | (refine wpList_append_own _ rfl (.tmp 32) (.tmp 33) 24 rfl w6.heap.size 30 i0 (.agg #[.int .i64 0, .int .i64 0]) 2 16 Try.underlying24 hi hz0 hz1 hz2 rfl (by decide) (.slice (some ⟨w6.heap.size, 0, none⟩) 0 0) 0 (tokCells []) rfl ho0 ⟨ga, oa, none⟩ L ca (tokCells la) rfl HCL0.out (HQ0.out.below hba).2 (tokCells_one la) (by unfold maxLen; omega) (by omega) (by simp) ?_
             intro v' w7 hown' hgrow hnil
             obtain ⟨g', cap', rfl⟩ : ∃ g' cap', v' = .slice (some ⟨g', 0, none⟩) L cap' := by
               rcases hown'.2 with ⟨h0, _⟩ | ⟨g', cap', _, h0, _⟩
               · have := (hnil.1 h0).1
                 cases this
               · rw [Nat.zero_add] at h0; exact ⟨g', cap', h0⟩
             have hb7 : Below w6.heap.size w6 w7 := hba.grown hgrow (by simp) (fun k h => by have h' : w6.heap.size = k := (by simpa [Value.ownBlock] using h); omega)
             have ho7 : OwnA w7 w6.heap.size (some ⟨g', 0, none⟩) L cap' la := by
               have h := hown'
               rw [tokCells_nil, List.nil_append, Nat.zero_add] at h
               exact h
             have hz7 := hb7.size
             clear hown' hgrow hnil ho0 hba)
          | (refine wpList_append_own _ rfl (.tmp 34) (.tmp 35) 24 rfl w6.heap.size 30 i0 (.agg #[.int .i64 0, .int .i64 0]) 2 16 Try.underlying24 hi hz0 hz1 hz2 rfl (by decide) (.slice (some ⟨g', 0, none⟩) L cap') L (tokCells la) rfl ho7 ⟨gb, ob, none⟩ M cb (tokCells lb) rfl HCL1.out (HQ1.out.below hb7).2 (tokCells_one lb) (by unfold maxLen; omega) (by omega) (by omega) ?_
             intro v' w8 hown' hgrow hnil
             obtain ⟨g2, cap2, rfl⟩ : ∃ g' cap', v' = .slice (some ⟨g', 0, none⟩) (L + M) cap' := by
               rcases hown'.2 with ⟨h0, _⟩ | ⟨g', cap', _, h0, _⟩
               · have := (hnil.1 h0).1
                 cases this
               · exact ⟨g', cap', h0⟩
             have HB8 : Hid (Below w6.heap.size w6 w8) := hb7.grown hgrow (by omega) (fun k h => (ho7.lt k h).1)
             have HO8 : Hid (OwnA w8 w6.heap.size (some ⟨g2, 0, none⟩) (L + M) cap2 (la ++ lb)) := by
               show OwnA _ _ _ _ _ _
               unfold OwnA
               rw [tokCells_append]
               exact hown'
             clear hown' hgrow hnil ho7 hb7))
        go_wp2_with fail
        refine (l03Resid_any w8 w8.heap.size _ (L + M) cap2 (la ++ lb) s (Nat.le_refl _) (OwnA.reads HO8.out) (by omega) (by omega) HAL.out).mono ?_
        rintro e w9 ⟨A9, c9, rfl, ho9, hb9⟩
        have hne : (la ++ lb).map (Nm.pl s) ≠ [] := by intro e; have h2 := congrArg List.length e; rw [List.length_map, List.length_append, HL.out] at h2; simp at h2; omega
        have hal : Nm.AllOk ((la ++ lb).map (Nm.pl s)) := Nm.allOk_of_mem fun a ha => by
          obtain ⟨b, hb, rfl⟩ := List.mem_map.1 ha
          exact Nm.pl_atOk ((Nm.atOk_iff _).2 (HAL.out.mem hb))
        have hnl : (Nm.resid s (la ++ lb)).length ≤ 6 := Nm.rnorm_len _
        have hnn : 1 ≤ (Nm.resid s (la ++ lb)).length := List.length_pos_iff.2 (Nm.rnorm_ne hne hal)
        have h8 := HB8.out.size
        have HA9 := Lib.hid (at_below' (at_below' HA6.out HB8.out) hb9)
        have HO9 := Lib.hid (at_base (base' := w.heap.size) ho9 (by omega))
        have HBD := Lib.hid (HBC.out.trans ((HB8.out.trans (hb9.mono h8)).mono hs6))
        clear ho9 hb9 hne hal HQ0 HQ1 HB6 HA6 HO8
        generalize Nm.resid s (la ++ lb) = lm at hnl hnn HO9 ⊢
        go_wp2
        go_ret3
        exact ⟨_, ca, la, _, c9, lm, s, by rw [HL.out]; rfl, ⟨by rw [HL.out]; exact HA9.out, by rw [HL.out]; omega, by rw [HL.out]; omega⟩, ⟨HO9.out, hnn, by omega⟩, HBD.out⟩
end Go.Proofs.Ytijiohdddfdjfaa
