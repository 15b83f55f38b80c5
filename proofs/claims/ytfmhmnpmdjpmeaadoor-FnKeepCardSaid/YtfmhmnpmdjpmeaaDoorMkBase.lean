/- The draws of chapter 8: an arena with a node, with roots, with a level. -/
/- The levels of the nodes of an arena: written out whole, and as far as they are not too long. -/
/- What is kept of an arena is an arena, and each kept node has its level and its values. -/
/- The machine's push and pop with a frame: every block but the machine's own two stays. -/
import Derived.Test.YtfmhmnpmdjpmeaaDoorArDraw
import Derived.Test.YtfmhmnpmdjpmeaaDoorNSort
import Derived.Test.YtfmhmnpmdjpmeaaDoorApMath
import Derived.Test.YtfmhmnpmdjpmeaaDoorMeth
import Derived.Test.YtfmhmnpmdjpmeaaDoorActs
import Derived.Maps.AppendAt

namespace Go.Proofs.YtfmhmnpmdjpmeaaDoor
open Go.RowKit

set_option maxRecDepth 100000 in
set_option maxHeartbeats 4000000 in
theorem nodeAt_any (w : World) (bc : Nat) (A : Option Addr) (n c K : Nat) (hc : Cur w bc A n c K) (hK : K ≤ 200000) (hn : n ≤ 1048576) (Al : Option Addr) (m cl : Nat) (hm : m ≤ 300) :
    Calls Tryd.prog 79 #[.pointer (some ⟨bc, 0, none⟩), .slice Al m cl] w fun e w' => ∃ x : Int, e = .returned (.int .i64 x) ∧ Cur w' bc A n c (K + 10) ∧ Kp bc w w' := by
  have hlt := hc.lt
  go_enter Tryd.func79, Tryd.ntmps79
  go_wp2_with fail
  refine (once_any w bc A n c K 6 hc (by omega) (by omega) hn).mono ?_
  rintro e w1 ⟨r, rfl, hc1, hk1⟩
  have HC1 := Lib.hid hc1
  have HK1 := Lib.hid hk1
  have hlt1 := hc1.lt
  have hraw : r = true ∨ m = 0 ∨ (r = false ∧ 0 < m) := by
    cases r with
    | true => exact .inl rfl
    | false =>
      by_cases h : m = 0
      · exact .inr (.inl h)
      · exact .inr (.inr ⟨rfl, by omega⟩)
  clear hc hc1 hk1
  rcases hraw with rfl | rfl | ⟨rfl, hm0⟩
  · go_wp2_with fail
    refine (raw_any w1 bc A n c (K + 1) HC1.out (by omega) hn).mono ?_
    rintro e w2 ⟨x, rfl, hc2, hk2⟩
    obtain ⟨W3, hW3⟩ : ∃ X, w2.alloc (.cells #[.int .i64 (m : Int), .int .i64 x] 3) = X := ⟨_, rfl⟩
    have hb3 : Below w2.heap.size w2 W3 := by rw [← hW3]; exact (Below.refl _ _).alloc (Nat.le_refl _) _
    have hbl : Blk W3 w2.heap.size 3 #[.int .i64 (m : Int), .int .i64 x] := by rw [← hW3]; exact Blk.made _ _ _
    have HC3 : Hid (Cur W3 bc A n c (K + 1 + 2)) := hc2.below hb3
    have HK3 : Hid (Kp bc w W3) := (HK1.out.trans hk2).trans (Kp.of_below hb3)
    have HBL := Lib.hid hbl
    have hlt2 := hc2.lt
    clear hc2 hk2 hb3 hbl HC1 HK1
    go_wp2_with fail
    refine (pick_any W3 bc A n c (K + 1 + 2) 2 HC3.out (by omega) (by omega) hn).mono ?_
    rintro e w4 ⟨r2, rfl, hr2, hc4, hk4⟩
    have hr2' : r2 < 2 := by omega
    have hr2i : (r2 : Int) < 2 := by omega
    obtain ⟨z, hz⟩ := two_at (Kp.blk HBL.out hk4 (by omega)) hr2'
    have HC4 : Hid (Cur w4 bc A n c (K + 10)) := hc4.more (by omega)
    have HK4 := Lib.hid (HK3.out.trans hk4)
    clear hc4 hk4 HC3 HK3 HBL hW3 hr2
    go_wp2
    go_ret
    exact ⟨z, rfl, HC4.out, HK4.out⟩
  · go_wp2_with fail
    all_goals
      refine (raw_any w1 bc A n c (K + 1) HC1.out (by omega) hn).mono ?_
      rintro e w2 ⟨x, rfl, hc2, hk2⟩
      obtain ⟨W3, hW3⟩ : ∃ X, w2.alloc (.cells #[.int .i64 0, .int .i64 x] 3) = X := ⟨_, rfl⟩
      have hb3 : Below w2.heap.size w2 W3 := by rw [← hW3]; exact (Below.refl _ _).alloc (Nat.le_refl _) _
      have hbl : Blk W3 w2.heap.size 3 #[.int .i64 0, .int .i64 x] := by rw [← hW3]; exact Blk.made _ _ _
      have HC3 : Hid (Cur W3 bc A n c (K + 1 + 2)) := hc2.below hb3
      have HK3 : Hid (Kp bc w W3) := (HK1.out.trans hk2).trans (Kp.of_below hb3)
      have HBL := Lib.hid hbl
      have hlt2 := hc2.lt
      clear hc2 hk2 hb3 hbl HC1 HK1
      go_wp2_with fail
      refine (pick_any W3 bc A n c (K + 1 + 2) 2 HC3.out (by omega) (by omega) hn).mono ?_
      rintro e w4 ⟨r2, rfl, hr2, hc4, hk4⟩
      have hr2' : r2 < 2 := by omega
      have hr2i : (r2 : Int) < 2 := by omega
      obtain ⟨z, hz⟩ := two_at (Kp.blk HBL.out hk4 (by omega)) hr2'
      have HC4 : Hid (Cur w4 bc A n c (K + 10)) := hc4.more (by omega)
      have HK4 := Lib.hid (HK3.out.trans hk4)
      clear hc4 hk4 HC3 HK3 HBL hW3 hr2
      go_wp2
      go_ret
      exact ⟨z, rfl, HC4.out, HK4.out⟩
  · have hne : ((m : Int) == 0) = false := by simp; omega
    go_wp2_with fail
    refine (pick_any w1 bc A n c (K + 1) m HC1.out (by omega) (by omega) hn).mono ?_
    rintro e w2 ⟨r2, rfl, hr2, hc2, hk2⟩
    have HC4 : Hid (Cur w2 bc A n c (K + 10)) := hc2.more (by omega)
    have HK4 := Lib.hid (HK1.out.trans hk2)
    clear hc2 hk2 hr2
    go_wp2
    go_ret
    exact ⟨r2, rfl, HC4.out, HK4.out⟩

def DrawArKeep (w : World) (e : Ending) (w' : World) : Prop :=
  ∃ (g cap m : Nat) (l : List Nd) (g2 c2 m2 : Nat) (is : List Int), e = .returned (.tuple #[.slice (some ⟨g, 0, none⟩) m cap, .slice (some ⟨g2, 0, none⟩) m2 c2]) ∧ m ≤ 300 ∧ m2 ≤ 3 ∧ OwnN w' w.heap.size (some ⟨g, 0, none⟩) m cap l ∧ OwnI w' w.heap.size (some ⟨g2, 0, none⟩) m2 c2 is ∧ Below w.heap.size w w'
set_option maxRecDepth 100000 in
set_option maxHeartbeats 4000000 in
theorem drawArKeep_any (w : World) (B : Nat) (A : Option Addr) (n c : Nat) (hB : B ≤ w.heap.size) (hb : BytR w B A n) (hn : n ≤ 1048576) :
    Calls Tryd.prog 41 #[.slice A n c] w (DrawArKeep w) := by
  obtain ⟨i0, hi, hz0, hz1, hz2⟩ := info_parts info_int
  go_enter Tryd.func41, Tryd.ntmps41
  go_wp2_with fail
  refine (open_any w B A n c hB hb hn).mono ?_
  rintro e w1 ⟨rfl, hb1, hc1⟩
  have hs1 := hb1.size
  have hlt := hc1.lt
  go_wp2_with fail
  refine (arena_any w1 w.heap.size A n c 0 hc1 (by omega) hn).mono ?_
  rintro e w2 ⟨g, cap, m, l, rfl, hm, ho2, hc2, hk2⟩
  have hs2 := hk2.size
  have hba : Below w2.heap.size w2 (w2.alloc (.cells #[] 3)) := (Below.refl _ _).alloc (Nat.le_refl _) _
  obtain ⟨W3, hW3⟩ : ∃ X, w2.alloc (.cells #[] 3) = X := ⟨_, rfl⟩
  have HI3 : Hid (OwnI W3 w1.heap.size (some ⟨w2.heap.size, 0, none⟩) 0 0 []) := by
    show OwnI _ _ _ _ _ _
    rw [← hW3]
    exact World.ownsRow_made w2 #[] 0 hs2 (by simp [maxLen]) (by simp)
  rw [hW3] at hba
  have HO3 : Hid (OwnN W3 w1.heap.size (some ⟨g, 0, none⟩) m cap l) := own_below' ho2 hba
  have HC3 : Hid (Cur W3 w.heap.size A n c (0 + 800)) := hc2.below hba
  have HK3 : Hid (Kp w.heap.size w1 W3) := hk2.trans (Kp.of_below hba)
  have HB1 := Lib.hid hb1
  clear hc1 hc2 hk2 ho2 hba hb1
  go_wp2_with fail
  refine (pick_any W3 w.heap.size A n c (0 + 800) 3 HC3.out (by omega) (by omega) hn).mono ?_
  rintro e w4 ⟨j0, rfl, hj0, hc4, hk4⟩
  have HI4 : Hid (OwnI w4 w1.heap.size (some ⟨w2.heap.size, 0, none⟩) 0 0 []) := Kp.own HI3.out hk4 hlt
  have HO4 : Hid (OwnN w4 w1.heap.size (some ⟨g, 0, none⟩) m cap l) := Kp.own HO3.out hk4 hlt
  have HC4 : Hid (Cur w4 w.heap.size A n c (900 + 10 * 0)) := hc4.more (by omega)
  have HK4 := Lib.hid (HK3.out.trans hk4)
  have hj02 : j0 ≤ 2 := by omega
  clear hc4 hk4 HI3 HO3 HC3 HK3 hW3 hj0
  go_wp2
  go_loopw [6, 7] (fun v j wr => ∃ (q g2 c2 m2 : Nat) (is : List Int), q ≤ j0 ∧ j = .int .i64 q ∧ v = .slice (some ⟨g2, 0, none⟩) m2 c2 ∧ m2 + q ≤ 2 ∧ Hid (OwnI wr w1.heap.size (some ⟨g2, 0, none⟩) m2 c2 is) ∧ Hid (OwnN wr w1.heap.size (some ⟨g, 0, none⟩) m cap l) ∧ Hid (Cur wr w.heap.size A n c (900 + 10 * m2)) ∧ Hid (Kp w.heap.size w1 wr)) (fun _ j _ => (intOf j).toNat)
  case atStart => exact ⟨j0, w2.heap.size, 0, 0, [], Nat.le_refl _, rfl, rfl, by omega, HI4.out, HO4.out, HC4.out, HK4.out⟩
  case round =>
    clear HI4 HO4 HC4 HK4
    obtain ⟨q, g2, c2, m2, is, hq, rfl, rfl, hm2, HI, HO, HC, HK⟩ := hrel
    by_cases hq0 : 0 < q
    · have hd : decide ((0 : Int) < q) = true := decide_eq_true (by omega)
      go_wp2_with fail
      refine (nodeAt_any wr w.heap.size A n c (900 + 10 * m2) HC.out (by omega) hn (some ⟨g, 0, none⟩) m cap hm).mono ?_
      rintro e w5 ⟨x, rfl, hc5, hk5⟩
      have HO5 : Hid (OwnN w5 w1.heap.size (some ⟨g, 0, none⟩) m cap l) := Kp.own HO.out hk5 hlt
      have hown : OwnI w5 w1.heap.size (some ⟨g2, 0, none⟩) m2 c2 is := Kp.own HI.out hk5 hlt
      have HC5 := Lib.hid hc5
      have HK5 := Lib.hid (HK.out.trans hk5)
      have hs5 : w1.heap.size ≤ w5.heap.size := HK5.out.size
      clear hc5 hk5 HI HO HC HK
      go_wp2_with (at_builtin; refine wpList_append_own _ rfl (.tmp 19) (.tmp 23) 40 rfl w1.heap.size 3 i0 (.int .i64 0) 1 8 Tryd.underlying40 hi hz0 hz1 hz2 rfl (by decide) (.slice (some ⟨g2, 0, none⟩) m2 c2) m2 (is.map (Value.int .i64)) rfl (World.ownsRow.alloc hown _) ⟨w5.heap.size, 0, none⟩ 1 1 [.int .i64 x] rfl rfl (cell_one_new _ _ _) (fun u hu => by simp at hu; subst hu; rfl) (by unfold maxLen; omega) (by omega) (by simp; omega) ?_; intro v' w6 hown' hgrow _; obtain ⟨g6, c6, rfl⟩ := int_more' hown')
      have HI6 : Hid (OwnI w6 w1.heap.size (some ⟨g6, 0, none⟩) (m2 + 1) c6 (is ++ [x])) := by
        show World.ownsRow _ _ _ _ _ _ _
        simpa using hown'
      have HO6 : Hid (OwnN w6 w1.heap.size (some ⟨g, 0, none⟩) m cap l) := (World.ownsRow.alloc HO5.out _).kept hgrow (rows_apart2 HO5.out hown (by decide))
      have HC6 : Hid (Cur w6 w.heap.size A n c (900 + 10 * (m2 + 1))) := ((HC5.out.alloc _).grown hgrow (fun k h => Nat.lt_of_lt_of_le hlt (hown.lt k h).1)).more (by omega)
      have HK6 : Hid (Kp w.heap.size w1 w6) := (HK5.out.alloc _).more hgrow (fun k h => (hown.lt k h).1)
      have hq1 : ((q : Int) - 1) = ((q - 1 : Nat) : Int) := by omega
      obtain ⟨q1, hq1e⟩ : ∃ q1, q - 1 = q1 := ⟨_, rfl⟩
      rw [hq1e] at hq1
      have hqq : q1 ≤ j0 := by omega
      have hqm : q1 < q := by omega
      have hm3 : m2 + 1 + q1 ≤ 2 := by omega
      clear hown hown' hgrow HO5 HC5 HK5 hq1e
      go_wp2
      go_roundw
      case rel => exact ⟨q1, g6, c6, m2 + 1, is ++ [x], hqq, by rw [← hq1], rfl, hm3, HI6.out, HO6.out, HC6.out, HK6.out⟩
      case measure => simp [intOf]; omega
    · obtain rfl : q = 0 := by omega
      have HOF : Hid (OwnN wr w.heap.size (some ⟨g, 0, none⟩) m cap l) := own_base HO.out hs1
      have HIF : Hid (OwnI wr w.heap.size (some ⟨g2, 0, none⟩) m2 c2 is) := own_base HI.out hs1
      have HBF : Hid (Below w.heap.size w wr) := Kp.below HB1.out HK.out (Nat.le_refl _) hs1
      clear HI HO HC HK
      go_wp2
      go_ret2
      exact ⟨g, cap, m, l, g2, c2, m2, is, rfl, hm, by omega, HOF.out, HIF.out, HBF.out⟩
end Go.Proofs.YtfmhmnpmdjpmeaaDoor

namespace Go.Proofs.YtfmhmnpmdjpmeaaDoor
open Go.RowKit

theorem last_getD {α : Type} (l : List α) (x d : α) (k : Nat) (h : l.length = k) : (l ++ [x]).getD k d = x := by
  rw [List.getD_eq_getElem?_getD, List.getElem?_append_right (by omega), h]
  simp
end Go.Proofs.YtfmhmnpmdjpmeaaDoor

namespace Go.Proofs.YtfmhmnpmdjpmeaaDoor
open Go.RowKit

/-- the value of node k -/
def avN (env : List Int) (l : List Nd) (k : Nat) : Int := (avR env l (k + 1)).getD k 0
theorem avN_eq (env : List Int) (l : List Nd) (k : Nat) : avN env l k = nodeV env (avR env l k) (l.getD k nd0).1 (l.getD k nd0).2.1 (l.getD k nd0).2.2.1 (l.getD k nd0).2.2.2 := by
  unfold avN
  rw [avR]
  exact last_getD _ _ _ _ (avR_len env l k)
theorem avN_get (env : List Int) (l : List Nd) {j k : Nat} (h : j < k) : (avR env l k).getD j 0 = avN env l j := avR_get l j k h
theorem nodeV_cases {env vals : List Int} {o u a b : Int} {k : Nat} (h : ndOk (o, u, a, b) k = true) :
    ((o = 0 ∨ o = 4) ∧ nodeV env vals o u a b = (if o = 4 then env.getD u.toNat 0 else 0)) ∨ (o = 1 ∧ a = -1 ∧ 0 ≤ b ∧ b < k ∧ nodeV env vals o u a b = vals.getD b.toNat 0 + 1) ∨
    ((o = 2 ∨ o = 3) ∧ 0 ≤ a ∧ a < k ∧ 0 ≤ b ∧ b < k ∧ nodeV env vals o u a b = (if o = 2 then max (vals.getD a.toNat 0) (vals.getD b.toNat 0) else if vals.getD b.toNat 0 = 0 then 0 else max (vals.getD a.toNat 0) (vals.getD b.toNat 0))) := by
  rcases ndOk_cases h with ⟨rfl, rfl, rfl, rfl⟩ | ⟨rfl, h0, h1, rfl, rfl⟩ | ⟨rfl, rfl, rfl, h0, h1⟩ | ⟨ho, rfl, h0, h1, h2, h3⟩
  · exact .inl ⟨.inl rfl, rfl⟩
  · exact .inl ⟨.inr rfl, rfl⟩
  · exact .inr (.inl ⟨rfl, rfl, h0, h1, rfl⟩)
  · rcases ho with rfl | rfl
    · exact .inr (.inr ⟨.inl rfl, h0, h1, h2, h3, rfl⟩)
    · exact .inr (.inr ⟨.inr rfl, h0, h1, h2, h3, rfl⟩)
section
variable {l : List Nd} {n : Nat} {f : Nat → Bool}
theorem kp_at (l : List Nd) {n i : Nat} {R : Nat → Bool} (hi : i < n) (ri : R i = true) : (leftN l R n).getD (cntK R i) nd0 = newNd R (l.getD i nd0) ∧ cntK R i < (leftN l R n).length := by
  have hlt : cntK R i < (pickTo R n).length := cntK_lt hi ri
  obtain ⟨j, h1, h2, h3, h4⟩ := pickTo_at hlt
  obtain rfl : j = i := cntK_inj h2 ri h3
  have hlen : cntK R j < (leftN l R n).length := by rw [leftN_len]; exact hlt
  refine ⟨?_, hlen⟩
  have hq : (leftN l R n)[cntK R j]? = some (newNd R (l.getD j nd0)) := by
    unfold leftN
    rw [List.getElem?_map, List.getElem?_eq_getElem hlt]
    have e : (pickTo R n)[cntK R j] = (j : Int) := by
      rw [List.getD_eq_getElem?_getD, List.getElem?_eq_getElem hlt] at h4
      simpa using h4
    rw [e]
    simp
  rw [List.getD_eq_getElem?_getD, hq]
  rfl
/-- a kept node is right at its new place -/
theorem kp_nd (hall : NdAll l n) {i : Nat} (hi : i < n) (ri : needD l n f n i = true) : ndOk (newNd (needD l n f n) (l.getD i nd0)) (cntK (needD l n f n) i) = true := by
  have hok := (hall i hi).1
  obtain ⟨c1, c2⟩ := need_closed hall hi ri
  generalize needD l n f n = R at ri c1 c2
  obtain ⟨t, ht⟩ : ∃ t, l.getD i nd0 = t := ⟨_, rfl⟩
  rw [ht] at hok c1 c2 ⊢
  obtain ⟨o, u, a, b⟩ := t
  simp only at c1 c2
  have hop : ∀ x : Int, 0 ≤ x → x < i → (0 ≤ x → R x.toNat = true) → newOp R x = (cntK R x.toNat : Nat) ∧ cntK R x.toNat < cntK R i := fun x h0 h1 h2 => ⟨by unfold newOp; rw [if_pos h0], cntK_lt (by omega) (h2 h0)⟩
  show ndOk (o, u, newOp R a, newOp R b) (cntK R i) = true
  rcases ndOk_cases hok with ⟨rfl, rfl, rfl, rfl⟩ | ⟨rfl, h0, h1, rfl, rfl⟩ | ⟨rfl, rfl, rfl, h0, h1⟩ | ⟨ho, rfl, h0, h1, h2, h3⟩
  · rfl
  · simp [ndOk, tokB, opdB, tkA, tkB, newOp]; omega
  · obtain ⟨e1, e2⟩ := hop b h0 h1 c2
    rw [e1]
    simp [ndOk, tokB, opdB, tkA, tkB, newOp]; omega
  · obtain ⟨e1, e2⟩ := hop a h0 h1 c1
    obtain ⟨e3, e4⟩ := hop b h2 h3 c2
    rw [e1, e3]
    rcases ho with rfl | rfl
    · simp [ndOk, tokB, opdB, tkA, tkB]; omega
    · simp [ndOk, tokB, opdB, tkA, tkB]; omega
/-- what is kept is an arena -/
theorem kp_arena (hl : l.length = n) (hn : n ≤ 200) (hall : NdAll l n) : NdAll (leftN l (needD l n f n) n) (leftN l (needD l n f n) n).length ∧ arenaOkR (leftN l (needD l n f n) n) = true ∧ (leftN l (needD l n f n) n).length ≤ n := by
  have hA : NdAll (leftN l (needD l n f n) n) (leftN l (needD l n f n) n).length := by
    intro q hq
    rw [leftN_len] at hq
    obtain ⟨i, h1, h2, h3, _⟩ := pickTo_at hq
    obtain ⟨e, _⟩ := kp_at l h1 h2
    rw [h3] at e
    rw [e]
    have := kp_nd hall h1 h2
    rw [h3] at this
    exact ⟨this, leftN_new hl hall h1 h2 h3⟩
  have hle : (leftN l (needD l n f n) n).length ≤ n := by rw [leftN_len]; exact pickTo_len _ _
  exact ⟨hA, arena_yes rfl (by omega) hA, hle⟩
/-- .. in which each kept node has its values -/
theorem kp_av (env : List Int) (hall : NdAll l n) : ∀ i, i < n → needD l n f n i = true → avN env (leftN l (needD l n f n) n) (cntK (needD l n f n) i) = avN env l i := by
  intro i
  induction i using Nat.strongRecOn with
  | ind i ih =>
    intro hi ri
    have hok := (hall i hi).1
    have hnew := kp_nd hall hi ri
    obtain ⟨c1, c2⟩ := need_closed hall hi ri
    obtain ⟨e, _⟩ := kp_at l hi ri
    have h1 := avN_eq env (leftN l (needD l n f n) n) (cntK (needD l n f n) i)
    have h2 := avN_eq env l i
    rw [e] at h1
    generalize hR : needD l n f n = R at *
    obtain ⟨t, ht⟩ : ∃ t, l.getD i nd0 = t := ⟨_, rfl⟩
    rw [ht] at hok hnew h1 h2 c1 c2
    obtain ⟨o, u, a, b⟩ := t
    simp only [newNd] at hnew h1 h2 c1 c2
    have hop : ∀ x : Int, 0 ≤ x → x < i → (0 ≤ x → R x.toNat = true) → (avR env (leftN l R n) (cntK R i)).getD (newOp R x).toNat 0 = avN env l x.toNat := by
      intro x h0 h1 h2
      have hlt := cntK_lt (R := R) (i := x.toNat) (j := i) (by omega) (h2 h0)
      unfold newOp
      rw [if_pos h0, Int.toNat_natCast, avN_get env _ hlt]
      exact ih _ (by omega) (by omega) (h2 h0)
    rw [h1, h2]
    rcases nodeV_cases (env := env) (vals := avR env l i) hok with ⟨ho, e1⟩ | ⟨rfl, rfl, h0, h1', e1⟩ | ⟨ho, ha0, ha1, hb0, hb1, e1⟩
    · rcases nodeV_cases (env := env) (vals := avR env (leftN l R n) (cntK R i)) hnew with ⟨_, e2⟩ | ⟨rfl, _⟩ | ⟨h, _⟩
      · rw [e1, e2]
      · omega
      · omega
    · rcases nodeV_cases (env := env) (vals := avR env (leftN l R n) (cntK R i)) hnew with ⟨h, _⟩ | ⟨_, _, _, _, e2⟩ | ⟨h, _⟩
      · omega
      · rw [e1, e2, hop b h0 h1' c2, avN_get env l (by omega)]
      · omega
    · rcases nodeV_cases (env := env) (vals := avR env (leftN l R n) (cntK R i)) hnew with ⟨h, _⟩ | ⟨rfl, _⟩ | ⟨_, _, _, _, _, e2⟩
      · omega
      · omega
      · rw [e1, e2, hop a ha0 ha1 c1, hop b hb0 hb1 c2, avN_get env l (by omega), avN_get env l (by omega)]
end
end Go.Proofs.YtfmhmnpmdjpmeaaDoor

namespace Go.Proofs.YtfmhmnpmdjpmeaaDoor
open Go.RowKit

/-- block g is that of the stack of the machine in block bm -/
def StkB (w : World) (bm g : Nat) : Prop := ∃ v, w.cell? ⟨bm, 5, none⟩ = some v ∧ v.ownBlock = some g
/-- all blocks but the machine's own stay, and its stack goes into none of them -/
def KeepA (bm : Nat) (w w' : World) : Prop := w.heap.size ≤ w'.heap.size ∧ ∀ g, g < w.heap.size → g ≠ bm → ¬ StkB w bm g → w'.heap[g]? = w.heap[g]? ∧ ¬ StkB w' bm g
theorem KeepA.refl (bm : Nat) (w : World) : KeepA bm w w := ⟨Nat.le_refl _, fun _ _ _ h => ⟨rfl, h⟩⟩
theorem KeepA.trans {bm : Nat} {w w' w'' : World} (h : KeepA bm w w') (h' : KeepA bm w' w'') : KeepA bm w w'' := ⟨Nat.le_trans h.1 h'.1, fun g h1 h2 h3 => by
  obtain ⟨e1, n1⟩ := h.2 g h1 h2 h3
  obtain ⟨e2, n2⟩ := h'.2 g (Nat.lt_of_lt_of_le h1 h.1) h2 n1
  exact ⟨e2.trans e1, n2⟩⟩
theorem KeepA.below {bm : Nat} {w w' : World} (hm : bm < w.heap.size) (hb : Below w.heap.size w w') : KeepA bm w w' := ⟨hb.size, fun g hg _ hn => ⟨hb.block g hg, fun ⟨v, h1, h2⟩ => hn ⟨v, (hb.cell (p := ⟨bm, 5, none⟩) hm).symm.trans h1, h2⟩⟩⟩
theorem keepA_set {w W w1 : World} {bm : Nat} {v v' : Value} (hb : Below w.heap.size w W) (hc : w.cell? ⟨bm, 5, none⟩ = some v) (hg : W.grownBy w1 v.ownBlock) (hat : v'.ownBlock = v.ownBlock ∨ v'.ownBlock = some W.heap.size)
    (hset : (w1.setCell ⟨bm, 5, none⟩ v').cell? ⟨bm, 5, none⟩ = some v') : KeepA bm w (w1.setCell ⟨bm, 5, none⟩ v') := by
  refine ⟨Nat.le_trans hb.size (Nat.le_trans hg.size ((Below.refl 0 w1).setCell (p := ⟨bm, 5, none⟩) (Nat.zero_le _) v').size), fun g h1 h2 h3 => ⟨?_, ?_⟩⟩
  · rw [Below.heap_setCell w1 ⟨bm, 5, none⟩ v' g (fun e => h2 e), hg.block g (Nat.lt_of_lt_of_le h1 hb.size) (fun e => h3 ⟨v, hc, e.symm⟩), hb.block g h1]
  · rintro ⟨u, hu, ho⟩
    rw [hset] at hu
    injection hu with hu
    subst hu
    rcases hat with h | h
    · exact h3 ⟨v, hc, h.symm.trans ho⟩
    · rw [h] at ho
      injection ho with ho
      have := hb.size
      omega

set_option maxHeartbeats 400000 in
theorem pushK_any (w : World) (B bm : Nat) (env st : List Int) (v : Int) (hm : Mach w B bm env st) (hs : st.length ≤ 1000) :
    Calls Tryd.prog 69 #[.pointer (some ⟨bm, 0, none⟩), .int .i64 v] w fun e w' => e = .returned (.tuple #[]) ∧ Mach w' B bm env (v :: st) ∧ Below B w w' ∧ KeepA bm w w' := by
  obtain ⟨hB, he, A, c, hblk, hown⟩ := hm
  have hlt := hblk.lt
  have hc5 : w.cell? ⟨bm, 5, none⟩ = some (.slice A st.length c) := (hblk.cell 5).trans (mach_stack env _ he)
  obtain ⟨i0, hi, hz0, hz1, hz2⟩ := info_parts info_int
  have HE := Lib.hid he
  clear he
  go_enter Tryd.func69, Tryd.ntmps69
  go_wp2_with (at_builtin; refine wpList_append_own_at _ rfl (.tmp 8) (.tmp 10) 40 rfl B 3 i0 (.int .i64 0) 1 8 Tryd.underlying40 hi hz0 hz1 hz2 rfl (by decide) (.slice A st.length c) st.length (st.reverse.map (Value.int .i64)) rfl (hown.alloc _) ⟨w.heap.size, 0, none⟩ 1 1 [.int .i64 v] rfl rfl ?c1 ?c2 ?c3 ?c4 ?c5 ?c6)
  case c1 => exact cell_one_new _ _ _
  case c2 => intro u hu; simp at hu; subst hu; rfl
  case c3 => unfold maxLen; omega
  case c4 => omega
  case c5 => simp; omega
  case c6 =>
    intro v' w1 hown' hgrow _ hat
    obtain ⟨g, cap', rfl⟩ : ∃ g cap', v' = .slice (some ⟨g, 0, none⟩) (st.length + 1) cap' := by
      rcases hown'.2 with ⟨_, h⟩ | ⟨g, cap', _, h, _⟩
      · omega
      · exact ⟨g, cap', h⟩
    have hap := own_apart hown hblk (by decide)
    have hblk1 : Blk w1 bm 96 (machCells env (.slice A st.length c)) := (hblk.alloc _).grown hgrow (fun h => hap h.symm)
    have hk : w1.cell? ⟨bm, 5, none⟩ = some (.slice A st.length c) := (hblk1.cell 5).trans (mach_stack env _ HE.out)
    have hf := hblk1.thawed 5
    have hbel : Below B w w1 := (((Below.refl _ _).alloc (by omega) _)).grown hgrow (by simp; omega) (fun k h => (hown.lt k h).1)
    have hown2 := own_store (p := ⟨bm, 5, none⟩) hown' (own_apart hown' hblk1 (by decide)) (.slice (some ⟨g, 0, none⟩) (st.length + 1) cap')
    have hblk2 := hblk1.put 5 (.slice (some ⟨g, 0, none⟩) (st.length + 1) cap')
    have hbel2 := hbel.setCell (p := ⟨bm, 5, none⟩) hB (.slice (some ⟨g, 0, none⟩) (st.length + 1) cap')
    have hset : (w1.setCell ⟨bm, 5, none⟩ (.slice (some ⟨g, 0, none⟩) (st.length + 1) cap')).cell? ⟨bm, 5, none⟩ = some (.slice (some ⟨g, 0, none⟩) (st.length + 1) cap') := by
      have h := hblk2.cell 5
      rw [mach_put env _ _ HE.out] at h
      exact h.trans (mach_stack env _ HE.out)
    have hkp2 : KeepA bm w (w1.setCell ⟨bm, 5, none⟩ (.slice (some ⟨g, 0, none⟩) (st.length + 1) cap')) := keepA_set ((Below.refl _ _).alloc (Nat.le_refl _) _) hc5 hgrow (by simpa using hat) hset
    have H2 := Lib.hid hown2
    have H3 := Lib.hid hblk2
    have H4 := Lib.hid hkp2
    clear hkp2 hset hat
    clear hown2 hblk2 hgrow hown' hown hap
    go_wp2
    go_end0
    refine ⟨rfl, ⟨hB, HE.out, some ⟨g, 0, none⟩, cap', ?_, ?_⟩, hbel2, H4.out⟩
    · have h3 := H3.out
      rw [mach_put env _ _ HE.out] at h3
      exact h3
    · have h2 := H2.out
      simpa using h2
set_option maxHeartbeats 400000 in
theorem popK_some (w : World) (B bm : Nat) (env st : List Int) (v : Int) (hm : Mach w B bm env (v :: st)) (hs : st.length ≤ 1000) :
    Calls Tryd.prog 72 #[.pointer (some ⟨bm, 0, none⟩)] w fun e w' => e = .returned (.int .i64 v) ∧ Mach w' B bm env st ∧ Below B w w' ∧ KeepA bm w w' := by
  obtain ⟨hB, he, A, c, hblk, hown⟩ := hm
  have hlt := hblk.lt
  obtain ⟨g, rfl⟩ : ∃ g, A = some ⟨g, 0, none⟩ := by
    rcases hown.2 with ⟨_, h⟩ | ⟨g, cap', _, h, _⟩
    · simp at h
    · injection h with h1; exact ⟨g, h1⟩
  have hcap : st.length + 1 ≤ c := by
    rcases hown.2 with ⟨_, h⟩ | ⟨g, cap', _, h, _, _, h1, _⟩
    · simp at h
    · injection h with _ _ h3; simpa [h3] using h1
  have hc5 : w.cell? ⟨bm, 5, none⟩ = some (.slice (some ⟨g, 0, none⟩) (st.length + 1) c) := (hblk.cell 5).trans (mach_stack env _ he)
  have hcv : w.cell? ⟨g, st.length, none⟩ = some (.int .i64 v) := by
    have h := hown.cells (g := g) rfl st.length (.int .i64 v) (by simp)
    have hadd : (⟨g, 0, none⟩ : Addr).add st.length = ⟨g, st.length, none⟩ := by unfold Addr.add; split <;> simp_all
    rw [hadd] at h
    exact h
  have hf := hblk.thawed 5
  have hown1 := own_pop (n := st.length) (xs := st.reverse.map (Value.int .i64)) (x := .int .i64 v) (by simpa using hown)
  have H2 := Lib.hid (own_store (p := ⟨bm, 5, none⟩) hown1 (own_apart hown1 hblk (by decide)) (.slice (some ⟨g, 0, none⟩) st.length c))
  have H3 := Lib.hid (hblk.put 5 (.slice (some ⟨g, 0, none⟩) st.length c))
  have hset : (w.setCell ⟨bm, 5, none⟩ (.slice (some ⟨g, 0, none⟩) st.length c)).cell? ⟨bm, 5, none⟩ = some (.slice (some ⟨g, 0, none⟩) st.length c) := by
    have h := (hblk.put 5 (.slice (some ⟨g, 0, none⟩) st.length c)).cell 5
    rw [mach_put env _ _ he] at h
    exact h.trans (mach_stack env _ he)
  have H4 : Hid (KeepA bm w (w.setCell ⟨bm, 5, none⟩ (.slice (some ⟨g, 0, none⟩) st.length c))) := keepA_set (Below.refl _ _) hc5 (World.grownBy.refl w _) (.inl rfl) hset
  clear hset
  have HE := Lib.hid he
  clear he hown hown1
  go_enter Tryd.func72, Tryd.ntmps72
  go_wp2
  go_ret
  refine ⟨rfl, ⟨hB, HE.out, some ⟨g, 0, none⟩, c, ?_, ?_⟩, (Below.refl _ _).setCell (p := ⟨bm, 5, none⟩) hB _, H4.out⟩
  · have h3 := H3.out
    rw [mach_put env _ _ HE.out] at h3
    exact h3
  · exact H2.out

end Go.Proofs.YtfmhmnpmdjpmeaaDoor
