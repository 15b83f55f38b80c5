/- LeUnder and EqUnder of the program. -/
/- Words for an append to a row of constraints of the call's own. -/
/- The law FnSplit: the walk. -/
import Derived.Test.YtmbcjddahncocaaDoorUnCu
import Derived.Test.YtmbcjddahncocaaDoorUnSem
import Derived.Test.YtmbcjddahncocaaDoorGoodCons
import Derived.Test.YtmbcjddahncocaaDoorRsMath

namespace Go.Proofs.YtmbcjddahncocaaDoor
open Go.RowKit
open Cs (Cn Tb)

/-- compareUnder gives back nil just where the first level is at most the second one -/
theorem cmpV_le (l : List Cn) (a b : List (Int × Int)) (Tc : TypeId) (pc : Value) (T : TypeId) (pv : Value) :
    (cmpV l a b Tc pc T pv = .nilIface ∧ leUnR l a b = true) ∨ ((∃ t v, cmpV l a b Tc pc T pv = .iface t v) ∧ leUnR l a b = false) := by
  cases h : consOkR l with
  | false => exact .inr ⟨⟨_, _, cmpV_c h⟩, leUnR_c h⟩
  | true =>
    cases h1 : Lv.levelOk a with
    | false => exact .inr ⟨⟨_, _, cmpV_a h (fun q => by rw [h1] at q; cases q.1)⟩, leUnR_a h1⟩
    | true =>
      cases h2 : Lv.levelOk b with
      | false => exact .inr ⟨⟨_, _, cmpV_a h (fun q => by rw [h2] at q; cases q.2)⟩, leUnR_b h2⟩
      | true =>
        rw [cmpV_y h ⟨h1, h2⟩, leUnR_y h h1 h2]
        cases Un.exR l a b with
        | none => exact .inl ⟨rfl, rfl⟩
        | some r => exact .inr ⟨⟨_, _, rfl⟩, rfl⟩

set_option maxRecDepth 100000 in
set_option maxHeartbeats 1600000 in
theorem implLeUnder_any (w : World) (B : Nat) (A : Option Addr) (n c : Nat) (l : List Cn) (A1 : Option Addr) (n1 c1 : Nat) (a : List (Int × Int)) (A2 : Option Addr) (n2 c2 : Nat) (m : List (Int × Int)) (T : TypeId) (pv : Value) (Tc : TypeId) (pc : Value) (h0 : 0 < B) (h0c : 1 < B) (hB : B ≤ w.heap.size)
    (hA : SlOk A n c) (hl : ConR w B A n l) (hn : (n : Int) ≤ 140737488355328) (ha : TokR w B A1 n1 a) (hn1 : (n1 : Int) ≤ 140737488355328) (hm : TokR w B A2 n2 m) (hn2 : (n2 : Int) ≤ 140737488355328) (hE : ErrAt w T pv) (hEc : ErrCAt w Tc pc) :
    Calls Tryd.prog 21 #[.slice A n c, .slice A1 n1 c1, .slice A2 n2 c2] w fun e w' => e = .returned (.bool (leUnR l a m)) ∧ Below w.heap.size w w' := by
  have HE := Lib.hid hE
  have HEc := Lib.hid hEc
  have HL := Lib.hid hl
  have HA := Lib.hid ha
  have HM := Lib.hid hm
  clear hE hEc hl ha hm
  go_enter Tryd.func21, Tryd.ntmps21
  go_wp2_with fail
  refine (compareUnder_any w B A n c l A1 n1 c1 a A2 n2 c2 m T pv Tc pc h0 h0c hB hA HL.out hn HA.out hn1 HM.out hn2 HE.out HEc.out).mono ?_
  rintro e w1 ⟨rfl, hb1⟩
  have HB1 := Lib.hid hb1
  clear hb1
  rcases cmpV_le l a m Tc pc T pv with ⟨hv, hr⟩ | ⟨⟨t, v, hv⟩, hr⟩
  · have HR := Lib.hid hr
    rw [hv]
    clear hv hr
    go_wp2
    go_ret
    exact ⟨by rw [HR.out]; rfl, HB1.out⟩
  · have HR := Lib.hid hr
    rw [hv]
    clear hv hr
    go_wp2
    go_ret
    exact ⟨by rw [HR.out]; rfl, HB1.out⟩
end Go.Proofs.YtmbcjddahncocaaDoor

namespace Go.Proofs.YtmbcjddahncocaaDoor
open Go.RowKit
open Cs (Cn)

theorem con_take {w : World} {base n : Nat} {a : Addr} {v : Value} {l : List Cn} (h : w.ownsRow base 39 3 v (0 + n) (conCells [] ++ conCells l)) (hnil : v = .slice none 0 0 ↔ (Value.slice (some a) 0 0 : Value) = .slice none 0 0 ∧ n = 0) : ∃ g c, v = .slice (some ⟨g, 0, none⟩) n c := by
  rcases h.2 with ⟨h0, _⟩ | ⟨g', cap', _, h0, _⟩
  · have := (hnil.1 h0).1
    cases this
  · rw [Nat.zero_add] at h0
    exact ⟨g', cap', h0⟩
theorem con_zero {w : World} {base n g c : Nat} {l : List Cn} (h : w.ownsRow base 39 3 (.slice (some ⟨g, 0, none⟩) n c) (0 + n) (conCells [] ++ conCells l)) : OwnC w base (some ⟨g, 0, none⟩) n c l := by
  rw [conCells_nil, List.nil_append, Nat.zero_add] at h
  exact h
theorem con_more {w : World} {base n : Nat} {v : Value} {xs : List Value} (h : w.ownsRow base 39 3 v (n + 1) xs) : ∃ g c, v = .slice (some ⟨g, 0, none⟩) (n + 1) c := by
  rcases h.2 with ⟨_, h0⟩ | ⟨g', cap', _, h0, _⟩
  · omega
  · exact ⟨g', cap', h0⟩
theorem con_snoc {w : World} {base n g c : Nat} {l : List Cn} {t : Cn} (h : w.ownsRow base 39 3 (.slice (some ⟨g, 0, none⟩) (n + 1) c) (n + 1) (conCells l ++ conCells [t])) : OwnC w base (some ⟨g, 0, none⟩) (n + 1) c (l ++ [t]) := by
  show w.ownsRow _ _ _ _ _ _
  rw [conCells_append]
  exact h
end Go.Proofs.YtmbcjddahncocaaDoor

namespace Go.Proofs.YtmbcjddahncocaaDoor
open Go.RowKit
open Cs (Cn)

set_option maxRecDepth 100000 in
set_option maxHeartbeats 16000000 in
theorem fnSplit_any (w : World) (B : Nat) (A : Option Addr) (n c : Nat) (T : TypeId) (pv : Value) (Tc : TypeId) (pc : Value) (h0 : 0 < B) (h0c : 1 < B) (hB : B ≤ w.heap.size)
    (hb : BytR w B A n) (_hnc : n ≤ c) (hE : ErrAt w T pv) (hEc : ErrCAt w Tc pc) :
    Calls Tryd.prog 7 #[.slice A n c] w fun e w' => e = .returned (.bool true) ∧ Below w.heap.size w w' := by
  obtain ⟨i0, hi, hz0, hz1, hz2⟩ := info_parts info_con
  by_cases hbig : 1048576 < (n : Int)
  · go_enter Tryd.func7, Tryd.ntmps7
    go_wp2_with fail
    refine (big_any w A n c).mono ?_
    rintro e w' ⟨rfl, rfl⟩
    rw [decide_eq_true (by omega)]
    go_wp2
    go_ret
    exact ⟨rfl, Below.refl _ _⟩
  · have hn : n ≤ 1048576 := by omega
    go_enter Tryd.func7, Tryd.ntmps7
    go_wp2_with fail
    refine (big_any w A n c).mono ?_
    rintro e w' ⟨rfl, rfl⟩
    rw [decide_eq_false (by omega)]
    have HB0 : Hid (Below w.heap.size w w) := Below.refl _ _
    go_wp2_with fail
    refine (drawLeUnder_any w B A n c hB hb hn).mono ?_
    rintro e w1 ⟨⟨g, cap, m, l, Aa, na, ca, la, Ab, nb, cb, lb, rfl, hm, hna, hnb, hol, hoa, hob⟩, hb1⟩
    have HB1 := Lib.hid hb1
    have Rl1 := Lib.hid hol
    have Ra1 := Lib.hid hoa
    have Rb1 := Lib.hid hob
    have hs1 := hb1.size
    have HLL : Hid (l.length = m) := (OwnC.reads hol).1
    clear hol hoa hob hb1
    obtain ⟨R, hR⟩ : ∃ R, leUnR l la lb = R := ⟨_, rfl⟩
    have HR := Lib.hid hR
    clear hR
    go_wp2_with fail
    refine (implLeUnder_any w1 w1.heap.size (some ⟨g, 0, none⟩) m cap l Aa na ca la Ab nb cb lb T pv Tc pc (Nat.lt_of_lt_of_le h0 (Nat.le_trans hB HB1.out.size)) (Nat.lt_of_lt_of_le h0c (Nat.le_trans hB HB1.out.size)) (Nat.le_refl _) (.inl ⟨_, _, rfl⟩) (OwnC.reads Rl1.out) (by omega) (OwnT.reads Ra1.out) (by omega) (OwnT.reads Rb1.out) (by omega) (hE.below (HB1.out.mono hB) h0) (hEc.below (HB1.out.mono hB) h0c)).mono ?_
    rintro e w2 ⟨rfl, hb⟩
    have HB2 := Lib.hid (HB1.out.trans (hb.mono HB1.out.size))
    have Rl2 := Lib.hid (own_below' Rl1.out hb)
    have Ra2 := Lib.hid (own_below' Ra1.out hb)
    have Rb2 := Lib.hid (own_below' Rb1.out hb)
    clear hb Rl1 Ra1 Rb1 HB1
    rw [HR.out]
    go_wp2_with fail
    refine (specLeUnder_any w2 w2.heap.size g 0 m cap l Aa na ca la Ab nb cb lb (Nat.le_refl _) (OwnC.reads Rl2.out) (by omega) (OwnT.reads Ra2.out) (by omega) (OwnT.reads Rb2.out) (by omega)).mono ?_
    rintro e w3 ⟨rfl, hb⟩
    have HB3 := Lib.hid (HB2.out.trans (hb.mono HB2.out.size))
    have Rl3 := Lib.hid (own_below' Rl2.out hb)
    have Ra3 := Lib.hid (own_below' Ra2.out hb)
    have Rb3 := Lib.hid (own_below' Rb2.out hb)
    clear hb Rl2 Ra2 Rb2 HB2
    rw [HR.out]
    have hbb : (R != R) = false := by simp
    have hbe : (R == R) = true := by simp
    cases hc : consOkR l with
    | false =>
      have HC := Lib.hid hc
      clear hc
      go_wp2_with fail
      refine (specConsOk_any w3 w3.heap.size (some ⟨g, 0, none⟩) m cap l (Nat.le_refl _) (OwnC.reads Rl3.out) (by omega)).mono ?_
      rintro e w4 ⟨rfl, hb⟩
      have HB4 := Lib.hid (HB3.out.trans (hb.mono HB3.out.size))
      have Rl4 := Lib.hid (own_below' Rl3.out hb)
      have Ra4 := Lib.hid (own_below' Ra3.out hb)
      have Rb4 := Lib.hid (own_below' Rb3.out hb)
      clear hb Rl3 Ra3 Rb3 HB3
      rw [HC.out]
      go_wp2_with fail
      refine (specLeUnder_any w4 w4.heap.size g 0 m cap l Aa na ca la Ab nb cb lb (Nat.le_refl _) (OwnC.reads Rl4.out) (by omega) (OwnT.reads Ra4.out) (by omega) (OwnT.reads Rb4.out) (by omega)).mono ?_
      rintro e w5 ⟨rfl, hb⟩
      have HB5 := Lib.hid (HB4.out.trans (hb.mono HB4.out.size))
      have Rl5 := Lib.hid (own_below' Rl4.out hb)
      have Ra5 := Lib.hid (own_below' Ra4.out hb)
      have Rb5 := Lib.hid (own_below' Rb4.out hb)
      clear hb Rl4 Ra4 Rb4 HB4
      rw [HR.out]
      go_wp2
      go_ret
      exact ⟨rfl, HB5.out⟩
    | true =>
      have HC := Lib.hid hc
      have hm24 : m ≤ 24 := by have h := (consOkR_ok hc).2; rw [HLL.out] at h; exact h
      clear hc
      go_wp2_with fail
      refine (specConsOk_any w3 w3.heap.size (some ⟨g, 0, none⟩) m cap l (Nat.le_refl _) (OwnC.reads Rl3.out) (by omega)).mono ?_
      rintro e w4 ⟨rfl, hb⟩
      have HB4 := Lib.hid (HB3.out.trans (hb.mono HB3.out.size))
      have Rl4 := Lib.hid (own_below' Rl3.out hb)
      have Ra4 := Lib.hid (own_below' Ra3.out hb)
      have Rb4 := Lib.hid (own_below' Rb3.out hb)
      clear hb Rl3 Ra3 Rb3 HB3
      rw [HC.out]
      by_cases h24 : m = 24
      · have d24 : ((m : Int) == 24) = true := by simp; omega
        clear h24
        go_wp2_with fail
        refine (specLeUnder_any w4 w4.heap.size g 0 m cap l Aa na ca la Ab nb cb lb (Nat.le_refl _) (OwnC.reads Rl4.out) (by omega) (OwnT.reads Ra4.out) (by omega) (OwnT.reads Rb4.out) (by omega)).mono ?_
        rintro e w5 ⟨rfl, hb⟩
        have HB5 := Lib.hid (HB4.out.trans (hb.mono HB4.out.size))
        have Rl5 := Lib.hid (own_below' Rl4.out hb)
        have Ra5 := Lib.hid (own_below' Ra4.out hb)
        have Rb5 := Lib.hid (own_below' Rb4.out hb)
        clear hb Rl4 Ra4 Rb4 HB4
        rw [HR.out]
        go_wp2
        go_ret
        exact ⟨rfl, HB5.out⟩
      · have d24 : ((m : Int) == 24) = false := by simp; omega
        have hm23 : m < 24 := by omega
        clear h24
        go_wp2_with fail
        refine (lawPick_any w4 B A n c 3 5 (hb.below (HB4.out.mono hB)) hn (by omega) (by omega)).mono ?_
        rintro e w' ⟨p, rfl, hp, hw⟩
        obtain rfl : w4 = w' := hw
        have hp5 : p < 5 := by omega
        clear hp
        have HSP := Lib.hid ((leUn_split HC.out (by rw [HLL.out]; omega) hp5 la lb).symm.trans HR.out)
        obtain ⟨lz, hlz⟩ : ∃ lz, l ++ [((p : Int), 2, (-1 : Int))] = lz := ⟨_, rfl⟩
        obtain ⟨lq, hlq⟩ : ∃ lq, l ++ [((-1 : Int), 1, (p : Int))] = lq := ⟨_, rfl⟩
        rw [hlz, hlq] at HSP
        have HLZ := Lib.hid hlz
        have HLQ := Lib.hid hlq
        clear hlz hlq
        have hcl : (conCells l).length = m * 3 := by rw [conCells_len, HLL.out]
        have hrl := OwnC.reads Rl4.out
        have hbX0 : Below w4.heap.size w4 w4 := Below.refl _ _
        have hoA0 : ∀ X : World, OwnC (X.alloc (.cells #[] 39)) X.heap.size (some ⟨X.heap.size, 0, none⟩) 0 0 [] := fun X => World.ownsRow_made X #[] 0 (Nat.le_refl _) (by simp [maxLen]) (by simp)
        go_wp2_with (at_builtin; first
          | (refine wpList_append_own _ rfl (.tmp 46) (.tmp 47) 37 rfl w4.heap.size 39 i0 (.agg #[.int .i64 0, .int .i64 0, .int .i64 0]) 3 24 Tryd.underlying37 hi hz0 hz1 hz2 rfl (by decide) (.slice (some ⟨w4.heap.size, 0, none⟩) 0 0) 0 (conCells []) rfl (hoA0 w4) ⟨g, 0, none⟩ m cap (conCells l) rfl hcl (con_news (hrl.below (hbX0.alloc hbX0.size _))) (conCells_one l) (by unfold maxLen; omega) (by omega) (by simp) ?_; intro v' y0 hown' hgrow hnil; obtain ⟨p0, r0, rfl⟩ := con_take hown' hnil; have hbY0 : Below w4.heap.size w4 y0 := ((Below.refl _ _).alloc (Nat.le_refl _) _).grown hgrow (by simp) (fun k h => by have h' : w4.heap.size = k := (by simpa [Value.ownBlock] using h); omega); have hoY0 : OwnC y0 w4.heap.size (some ⟨p0, 0, none⟩) m r0 l := con_zero hown'; clear hown' hgrow hnil)
          | (refine wpList_append_own _ rfl (.tmp 48) (.tmp 51) 37 rfl w4.heap.size 39 i0 (.agg #[.int .i64 0, .int .i64 0, .int .i64 0]) 3 24 Tryd.underlying37 hi hz0 hz1 hz2 rfl (by decide) (.slice (some ⟨p0, 0, none⟩) m r0) m (conCells l) rfl (hoY0.alloc _) ⟨y0.heap.size, 0, none⟩ 1 1 (conCells [((p : Int), 2, (-1))]) rfl rfl (con_new y0 (p : Int) 2 (-1)) (conCells_one _) (by unfold maxLen; omega) (by omega) (by have := hbY0.size; simp; omega) ?_; intro v' x0 hown' hgrow hnil; obtain ⟨q0, s0, rfl⟩ := con_more hown'; have hbZ0 : Below w4.heap.size w4 x0 := (hbY0.alloc hbY0.size _).grown hgrow (by have := hbY0.size; simp; omega) (fun x h => (hoY0.lt x h).1); have hoZ0 : OwnC x0 w4.heap.size (some ⟨q0, 0, none⟩) (m + 1) s0 (l ++ [((p : Int), 2, (-1))]) := con_snoc hown'; have hbX1 : Below w4.heap.size w4 x0 := hbX0.trans (hbZ0.mono hbX0.size); clear hown' hgrow hnil)
          | (refine wpList_append_own _ rfl (.tmp 53) (.tmp 54) 37 rfl x0.heap.size 39 i0 (.agg #[.int .i64 0, .int .i64 0, .int .i64 0]) 3 24 Tryd.underlying37 hi hz0 hz1 hz2 rfl (by decide) (.slice (some ⟨x0.heap.size, 0, none⟩) 0 0) 0 (conCells []) rfl (hoA0 x0) ⟨g, 0, none⟩ m cap (conCells l) rfl hcl (con_news (hrl.below (hbX1.alloc hbX1.size _))) (conCells_one l) (by unfold maxLen; omega) (by omega) (by simp) ?_; intro v' y1 hown' hgrow hnil; obtain ⟨p1, r1, rfl⟩ := con_take hown' hnil; have hbY1 : Below x0.heap.size x0 y1 := ((Below.refl _ _).alloc (Nat.le_refl _) _).grown hgrow (by simp) (fun k h => by have h' : x0.heap.size = k := (by simpa [Value.ownBlock] using h); omega); have hoY1 : OwnC y1 x0.heap.size (some ⟨p1, 0, none⟩) m r1 l := con_zero hown'; clear hown' hgrow hnil)
          | (refine wpList_append_own _ rfl (.tmp 55) (.tmp 58) 37 rfl x0.heap.size 39 i0 (.agg #[.int .i64 0, .int .i64 0, .int .i64 0]) 3 24 Tryd.underlying37 hi hz0 hz1 hz2 rfl (by decide) (.slice (some ⟨p1, 0, none⟩) m r1) m (conCells l) rfl (hoY1.alloc _) ⟨y1.heap.size, 0, none⟩ 1 1 (conCells [((-1), 1, (p : Int))]) rfl rfl (con_new y1 (-1) 1 (p : Int)) (conCells_one _) (by unfold maxLen; omega) (by omega) (by have := hbY1.size; simp; omega) ?_; intro v' w5 hown' hgrow hnil; obtain ⟨q1, s1, rfl⟩ := con_more hown'; have hbZ1 : Below x0.heap.size x0 w5 := (hbY1.alloc hbY1.size _).grown hgrow (by have := hbY1.size; simp; omega) (fun x h => (hoY1.lt x h).1); have hoZ1 : OwnC w5 x0.heap.size (some ⟨q1, 0, none⟩) (m + 1) s1 (l ++ [((-1), 1, (p : Int))]) := con_snoc hown'; have hbX2 : Below w4.heap.size w4 w5 := hbX1.trans (hbZ1.mono hbX1.size); clear hown' hgrow hnil))
        have HB5 := Lib.hid (HB4.out.trans (hbX2.mono HB4.out.size))
        have Rl5 := Lib.hid (own_below' Rl4.out hbX2)
        have Ra5 := Lib.hid (own_below' Ra4.out hbX2)
        have Rb5 := Lib.hid (own_below' Rb4.out hbX2)
        have hbL0 : Below x0.heap.size x0 w5 := hbZ1
        have Rz5 : Hid (OwnC w5 w.heap.size (some ⟨q0, 0, none⟩) (m + 1) s0 lz) := by
          show OwnC _ _ _ _ _ _
          rw [← HLZ.out]
          exact own_base (own_below' hoZ0 hbL0) (Nat.le_trans HB4.out.size hbX0.size)
        have hbL1 : Below w5.heap.size w5 w5 := Below.refl _ _
        have Rq5 : Hid (OwnC w5 w.heap.size (some ⟨q1, 0, none⟩) (m + 1) s1 lq) := by
          show OwnC _ _ _ _ _ _
          rw [← HLQ.out]
          exact own_base (own_below' hoZ1 hbL1) (Nat.le_trans HB4.out.size hbX1.size)
        clear hcl hrl hoA0 HB4 Rl4 Ra4 Rb4 hbY0 hoY0 hbZ0 hoZ0 hbL0 hbX0 hbY1 hoY1 hbZ1 hoZ1 hbL1 hbX1 hbX2
        have hbt : (R == (true && R)) = true := by simp
        cases hzz : leUnR lz la lb with
        | false =>
          have HZ := Lib.hid hzz
          have hR0 : R = false := by have h := HSP.out; rw [hzz, Bool.false_and] at h; exact h.symm
          subst hR0
          clear hzz
          go_wp2_with fail
          refine (implLeUnder_any w5 w5.heap.size (some ⟨q0, 0, none⟩) (m + 1) s0 lz Aa na ca la Ab nb cb lb T pv Tc pc (Nat.lt_of_lt_of_le h0 (Nat.le_trans hB HB5.out.size)) (Nat.lt_of_lt_of_le h0c (Nat.le_trans hB HB5.out.size)) (Nat.le_refl _) (.inl ⟨_, _, rfl⟩) (OwnC.reads Rz5.out) (by omega) (OwnT.reads Ra5.out) (by omega) (OwnT.reads Rb5.out) (by omega) (hE.below (HB5.out.mono hB) h0) (hEc.below (HB5.out.mono hB) h0c)).mono ?_
          rintro e w6 ⟨rfl, hb⟩
          have HB6 := Lib.hid (HB5.out.trans (hb.mono HB5.out.size))
          have Rl6 := Lib.hid (own_below' Rl5.out hb)
          have Ra6 := Lib.hid (own_below' Ra5.out hb)
          have Rb6 := Lib.hid (own_below' Rb5.out hb)
          have Rz6 := Lib.hid (own_below' Rz5.out hb)
          have Rq6 := Lib.hid (own_below' Rq5.out hb)
          clear hb Rl5 Ra5 Rb5 Rz5 Rq5 HB5
          rw [HZ.out]
          go_wp2
          go_ret
          exact ⟨rfl, HB6.out⟩
        | true =>
          have HZ := Lib.hid hzz
          have HQ : Hid (leUnR lq la lb = R) := by show _ = _; have h := HSP.out; rw [hzz, Bool.true_and] at h; exact h
          clear hzz
          go_wp2_with fail
          refine (implLeUnder_any w5 w5.heap.size (some ⟨q0, 0, none⟩) (m + 1) s0 lz Aa na ca la Ab nb cb lb T pv Tc pc (Nat.lt_of_lt_of_le h0 (Nat.le_trans hB HB5.out.size)) (Nat.lt_of_lt_of_le h0c (Nat.le_trans hB HB5.out.size)) (Nat.le_refl _) (.inl ⟨_, _, rfl⟩) (OwnC.reads Rz5.out) (by omega) (OwnT.reads Ra5.out) (by omega) (OwnT.reads Rb5.out) (by omega) (hE.below (HB5.out.mono hB) h0) (hEc.below (HB5.out.mono hB) h0c)).mono ?_
          rintro e w6 ⟨rfl, hb⟩
          have HB6 := Lib.hid (HB5.out.trans (hb.mono HB5.out.size))
          have Rl6 := Lib.hid (own_below' Rl5.out hb)
          have Ra6 := Lib.hid (own_below' Ra5.out hb)
          have Rb6 := Lib.hid (own_below' Rb5.out hb)
          have Rz6 := Lib.hid (own_below' Rz5.out hb)
          have Rq6 := Lib.hid (own_below' Rq5.out hb)
          clear hb Rl5 Ra5 Rb5 Rz5 Rq5 HB5
          rw [HZ.out]
          go_wp2_with fail
          refine (implLeUnder_any w6 w6.heap.size (some ⟨q1, 0, none⟩) (m + 1) s1 lq Aa na ca la Ab nb cb lb T pv Tc pc (Nat.lt_of_lt_of_le h0 (Nat.le_trans hB HB6.out.size)) (Nat.lt_of_lt_of_le h0c (Nat.le_trans hB HB6.out.size)) (Nat.le_refl _) (.inl ⟨_, _, rfl⟩) (OwnC.reads Rq6.out) (by omega) (OwnT.reads Ra6.out) (by omega) (OwnT.reads Rb6.out) (by omega) (hE.below (HB6.out.mono hB) h0) (hEc.below (HB6.out.mono hB) h0c)).mono ?_
          rintro e w7 ⟨rfl, hb⟩
          have HB7 := Lib.hid (HB6.out.trans (hb.mono HB6.out.size))
          have Rl7 := Lib.hid (own_below' Rl6.out hb)
          have Ra7 := Lib.hid (own_below' Ra6.out hb)
          have Rb7 := Lib.hid (own_below' Rb6.out hb)
          have Rz7 := Lib.hid (own_below' Rz6.out hb)
          have Rq7 := Lib.hid (own_below' Rq6.out hb)
          clear hb Rl6 Ra6 Rb6 Rz6 Rq6 HB6
          rw [HQ.out]
          go_wp2
          go_ret
          exact ⟨rfl, HB7.out⟩
end Go.Proofs.YtmbcjddahncocaaDoor
