/- The law FnMoreKnown: the walk. -/
import Derived.Test.YtgebjnoicgmdoaaGreatDoorRegInvIn
import Derived.Test.YtgebjnoicgmdoaaGreatDoorConApp
import Derived.Test.YtgebjnoicgmdoaaGreatDoorMkG
import Derived.Test.YtgebjnoicgmdoaaGreatDoorThin2

namespace Go.Proofs.YtgebjnoicgmdoaaGreatDoor
open Go.RowKit
open Cs (Cn)

/-- what lies in the slots of the drawn region -/
def MkC (g m cap : Nat) (U Q V : Int) (j : Nat) (v : Value) : Prop :=
  match j with
  | 1 => v = .slice (some ⟨g, 0, none⟩) m cap
  | 3 => v = .agg #[.int .i64 U, .int .i64 Q, .int .i64 V]
  | _ => True
theorem con_blk {w : World} {g : Nat} {U Q V : Int} (h : Blk w g 41 #[.int .i64 U, .int .i64 Q, .int .i64 V]) : ∀ j u, (conCells [(U, Q, V)])[j]? = some u → w.cell? ((⟨g, 0, none⟩ : Addr).add j) = some u := fun j u hu => by
  rw [own_adds, Blk.cell h j, ← hu]
  match j with
  | 0 => rfl
  | 1 => rfl
  | 2 => rfl
  | _ + 3 => rfl
theorem own_slok {w : World} {base n c : Nat} {A : Option Addr} {l : List Cn} (h : OwnC w base A n c l) : SlOk A n c := by
  rcases h.2 with ⟨h0, hn⟩ | ⟨g, cap, cur, hv, _⟩
  · injection h0 with e1 e2 e3
    exact .inr ⟨e1, e2, e3⟩
  · injection hv with e1
    exact .inl ⟨_, _, e1⟩

set_option maxRecDepth 100000 in
set_option maxHeartbeats 64000000 in
theorem fnMoreKnown_any (w : World) (B : Nat) (A : Option Addr) (n c : Nat) (T : TypeId) (pv : Value) (Tc : TypeId) (pc : Value) (h0 : 1 < B) (h0c : 0 < B) (hB : B ≤ w.heap.size)
    (hb : BytR w B A n) (hnc : n ≤ c) (hE : ErrAt w T pv) (hEc : ErrCAt w Tc pc) :
    Calls Tryz.prog 4 #[.slice A n c] w fun e w' => e = .returned (.bool true) ∧ Below w.heap.size w w' := by
  obtain ⟨i0, hi, hz0, hz1, hz2⟩ := info_parts info_con
  by_cases hbig : 1048576 < (n : Int)
  · go_enter Tryz.func4, Tryz.ntmps4
    go_wp2_with fail
    refine (big_any w A n c).mono ?_
    rintro e w' ⟨rfl, rfl⟩
    rw [decide_eq_true (by omega)]
    go_wp2
    go_ret
    exact ⟨rfl, Below.refl _ _⟩
  · have hn : n ≤ 1048576 := by omega
    go_enter Tryz.func4, Tryz.ntmps4
    go_wp2_with fail
    refine (big_any w A n c).mono ?_
    rintro e w' ⟨rfl, rfl⟩
    rw [decide_eq_false (by omega)]
    have HB0 : Hid (Below w.heap.size w w) := Below.refl _ _
    go_wp2_with fail
    refine (drawLeUnder_any w B A n c hB hb hn).mono ?_
    rintro e w1 ⟨⟨g, cap, m, l, Aa, na, ca, la, Ab, nb, cb, lb, rfl, hm, hna, hnb, hol, hoa, hob⟩, hb1⟩
    have HB1 := Lib.hid hb1
    have Rl1 := Lib.hid hol
    have Ra1 := Lib.hid hoa
    have Rb1 := Lib.hid hob
    have hs1 := hb1.size
    have HLL : Hid (l.length = m) := (OwnC.reads hol).1
    clear hol hoa hob hb1
    go_wp2_with fail
    refine (rest5_any w1 B A n c (hb.below (HB1.out.mono hB)) hn hnc).mono ?_
    rintro e w' ⟨A', n', c', rfl, hbr, hn', hw⟩
    obtain rfl : w1 = w' := hw
    go_wp2_with fail
    refine (drawImp_any w1 B A' n' c' (Nat.le_trans hB HB1.out.size) hbr hn').mono ?_
    rintro e w2 ⟨⟨g2, cap2, m2, l2, U, Q, V, rfl, hm2, hol2⟩, hb'⟩
    have HB2 := Lib.hid (HB1.out.trans (hb'.mono HB1.out.size))
    have Rl2 := Lib.hid (own_below' Rl1.out hb')
    have Ra2 := Lib.hid (own_below' Ra1.out hb')
    have Rb2 := Lib.hid (own_below' Rb1.out hb')
    clear hb' Rl1 Ra1 Rb1 HB1
    clear hol2
    obtain ⟨w3, hw3⟩ : ∃ W, w2.alloc (.cells #[.int .i64 U, .int .i64 Q, .int .i64 V] 41) = W := ⟨_, rfl⟩
    have hbw : Below w2.heap.size w2 w3 := by rw [← hw3]; exact (Below.refl _ _).alloc (Nat.le_refl _) _
    have KC3 : Hid (Blk w3 w2.heap.size 41 #[.int .i64 U, .int .i64 Q, .int .i64 V]) := by show Blk _ _ _ _; rw [← hw3]; exact Blk.made _ _ _
    have HB3 := Lib.hid (HB2.out.trans (hbw.mono HB2.out.size))
    have Rl3 := Lib.hid (own_below' Rl2.out hbw)
    have Ra3 := Lib.hid (own_below' Ra2.out hbw)
    have Rb3 := Lib.hid (own_below' Rb2.out hbw)
    clear hbw Rl2 Ra2 Rb2 HB2
    have hcells := con_news (OwnC.reads Rl3.out)
    have hgt : g < w3.heap.size := (Rl3.out.lt g rfl).2
    have hcl0 : (conCells l).length = m * 3 := by rw [conCells_len, HLL.out]
    have kc := KC3.out
    have hkc := kc.lt
    go_wp2_with fail
    rw [act_tm _ 99 rfl]
    refine region_slots2 99 _ (fun _ d f w' => MkG 27 29 31 32 8 w3 l m (U, Q, V) d f w') (fun j v _ => MkC g m cap U Q V j v) (fun _ _ => True) (by kernel_rfl) (by kernel_rfl) ⟨(Below.refl _ _).drew, (fun e => by cases e), (fun e => by cases e), (fun e => by cases e), (fun e => by cases e), (fun e => by cases e)⟩ (fun _ _ _ _ _ hx => hx) (AllFrom.all (AllFrom.cons ?o0 (AllFrom.cons ?o1 (AllFrom.cons ?o2 (AllFrom.cons ?o3 (AllFrom.cons ?o4 (AllFrom.cons ?o5 (AllFrom.cons ?o6 AllFrom.nil)))))))) ?fin
    case o0 =>
      intro k d f wy hk hun hcl hwt hG hf hC
      have d2 := not_fed (top := 2) (by kernel_rfl) hcl (i := 0) (by omega) hun
      have d5 := not_fed (top := 5) (by kernel_rfl) hcl (i := 0) (by omega) hun
      have d6 := not_fed (top := 6) (by kernel_rfl) hcl (i := 0) (by omega) hun
      refine op_wp rfl rfl fun K' hK' => ?_
      go_simp
      exact hK' _ _ ⟨.slice (some ⟨wy.heap.size, 0, none⟩) 0 0, rfl, trivial, hG.first d2 d5 d6 (by decide), trivial⟩
    case o1 =>
      intro k d f wy hk hun hcl hwt hG hf hC
      have e0 : (tm 99 f).tmps[3]?.getD undef = .slice (some ⟨g, 0, none⟩) m cap := (tm_get (by omega) f).trans (hf 3 (frame_of (by kernel_rfl)))
      refine op_wp rfl rfl fun K' hK' => ?_
      go_simp
      exact hK' _ _ ⟨_, rfl, trivial, hG.same (by decide) (by decide) (by decide) (by decide) (by decide) (by decide) (by decide) (by decide) (by decide) (by decide), rfl⟩
    case o2 =>
      intro k d f wy hk hun hcl hwt hG hf hC
      have d5 := not_fed (top := 5) (by kernel_rfl) hcl (i := 2) (by omega) hun
      have d6 := not_fed (top := 6) (by kernel_rfl) hcl (i := 2) (by omega) hun
      have d0 : d 0 = true := hwt 0 (by kernel_rfl)
      obtain ⟨q, hq, hown⟩ := hG.p0 d0 hun
      have e1 : (tm 99 f).eval (.tmp 27) = .slice (some ⟨q, 0, none⟩) 0 0 := (tm_eval (by omega) f).trans hq
      have e2 : (tm 99 f).eval (.tmp 28) = .slice (some ⟨g, 0, none⟩) m cap := (tm_eval (by omega) f).trans (hC 1 (by kernel_rfl))
      refine op_wp rfl rfl fun K' hK' => ?_
      refine wp_append_own wy (.tmp 27) (.tmp 28) 24 rfl w3.heap.size 41 i0 (.agg #[.int .i64 0, .int .i64 0, .int .i64 0]) 3 24 Tryz.underlying24 hi hz0 hz1 hz2 rfl (by decide) (.slice (some ⟨q, 0, none⟩) 0 0) 0 (conCells []) e1 hown ⟨g, 0, none⟩ m cap (conCells l) e2 hcl0 (fun j u hu => (hG.bel.cell (by rw [own_adds]; exact hgt)).trans (hcells j u hu)) (conCells_one _) (by unfold maxLen; omega) (by omega) hG.bel.size ?_
      intro v' w5 hown' hgrow hnil
      obtain ⟨g5, c5, rfl⟩ := con_take hown' hnil
      have hB5 : Below w3.heap.size w3 w5 := hG.bel.grown hgrow hG.bel.size (fun k h => (hown.lt k h).1)
      have HO5 := con_zero hown'
      exact hK' _ _ ⟨_, rfl, trivial, hG.copy d0 hun d5 d6 (by decide) hgrow (fun x hx y hy => by rw [hq] at hx; injection hx with e; injection e with e; injection e with e; have h' : q = y := (by simpa [Value.ownBlock] using hy); omega) hB5 HO5, trivial⟩
    case o3 =>
      intro k d f wy hk hun hcl hwt hG hf hC
      have e7 : (tm 99 f).eval (.tmp 7) = .pointer (some ⟨w2.heap.size, 0, none⟩) := (tm_eval (by omega) f).trans (hf 7 (frame_of (by kernel_rfl)))
      have hk2 : Blk wy w2.heap.size 41 #[.int .i64 U, .int .i64 Q, .int .i64 V] := Blk.below kc hG.bel hkc
      refine op_wp rfl rfl fun K' hK' => ?_
      refine wp_load_row 41 _ rfl w2.heap.size e7 41 #[.int .i64 U, .int .i64 Q, .int .i64 V] (0, 0) _ hk2 Tryz.underlying41 rfl (by kernel_rfl) ?_
      exact hK' _ _ ⟨_, rfl, trivial, hG.same (by decide) (by decide) (by decide) (by decide) (by decide) (by decide) (by decide) (by decide) (by decide) (by decide), rfl⟩
    case o4 =>
      intro k d f wy hk hun hcl hwt hG hf hC
      have d5 := not_fed (top := 5) (by kernel_rfl) hcl (i := 4) (by omega) hun
      have d6 := not_fed (top := 6) (by kernel_rfl) hcl (i := 4) (by omega) hun
      have e0 : (tm 99 f).tmps[30]?.getD undef = .agg #[.int .i64 U, .int .i64 Q, .int .i64 V] := (tm_get (by omega) f).trans (hC 3 (by kernel_rfl))
      refine op_wp rfl rfl fun K' hK' => ?_
      go_simp
      exact hK' _ _ ⟨.slice (some ⟨wy.heap.size, 0, none⟩) 1 1, rfl, trivial, hG.one d5 d6 (by decide) (by decide), trivial⟩
    case o5 =>
      intro k d f wy hk hun hcl hwt hG hf hC
      have d6 := not_fed (top := 6) (by kernel_rfl) hcl (i := 5) (by omega) hun
      have d2 : d 2 = true := hwt 2 (by kernel_rfl)
      have d4 : d 4 = true := hwt 4 (by kernel_rfl)
      obtain ⟨q, kq, hq, hown⟩ := hG.p2 d2 hun
      obtain ⟨h1, hh1, hblk, _⟩ := hG.p4 d4 hun
      have e1 : (tm 99 f).eval (.tmp 29) = .slice (some ⟨q, 0, none⟩) m kq := (tm_eval (by omega) f).trans hq
      have e2 : (tm 99 f).eval (.tmp 31) = .slice (some ⟨h1, 0, none⟩) 1 1 := (tm_eval (by omega) f).trans hh1
      refine op_wp rfl rfl fun K' hK' => ?_
      refine wp_append_own wy (.tmp 29) (.tmp 31) 24 rfl w3.heap.size 41 i0 (.agg #[.int .i64 0, .int .i64 0, .int .i64 0]) 3 24 Tryz.underlying24 hi hz0 hz1 hz2 rfl (by decide) (.slice (some ⟨q, 0, none⟩) m kq) m (conCells l) e1 hown ⟨h1, 0, none⟩ 1 1 (conCells [(U, Q, V)]) e2 rfl (con_blk hblk) (conCells_one _) (by unfold maxLen; omega) (by omega) hG.bel.size ?_
      intro v' w5 hown' hgrow hnil
      obtain ⟨g5, c5, rfl⟩ := con_more hown'
      have hB5 : Below w3.heap.size w3 w5 := hG.bel.grown hgrow hG.bel.size (fun k h => (hown.lt k h).1)
      have HO5 := con_snoc hown'
      exact hK' _ _ ⟨_, rfl, trivial, MkG.both d2 d6 hB5 HO5, trivial⟩
    case o6 =>
      intro k d f wy hk hun hcl hwt hG hf hC
      have d2 : d 2 = true := hcl 5 2 (hwt 5 (by kernel_rfl)) (by kernel_rfl)
      have d5 : d 5 = true := hwt 5 (by kernel_rfl)
      have e0 : (tm 99 f).tmps[32]?.getD undef = f 32 := tm_get (by omega) f
      refine op_wp rfl rfl fun K' hK' => ?_
      go_simp
      exact hK' _ _ ⟨_, rfl, trivial, hG.out d2 d5 (by decide), trivial⟩
    case fin =>
      intro k d f wy hk hall hG hf hC
      obtain ⟨gz, kz, hq, hoz⟩ := hG.p5 (hall 5 (by decide))
      have e8 : f 8 = .slice (some ⟨gz, 0, none⟩) (m + 1) kz := (hG.p6 (hall 6 (by decide))).trans hq
      have hfr : ∀ t, t ∉ [27, 28, 29, 30, 31, 32, 8] → f t = _ := fun t ht => hf t (covers_not (by kernel_rfl) ht)
      have hbx := hG.bel
      rw [tm_frame 99 f _ _ hfr, ← act_tm _ 99 rfl]
      simp only [List.foldl_cons, List.foldl_nil, Act.put, List.setIfInBounds_toArray, List.set_cons_succ, List.set_cons_zero, e8]
      generalize f 27 = y27
      generalize f 28 = y28
      generalize f 29 = y29
      generalize f 30 = y30
      generalize f 31 = y31
      generalize f 32 = y32
      obtain ⟨w4, hw4⟩ : ∃ X, X = wy := ⟨_, rfl⟩
      subst hw4
      clear hC hf hall hfr e8 hG hk hq hcells hcl0 kc hw3
      have HB4 := Lib.hid (HB3.out.trans (hbx.mono HB3.out.size))
      have Rl4 := Lib.hid (own_below' Rl3.out hbx)
      have Ra4 := Lib.hid (own_below' Ra3.out hbx)
      have Rb4 := Lib.hid (own_below' Rb3.out hbx)
      have KC4 := Lib.hid (Blk.below KC3.out hbx KC3.out.lt)
      obtain ⟨lz, hlz⟩ : ∃ lz, l ++ [(U, Q, V)] = lz := ⟨_, rfl⟩
      have Rz4 := Lib.hid (own_base (base' := w.heap.size) hoz HB3.out.size)
      rw [hlz] at Rz4
      have HLZ := Lib.hid hlz
      clear hbx Rl3 Ra3 Rb3 HB3 KC3
      clear hoz hlz
      obtain ⟨R, hR⟩ : ∃ R, leUnR l la lb = R := ⟨_, rfl⟩
      have HR := Lib.hid hR
      clear hR
      have hbb : (R != R) = false := by simp
      have hbe : (R == R) = true := by simp
      have z0 : w4.cell? ⟨w2.heap.size, 0, none⟩ = some (.int .i64 U) := KC4.out.cell 0
      have z1 : w4.cell? ⟨w2.heap.size, 1, none⟩ = some (.int .i64 Q) := KC4.out.cell 1
      have z2 : w4.cell? ⟨w2.heap.size, 2, none⟩ = some (.int .i64 V) := KC4.out.cell 2
      go_wp2_with fail
      refine (implLeUnder_any w4 w4.heap.size (some ⟨g, 0, none⟩) m cap l Aa na ca la Ab nb cb lb T pv Tc pc (Nat.lt_of_lt_of_le h0 (Nat.le_trans hB HB4.out.size)) (Nat.lt_of_lt_of_le h0c (Nat.le_trans hB HB4.out.size)) (Nat.le_refl _) (.inl ⟨_, _, rfl⟩) (OwnC.reads Rl4.out) (by omega) (OwnT.reads Ra4.out) (by omega) (OwnT.reads Rb4.out) (by omega) (hE.below (HB4.out.mono hB) h0) (hEc.below (HB4.out.mono hB) h0c)).mono ?_
      rintro e w5 ⟨rfl, hb⟩
      clear z0 z1 z2
      have HB5 := Lib.hid (HB4.out.trans (hb.mono HB4.out.size))
      have Rl5 := Lib.hid (own_below' Rl4.out hb)
      have Ra5 := Lib.hid (own_below' Ra4.out hb)
      have Rb5 := Lib.hid (own_below' Rb4.out hb)
      have Rz5 := Lib.hid (own_below' Rz4.out hb)
      have KC5 := Lib.hid (Blk.below KC4.out hb KC4.out.lt)
      clear hb Rl4 Ra4 Rb4 Rz4 HB4 KC4
      rw [HR.out]
      have z0 : w5.cell? ⟨w2.heap.size, 0, none⟩ = some (.int .i64 U) := KC5.out.cell 0
      have z1 : w5.cell? ⟨w2.heap.size, 1, none⟩ = some (.int .i64 Q) := KC5.out.cell 1
      have z2 : w5.cell? ⟨w2.heap.size, 2, none⟩ = some (.int .i64 V) := KC5.out.cell 2
      go_wp2_with fail
      refine (specLeUnder_any w5 w5.heap.size g 0 m cap l Aa na ca la Ab nb cb lb (Nat.le_refl _) (OwnC.reads Rl5.out) (by omega) (OwnT.reads Ra5.out) (by omega) (OwnT.reads Rb5.out) (by omega)).mono ?_
      rintro e w6 ⟨rfl, hb⟩
      clear z0 z1 z2
      have HB6 := Lib.hid (HB5.out.trans (hb.mono HB5.out.size))
      have Rl6 := Lib.hid (own_below' Rl5.out hb)
      have Ra6 := Lib.hid (own_below' Ra5.out hb)
      have Rb6 := Lib.hid (own_below' Rb5.out hb)
      have Rz6 := Lib.hid (own_below' Rz5.out hb)
      have KC6 := Lib.hid (Blk.below KC5.out hb KC5.out.lt)
      clear hb Rl5 Ra5 Rb5 Rz5 HB5 KC5
      rw [HR.out]
      cases hz : consOkR lz with
      | false =>
        have HZ := Lib.hid hz
        clear hz
        have z0 : w6.cell? ⟨w2.heap.size, 0, none⟩ = some (.int .i64 U) := KC6.out.cell 0
        have z1 : w6.cell? ⟨w2.heap.size, 1, none⟩ = some (.int .i64 Q) := KC6.out.cell 1
        have z2 : w6.cell? ⟨w2.heap.size, 2, none⟩ = some (.int .i64 V) := KC6.out.cell 2
        go_wp2_with fail
        refine (specConsOk_any w6 w6.heap.size (some ⟨gz, 0, none⟩) (m + 1) kz lz (Nat.le_refl _) (OwnC.reads Rz6.out) (by omega)).mono ?_
        rintro e w7 ⟨rfl, hb⟩
        clear z0 z1 z2
        have HB7 := Lib.hid (HB6.out.trans (hb.mono HB6.out.size))
        have Rl7 := Lib.hid (own_below' Rl6.out hb)
        have Ra7 := Lib.hid (own_below' Ra6.out hb)
        have Rb7 := Lib.hid (own_below' Rb6.out hb)
        have Rz7 := Lib.hid (own_below' Rz6.out hb)
        have KC7 := Lib.hid (Blk.below KC6.out hb KC6.out.lt)
        clear hb Rl6 Ra6 Rb6 Rz6 HB6 KC6
        rw [HZ.out]
        have z0 : w7.cell? ⟨w2.heap.size, 0, none⟩ = some (.int .i64 U) := KC7.out.cell 0
        have z1 : w7.cell? ⟨w2.heap.size, 1, none⟩ = some (.int .i64 Q) := KC7.out.cell 1
        have z2 : w7.cell? ⟨w2.heap.size, 2, none⟩ = some (.int .i64 V) := KC7.out.cell 2
        go_wp2_with fail
        refine (specLeUnder_any w7 w7.heap.size g 0 m cap l Aa na ca la Ab nb cb lb (Nat.le_refl _) (OwnC.reads Rl7.out) (by omega) (OwnT.reads Ra7.out) (by omega) (OwnT.reads Rb7.out) (by omega)).mono ?_
        rintro e w8 ⟨rfl, hb⟩
        clear z0 z1 z2
        have HB8 := Lib.hid (HB7.out.trans (hb.mono HB7.out.size))
        have Rl8 := Lib.hid (own_below' Rl7.out hb)
        have Ra8 := Lib.hid (own_below' Ra7.out hb)
        have Rb8 := Lib.hid (own_below' Rb7.out hb)
        have Rz8 := Lib.hid (own_below' Rz7.out hb)
        have KC8 := Lib.hid (Blk.below KC7.out hb KC7.out.lt)
        clear hb Rl7 Ra7 Rb7 Rz7 HB7 KC7
        rw [HR.out]
        have z0 : w8.cell? ⟨w2.heap.size, 0, none⟩ = some (.int .i64 U) := KC8.out.cell 0
        have z1 : w8.cell? ⟨w2.heap.size, 1, none⟩ = some (.int .i64 Q) := KC8.out.cell 1
        have z2 : w8.cell? ⟨w2.heap.size, 2, none⟩ = some (.int .i64 V) := KC8.out.cell 2
        go_wp2
        go_ret
        exact ⟨rfl, HB8.out⟩
      | true =>
        have HZ := Lib.hid hz
        have HI := Lib.hid (cons_init (l := l) (t := (U, Q, V)) (by rw [HLZ.out]; exact hz))
        obtain ⟨M, hM⟩ : ∃ M, leUnR lz la lb = M := ⟨_, rfl⟩
        have HM := Lib.hid hM
        have HRM : Hid (R = true → M = true) := fun h => by rw [← hM, ← HLZ.out]; exact leUn_more (by rw [HLZ.out]; exact hz) (HR.out.trans h)
        have HIM : Hid (impR l (U, Q, V) = true → M = R) := fun h => by rw [← hM, ← HLZ.out, leUn_imp (by rw [HLZ.out]; exact hz) h]; exact HR.out
        clear hM hz
        have hbm : (M == M) = true := by simp
        have z0 : w6.cell? ⟨w2.heap.size, 0, none⟩ = some (.int .i64 U) := KC6.out.cell 0
        have z1 : w6.cell? ⟨w2.heap.size, 1, none⟩ = some (.int .i64 Q) := KC6.out.cell 1
        have z2 : w6.cell? ⟨w2.heap.size, 2, none⟩ = some (.int .i64 V) := KC6.out.cell 2
        go_wp2_with fail
        refine (specConsOk_any w6 w6.heap.size (some ⟨gz, 0, none⟩) (m + 1) kz lz (Nat.le_refl _) (OwnC.reads Rz6.out) (by omega)).mono ?_
        rintro e w7 ⟨rfl, hb⟩
        clear z0 z1 z2
        have HB7 := Lib.hid (HB6.out.trans (hb.mono HB6.out.size))
        have Rl7 := Lib.hid (own_below' Rl6.out hb)
        have Ra7 := Lib.hid (own_below' Ra6.out hb)
        have Rb7 := Lib.hid (own_below' Rb6.out hb)
        have Rz7 := Lib.hid (own_below' Rz6.out hb)
        have KC7 := Lib.hid (Blk.below KC6.out hb KC6.out.lt)
        clear hb Rl6 Ra6 Rb6 Rz6 HB6 KC6
        rw [HZ.out]
        have z0 : w7.cell? ⟨w2.heap.size, 0, none⟩ = some (.int .i64 U) := KC7.out.cell 0
        have z1 : w7.cell? ⟨w2.heap.size, 1, none⟩ = some (.int .i64 Q) := KC7.out.cell 1
        have z2 : w7.cell? ⟨w2.heap.size, 2, none⟩ = some (.int .i64 V) := KC7.out.cell 2
        go_wp2_with fail
        refine (implLeUnder_any w7 w7.heap.size (some ⟨gz, 0, none⟩) (m + 1) kz lz Aa na ca la Ab nb cb lb T pv Tc pc (Nat.lt_of_lt_of_le h0 (Nat.le_trans hB HB7.out.size)) (Nat.lt_of_lt_of_le h0c (Nat.le_trans hB HB7.out.size)) (Nat.le_refl _) (.inl ⟨_, _, rfl⟩) (OwnC.reads Rz7.out) (by omega) (OwnT.reads Ra7.out) (by omega) (OwnT.reads Rb7.out) (by omega) (hE.below (HB7.out.mono hB) h0) (hEc.below (HB7.out.mono hB) h0c)).mono ?_
        rintro e w8 ⟨rfl, hb⟩
        clear z0 z1 z2
        have HB8 := Lib.hid (HB7.out.trans (hb.mono HB7.out.size))
        have Rl8 := Lib.hid (own_below' Rl7.out hb)
        have Ra8 := Lib.hid (own_below' Ra7.out hb)
        have Rb8 := Lib.hid (own_below' Rb7.out hb)
        have Rz8 := Lib.hid (own_below' Rz7.out hb)
        have KC8 := Lib.hid (Blk.below KC7.out hb KC7.out.lt)
        clear hb Rl7 Ra7 Rb7 Rz7 HB7 KC7
        rw [HM.out]
        have hsT := HB8.out.size
        have z0 : w8.cell? ⟨w2.heap.size, 0, none⟩ = some (.int .i64 U) := KC8.out.cell 0
        have z1 : w8.cell? ⟨w2.heap.size, 1, none⟩ = some (.int .i64 Q) := KC8.out.cell 1
        have z2 : w8.cell? ⟨w2.heap.size, 2, none⟩ = some (.int .i64 V) := KC8.out.cell 2
        go_wp2_with fail
        refine (implConsThin_any w8 w8.heap.size (some ⟨g, 0, none⟩) m cap l (Nat.le_refl _) (OwnC.reads Rl8.out) (by omega)).mono ?_
        rintro e w9 ⟨At, ct, rfl, hot, hb'⟩
        clear z0 z1 z2
        have HB9 := Lib.hid (HB8.out.trans (hb'.mono HB8.out.size))
        have Rl9 := Lib.hid (own_below' Rl8.out hb')
        have Ra9 := Lib.hid (own_below' Ra8.out hb')
        have Rb9 := Lib.hid (own_below' Rb8.out hb')
        have Rz9 := Lib.hid (own_below' Rz8.out hb')
        have KC9 := Lib.hid (Blk.below KC8.out hb' KC8.out.lt)
        clear hb' Rl8 Ra8 Rb8 Rz8 HB8 KC8
        obtain ⟨I, hI⟩ : ∃ I, impR l (U, Q, V) = I := ⟨_, rfl⟩
        rw [hI] at HIM
        have HIE := Lib.hid hI
        clear hI
        cases hsat : satR l with
        | false =>
          rw [thinO_no hsat]
          simp only [Option.getD_none, Option.isSome_none, List.length_nil]
          clear hot hsat
          cases R with
          | false =>
            have z0 : w9.cell? ⟨w2.heap.size, 0, none⟩ = some (.int .i64 U) := KC9.out.cell 0
            have z1 : w9.cell? ⟨w2.heap.size, 1, none⟩ = some (.int .i64 Q) := KC9.out.cell 1
            have z2 : w9.cell? ⟨w2.heap.size, 2, none⟩ = some (.int .i64 V) := KC9.out.cell 2
            go_wp2_with fail
            refine (implConsImply_any w9 w9.heap.size (some ⟨g, 0, none⟩) m cap l U Q V (Nat.le_refl _) (OwnC.reads Rl9.out) (by omega)).mono ?_
            rintro e w10 ⟨rfl, hb⟩
            clear z0 z1 z2
            have HB10 := Lib.hid (HB9.out.trans (hb.mono HB9.out.size))
            have Rl10 := Lib.hid (own_below' Rl9.out hb)
            have Ra10 := Lib.hid (own_below' Ra9.out hb)
            have Rb10 := Lib.hid (own_below' Rb9.out hb)
            have Rz10 := Lib.hid (own_below' Rz9.out hb)
            have KC10 := Lib.hid (Blk.below KC9.out hb KC9.out.lt)
            clear hb Rl9 Ra9 Rb9 Rz9 HB9 KC9
            rw [HIE.out]
            cases I with
            | false =>
              have z0 : w10.cell? ⟨w2.heap.size, 0, none⟩ = some (.int .i64 U) := KC10.out.cell 0
              have z1 : w10.cell? ⟨w2.heap.size, 1, none⟩ = some (.int .i64 Q) := KC10.out.cell 1
              have z2 : w10.cell? ⟨w2.heap.size, 2, none⟩ = some (.int .i64 V) := KC10.out.cell 2
              go_wp2_with fail
              refine (specLeUnder_any w10 w10.heap.size gz 0 (m + 1) kz lz Aa na ca la Ab nb cb lb (Nat.le_refl _) (OwnC.reads Rz10.out) (by omega) (OwnT.reads Ra10.out) (by omega) (OwnT.reads Rb10.out) (by omega)).mono ?_
              rintro e w11 ⟨rfl, hb⟩
              clear z0 z1 z2
              have HB11 := Lib.hid (HB10.out.trans (hb.mono HB10.out.size))
              have Rl11 := Lib.hid (own_below' Rl10.out hb)
              have Ra11 := Lib.hid (own_below' Ra10.out hb)
              have Rb11 := Lib.hid (own_below' Rb10.out hb)
              have Rz11 := Lib.hid (own_below' Rz10.out hb)
              have KC11 := Lib.hid (Blk.below KC10.out hb KC10.out.lt)
              clear hb Rl10 Ra10 Rb10 Rz10 HB10 KC10
              rw [HM.out]
              have z0 : w11.cell? ⟨w2.heap.size, 0, none⟩ = some (.int .i64 U) := KC11.out.cell 0
              have z1 : w11.cell? ⟨w2.heap.size, 1, none⟩ = some (.int .i64 Q) := KC11.out.cell 1
              have z2 : w11.cell? ⟨w2.heap.size, 2, none⟩ = some (.int .i64 V) := KC11.out.cell 2
              go_wp2
              go_ret
              exact ⟨rfl, HB11.out⟩
            | true =>
              have hmr : M = false := HIM.out rfl
              subst hmr
              have z0 : w10.cell? ⟨w2.heap.size, 0, none⟩ = some (.int .i64 U) := KC10.out.cell 0
              have z1 : w10.cell? ⟨w2.heap.size, 1, none⟩ = some (.int .i64 Q) := KC10.out.cell 1
              have z2 : w10.cell? ⟨w2.heap.size, 2, none⟩ = some (.int .i64 V) := KC10.out.cell 2
              go_wp2_with fail
              refine (specLeUnder_any w10 w10.heap.size gz 0 (m + 1) kz lz Aa na ca la Ab nb cb lb (Nat.le_refl _) (OwnC.reads Rz10.out) (by omega) (OwnT.reads Ra10.out) (by omega) (OwnT.reads Rb10.out) (by omega)).mono ?_
              rintro e w11 ⟨rfl, hb⟩
              clear z0 z1 z2
              have HB11 := Lib.hid (HB10.out.trans (hb.mono HB10.out.size))
              have Rl11 := Lib.hid (own_below' Rl10.out hb)
              have Ra11 := Lib.hid (own_below' Ra10.out hb)
              have Rb11 := Lib.hid (own_below' Rb10.out hb)
              have Rz11 := Lib.hid (own_below' Rz10.out hb)
              have KC11 := Lib.hid (Blk.below KC10.out hb KC10.out.lt)
              clear hb Rl10 Ra10 Rb10 Rz10 HB10 KC10
              rw [HM.out]
              have z0 : w11.cell? ⟨w2.heap.size, 0, none⟩ = some (.int .i64 U) := KC11.out.cell 0
              have z1 : w11.cell? ⟨w2.heap.size, 1, none⟩ = some (.int .i64 Q) := KC11.out.cell 1
              have z2 : w11.cell? ⟨w2.heap.size, 2, none⟩ = some (.int .i64 V) := KC11.out.cell 2
              go_wp2
              go_ret
              exact ⟨rfl, HB11.out⟩
          | true =>
            have hmt : M = true := HRM.out rfl
            subst hmt
            have z0 : w9.cell? ⟨w2.heap.size, 0, none⟩ = some (.int .i64 U) := KC9.out.cell 0
            have z1 : w9.cell? ⟨w2.heap.size, 1, none⟩ = some (.int .i64 Q) := KC9.out.cell 1
            have z2 : w9.cell? ⟨w2.heap.size, 2, none⟩ = some (.int .i64 V) := KC9.out.cell 2
            go_wp2_with fail
            refine (implConsImply_any w9 w9.heap.size (some ⟨g, 0, none⟩) m cap l U Q V (Nat.le_refl _) (OwnC.reads Rl9.out) (by omega)).mono ?_
            rintro e w10 ⟨rfl, hb⟩
            clear z0 z1 z2
            have HB10 := Lib.hid (HB9.out.trans (hb.mono HB9.out.size))
            have Rl10 := Lib.hid (own_below' Rl9.out hb)
            have Ra10 := Lib.hid (own_below' Ra9.out hb)
            have Rb10 := Lib.hid (own_below' Rb9.out hb)
            have Rz10 := Lib.hid (own_below' Rz9.out hb)
            have KC10 := Lib.hid (Blk.below KC9.out hb KC9.out.lt)
            clear hb Rl9 Ra9 Rb9 Rz9 HB9 KC9
            rw [HIE.out]
            cases I with
            | false =>
              have z0 : w10.cell? ⟨w2.heap.size, 0, none⟩ = some (.int .i64 U) := KC10.out.cell 0
              have z1 : w10.cell? ⟨w2.heap.size, 1, none⟩ = some (.int .i64 Q) := KC10.out.cell 1
              have z2 : w10.cell? ⟨w2.heap.size, 2, none⟩ = some (.int .i64 V) := KC10.out.cell 2
              go_wp2_with fail
              refine (specLeUnder_any w10 w10.heap.size gz 0 (m + 1) kz lz Aa na ca la Ab nb cb lb (Nat.le_refl _) (OwnC.reads Rz10.out) (by omega) (OwnT.reads Ra10.out) (by omega) (OwnT.reads Rb10.out) (by omega)).mono ?_
              rintro e w11 ⟨rfl, hb⟩
              clear z0 z1 z2
              have HB11 := Lib.hid (HB10.out.trans (hb.mono HB10.out.size))
              have Rl11 := Lib.hid (own_below' Rl10.out hb)
              have Ra11 := Lib.hid (own_below' Ra10.out hb)
              have Rb11 := Lib.hid (own_below' Rb10.out hb)
              have Rz11 := Lib.hid (own_below' Rz10.out hb)
              have KC11 := Lib.hid (Blk.below KC10.out hb KC10.out.lt)
              clear hb Rl10 Ra10 Rb10 Rz10 HB10 KC10
              rw [HM.out]
              have z0 : w11.cell? ⟨w2.heap.size, 0, none⟩ = some (.int .i64 U) := KC11.out.cell 0
              have z1 : w11.cell? ⟨w2.heap.size, 1, none⟩ = some (.int .i64 Q) := KC11.out.cell 1
              have z2 : w11.cell? ⟨w2.heap.size, 2, none⟩ = some (.int .i64 V) := KC11.out.cell 2
              go_wp2
              go_ret
              exact ⟨rfl, HB11.out⟩
            | true =>
              have z0 : w10.cell? ⟨w2.heap.size, 0, none⟩ = some (.int .i64 U) := KC10.out.cell 0
              have z1 : w10.cell? ⟨w2.heap.size, 1, none⟩ = some (.int .i64 Q) := KC10.out.cell 1
              have z2 : w10.cell? ⟨w2.heap.size, 2, none⟩ = some (.int .i64 V) := KC10.out.cell 2
              go_wp2_with fail
              refine (specLeUnder_any w10 w10.heap.size gz 0 (m + 1) kz lz Aa na ca la Ab nb cb lb (Nat.le_refl _) (OwnC.reads Rz10.out) (by omega) (OwnT.reads Ra10.out) (by omega) (OwnT.reads Rb10.out) (by omega)).mono ?_
              rintro e w11 ⟨rfl, hb⟩
              clear z0 z1 z2
              have HB11 := Lib.hid (HB10.out.trans (hb.mono HB10.out.size))
              have Rl11 := Lib.hid (own_below' Rl10.out hb)
              have Ra11 := Lib.hid (own_below' Ra10.out hb)
              have Rb11 := Lib.hid (own_below' Rb10.out hb)
              have Rz11 := Lib.hid (own_below' Rz10.out hb)
              have KC11 := Lib.hid (Blk.below KC10.out hb KC10.out.lt)
              clear hb Rl10 Ra10 Rb10 Rz10 HB10 KC10
              rw [HM.out]
              have z0 : w11.cell? ⟨w2.heap.size, 0, none⟩ = some (.int .i64 U) := KC11.out.cell 0
              have z1 : w11.cell? ⟨w2.heap.size, 1, none⟩ = some (.int .i64 Q) := KC11.out.cell 1
              have z2 : w11.cell? ⟨w2.heap.size, 2, none⟩ = some (.int .i64 V) := KC11.out.cell 2
              go_wp2
              go_ret
              exact ⟨rfl, HB11.out⟩
        | true =>
          rw [thinO_yes hsat] at hot ⊢
          simp only [Option.getD_some, Option.isSome_some] at hot ⊢
          have HTE := Lib.hid ((leUn_thin (a := la) (b := lb) HI.out.1 hsat).trans HR.out)
          have hml := skip_len l (Cs.thinTo l l.length)
          obtain ⟨lt, hlt⟩ : ∃ lt, Cs.skip l (Cs.thinTo l l.length) = lt := ⟨_, rfl⟩
          rw [hlt] at hot HTE hml ⊢
          obtain ⟨mt, hmt⟩ : ∃ mt, lt.length = mt := ⟨_, rfl⟩
          rw [hmt] at hot hml ⊢
          rw [HLL.out] at hml
          have Rt9 := Lib.hid (own_base (base' := w.heap.size) hot hsT)
          clear hot hsat hlt hmt
          cases R with
          | false =>
            have z0 : w9.cell? ⟨w2.heap.size, 0, none⟩ = some (.int .i64 U) := KC9.out.cell 0
            have z1 : w9.cell? ⟨w2.heap.size, 1, none⟩ = some (.int .i64 Q) := KC9.out.cell 1
            have z2 : w9.cell? ⟨w2.heap.size, 2, none⟩ = some (.int .i64 V) := KC9.out.cell 2
            go_wp2_with fail
            refine (implLeUnder_any w9 w9.heap.size At mt ct lt Aa na ca la Ab nb cb lb T pv Tc pc (Nat.lt_of_lt_of_le h0 (Nat.le_trans hB HB9.out.size)) (Nat.lt_of_lt_of_le h0c (Nat.le_trans hB HB9.out.size)) (Nat.le_refl _) (own_slok Rt9.out) (OwnC.reads Rt9.out) (by omega) (OwnT.reads Ra9.out) (by omega) (OwnT.reads Rb9.out) (by omega) (hE.below (HB9.out.mono hB) h0) (hEc.below (HB9.out.mono hB) h0c)).mono ?_
            rintro e w10 ⟨rfl, hb⟩
            clear z0 z1 z2
            have HB10 := Lib.hid (HB9.out.trans (hb.mono HB9.out.size))
            have Rl10 := Lib.hid (own_below' Rl9.out hb)
            have Ra10 := Lib.hid (own_below' Ra9.out hb)
            have Rb10 := Lib.hid (own_below' Rb9.out hb)
            have Rz10 := Lib.hid (own_below' Rz9.out hb)
            have Rt10 := Lib.hid (own_below' Rt9.out hb)
            have KC10 := Lib.hid (Blk.below KC9.out hb KC9.out.lt)
            clear hb Rl9 Ra9 Rb9 Rz9 Rt9 HB9 KC9
            rw [HTE.out]
            have z0 : w10.cell? ⟨w2.heap.size, 0, none⟩ = some (.int .i64 U) := KC10.out.cell 0
            have z1 : w10.cell? ⟨w2.heap.size, 1, none⟩ = some (.int .i64 Q) := KC10.out.cell 1
            have z2 : w10.cell? ⟨w2.heap.size, 2, none⟩ = some (.int .i64 V) := KC10.out.cell 2
            go_wp2_with fail
            refine (implConsImply_any w10 w10.heap.size (some ⟨g, 0, none⟩) m cap l U Q V (Nat.le_refl _) (OwnC.reads Rl10.out) (by omega)).mono ?_
            rintro e w11 ⟨rfl, hb⟩
            clear z0 z1 z2
            have HB11 := Lib.hid (HB10.out.trans (hb.mono HB10.out.size))
            have Rl11 := Lib.hid (own_below' Rl10.out hb)
            have Ra11 := Lib.hid (own_below' Ra10.out hb)
            have Rb11 := Lib.hid (own_below' Rb10.out hb)
            have Rz11 := Lib.hid (own_below' Rz10.out hb)
            have Rt11 := Lib.hid (own_below' Rt10.out hb)
            have KC11 := Lib.hid (Blk.below KC10.out hb KC10.out.lt)
            clear hb Rl10 Ra10 Rb10 Rz10 Rt10 HB10 KC10
            rw [HIE.out]
            cases I with
            | false =>
              have z0 : w11.cell? ⟨w2.heap.size, 0, none⟩ = some (.int .i64 U) := KC11.out.cell 0
              have z1 : w11.cell? ⟨w2.heap.size, 1, none⟩ = some (.int .i64 Q) := KC11.out.cell 1
              have z2 : w11.cell? ⟨w2.heap.size, 2, none⟩ = some (.int .i64 V) := KC11.out.cell 2
              go_wp2_with fail
              refine (specLeUnder_any w11 w11.heap.size gz 0 (m + 1) kz lz Aa na ca la Ab nb cb lb (Nat.le_refl _) (OwnC.reads Rz11.out) (by omega) (OwnT.reads Ra11.out) (by omega) (OwnT.reads Rb11.out) (by omega)).mono ?_
              rintro e w12 ⟨rfl, hb⟩
              clear z0 z1 z2
              have HB12 := Lib.hid (HB11.out.trans (hb.mono HB11.out.size))
              have Rl12 := Lib.hid (own_below' Rl11.out hb)
              have Ra12 := Lib.hid (own_below' Ra11.out hb)
              have Rb12 := Lib.hid (own_below' Rb11.out hb)
              have Rz12 := Lib.hid (own_below' Rz11.out hb)
              have Rt12 := Lib.hid (own_below' Rt11.out hb)
              have KC12 := Lib.hid (Blk.below KC11.out hb KC11.out.lt)
              clear hb Rl11 Ra11 Rb11 Rz11 Rt11 HB11 KC11
              rw [HM.out]
              have z0 : w12.cell? ⟨w2.heap.size, 0, none⟩ = some (.int .i64 U) := KC12.out.cell 0
              have z1 : w12.cell? ⟨w2.heap.size, 1, none⟩ = some (.int .i64 Q) := KC12.out.cell 1
              have z2 : w12.cell? ⟨w2.heap.size, 2, none⟩ = some (.int .i64 V) := KC12.out.cell 2
              go_wp2
              go_ret
              exact ⟨rfl, HB12.out⟩
            | true =>
              have hmr : M = false := HIM.out rfl
              subst hmr
              have z0 : w11.cell? ⟨w2.heap.size, 0, none⟩ = some (.int .i64 U) := KC11.out.cell 0
              have z1 : w11.cell? ⟨w2.heap.size, 1, none⟩ = some (.int .i64 Q) := KC11.out.cell 1
              have z2 : w11.cell? ⟨w2.heap.size, 2, none⟩ = some (.int .i64 V) := KC11.out.cell 2
              go_wp2_with fail
              refine (specLeUnder_any w11 w11.heap.size gz 0 (m + 1) kz lz Aa na ca la Ab nb cb lb (Nat.le_refl _) (OwnC.reads Rz11.out) (by omega) (OwnT.reads Ra11.out) (by omega) (OwnT.reads Rb11.out) (by omega)).mono ?_
              rintro e w12 ⟨rfl, hb⟩
              clear z0 z1 z2
              have HB12 := Lib.hid (HB11.out.trans (hb.mono HB11.out.size))
              have Rl12 := Lib.hid (own_below' Rl11.out hb)
              have Ra12 := Lib.hid (own_below' Ra11.out hb)
              have Rb12 := Lib.hid (own_below' Rb11.out hb)
              have Rz12 := Lib.hid (own_below' Rz11.out hb)
              have Rt12 := Lib.hid (own_below' Rt11.out hb)
              have KC12 := Lib.hid (Blk.below KC11.out hb KC11.out.lt)
              clear hb Rl11 Ra11 Rb11 Rz11 Rt11 HB11 KC11
              rw [HM.out]
              have z0 : w12.cell? ⟨w2.heap.size, 0, none⟩ = some (.int .i64 U) := KC12.out.cell 0
              have z1 : w12.cell? ⟨w2.heap.size, 1, none⟩ = some (.int .i64 Q) := KC12.out.cell 1
              have z2 : w12.cell? ⟨w2.heap.size, 2, none⟩ = some (.int .i64 V) := KC12.out.cell 2
              go_wp2
              go_ret
              exact ⟨rfl, HB12.out⟩
          | true =>
            have hmt : M = true := HRM.out rfl
            subst hmt
            have z0 : w9.cell? ⟨w2.heap.size, 0, none⟩ = some (.int .i64 U) := KC9.out.cell 0
            have z1 : w9.cell? ⟨w2.heap.size, 1, none⟩ = some (.int .i64 Q) := KC9.out.cell 1
            have z2 : w9.cell? ⟨w2.heap.size, 2, none⟩ = some (.int .i64 V) := KC9.out.cell 2
            go_wp2_with fail
            refine (implLeUnder_any w9 w9.heap.size At mt ct lt Aa na ca la Ab nb cb lb T pv Tc pc (Nat.lt_of_lt_of_le h0 (Nat.le_trans hB HB9.out.size)) (Nat.lt_of_lt_of_le h0c (Nat.le_trans hB HB9.out.size)) (Nat.le_refl _) (own_slok Rt9.out) (OwnC.reads Rt9.out) (by omega) (OwnT.reads Ra9.out) (by omega) (OwnT.reads Rb9.out) (by omega) (hE.below (HB9.out.mono hB) h0) (hEc.below (HB9.out.mono hB) h0c)).mono ?_
            rintro e w10 ⟨rfl, hb⟩
            clear z0 z1 z2
            have HB10 := Lib.hid (HB9.out.trans (hb.mono HB9.out.size))
            have Rl10 := Lib.hid (own_below' Rl9.out hb)
            have Ra10 := Lib.hid (own_below' Ra9.out hb)
            have Rb10 := Lib.hid (own_below' Rb9.out hb)
            have Rz10 := Lib.hid (own_below' Rz9.out hb)
            have Rt10 := Lib.hid (own_below' Rt9.out hb)
            have KC10 := Lib.hid (Blk.below KC9.out hb KC9.out.lt)
            clear hb Rl9 Ra9 Rb9 Rz9 Rt9 HB9 KC9
            rw [HTE.out]
            have z0 : w10.cell? ⟨w2.heap.size, 0, none⟩ = some (.int .i64 U) := KC10.out.cell 0
            have z1 : w10.cell? ⟨w2.heap.size, 1, none⟩ = some (.int .i64 Q) := KC10.out.cell 1
            have z2 : w10.cell? ⟨w2.heap.size, 2, none⟩ = some (.int .i64 V) := KC10.out.cell 2
            go_wp2_with fail
            refine (implConsImply_any w10 w10.heap.size (some ⟨g, 0, none⟩) m cap l U Q V (Nat.le_refl _) (OwnC.reads Rl10.out) (by omega)).mono ?_
            rintro e w11 ⟨rfl, hb⟩
            clear z0 z1 z2
            have HB11 := Lib.hid (HB10.out.trans (hb.mono HB10.out.size))
            have Rl11 := Lib.hid (own_below' Rl10.out hb)
            have Ra11 := Lib.hid (own_below' Ra10.out hb)
            have Rb11 := Lib.hid (own_below' Rb10.out hb)
            have Rz11 := Lib.hid (own_below' Rz10.out hb)
            have Rt11 := Lib.hid (own_below' Rt10.out hb)
            have KC11 := Lib.hid (Blk.below KC10.out hb KC10.out.lt)
            clear hb Rl10 Ra10 Rb10 Rz10 Rt10 HB10 KC10
            rw [HIE.out]
            cases I with
            | false =>
              have z0 : w11.cell? ⟨w2.heap.size, 0, none⟩ = some (.int .i64 U) := KC11.out.cell 0
              have z1 : w11.cell? ⟨w2.heap.size, 1, none⟩ = some (.int .i64 Q) := KC11.out.cell 1
              have z2 : w11.cell? ⟨w2.heap.size, 2, none⟩ = some (.int .i64 V) := KC11.out.cell 2
              go_wp2_with fail
              refine (specLeUnder_any w11 w11.heap.size gz 0 (m + 1) kz lz Aa na ca la Ab nb cb lb (Nat.le_refl _) (OwnC.reads Rz11.out) (by omega) (OwnT.reads Ra11.out) (by omega) (OwnT.reads Rb11.out) (by omega)).mono ?_
              rintro e w12 ⟨rfl, hb⟩
              clear z0 z1 z2
              have HB12 := Lib.hid (HB11.out.trans (hb.mono HB11.out.size))
              have Rl12 := Lib.hid (own_below' Rl11.out hb)
              have Ra12 := Lib.hid (own_below' Ra11.out hb)
              have Rb12 := Lib.hid (own_below' Rb11.out hb)
              have Rz12 := Lib.hid (own_below' Rz11.out hb)
              have Rt12 := Lib.hid (own_below' Rt11.out hb)
              have KC12 := Lib.hid (Blk.below KC11.out hb KC11.out.lt)
              clear hb Rl11 Ra11 Rb11 Rz11 Rt11 HB11 KC11
              rw [HM.out]
              have z0 : w12.cell? ⟨w2.heap.size, 0, none⟩ = some (.int .i64 U) := KC12.out.cell 0
              have z1 : w12.cell? ⟨w2.heap.size, 1, none⟩ = some (.int .i64 Q) := KC12.out.cell 1
              have z2 : w12.cell? ⟨w2.heap.size, 2, none⟩ = some (.int .i64 V) := KC12.out.cell 2
              go_wp2
              go_ret
              exact ⟨rfl, HB12.out⟩
            | true =>
              have z0 : w11.cell? ⟨w2.heap.size, 0, none⟩ = some (.int .i64 U) := KC11.out.cell 0
              have z1 : w11.cell? ⟨w2.heap.size, 1, none⟩ = some (.int .i64 Q) := KC11.out.cell 1
              have z2 : w11.cell? ⟨w2.heap.size, 2, none⟩ = some (.int .i64 V) := KC11.out.cell 2
              go_wp2_with fail
              refine (specLeUnder_any w11 w11.heap.size gz 0 (m + 1) kz lz Aa na ca la Ab nb cb lb (Nat.le_refl _) (OwnC.reads Rz11.out) (by omega) (OwnT.reads Ra11.out) (by omega) (OwnT.reads Rb11.out) (by omega)).mono ?_
              rintro e w12 ⟨rfl, hb⟩
              clear z0 z1 z2
              have HB12 := Lib.hid (HB11.out.trans (hb.mono HB11.out.size))
              have Rl12 := Lib.hid (own_below' Rl11.out hb)
              have Ra12 := Lib.hid (own_below' Ra11.out hb)
              have Rb12 := Lib.hid (own_below' Rb11.out hb)
              have Rz12 := Lib.hid (own_below' Rz11.out hb)
              have Rt12 := Lib.hid (own_below' Rt11.out hb)
              have KC12 := Lib.hid (Blk.below KC11.out hb KC11.out.lt)
              clear hb Rl11 Ra11 Rb11 Rz11 Rt11 HB11 KC11
              rw [HM.out]
              have z0 : w12.cell? ⟨w2.heap.size, 0, none⟩ = some (.int .i64 U) := KC12.out.cell 0
              have z1 : w12.cell? ⟨w2.heap.size, 1, none⟩ = some (.int .i64 Q) := KC12.out.cell 1
              have z2 : w12.cell? ⟨w2.heap.size, 2, none⟩ = some (.int .i64 V) := KC12.out.cell 2
              go_wp2
              go_ret
              exact ⟨rfl, HB12.out⟩
end Go.Proofs.YtgebjnoicgmdoaaGreatDoor
