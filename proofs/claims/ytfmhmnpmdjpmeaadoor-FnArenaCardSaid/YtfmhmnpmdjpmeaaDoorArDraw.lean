/- Plain facts on norms: what a norm holds, that it is the only one with its values, and how values, joins and successors go. -/
/- Plain facts on norms: values, comparison, joins and successors of norms. -/
/- NormUp of the program and of the reference model. -/
/- The program's norm, read out of its map. -/
/- The cursor draws an arena: arena. -/
import Derived.Test.YtfmhmnpmdjpmeaaDoorNMath
import Derived.Test.YtfmhmnpmdjpmeaaDoorCsMath3
import Derived.Deep.RegionHeld3
import Derived.Test.YtfmhmnpmdjpmeaaDoorCls
import Derived.Test.YtfmhmnpmdjpmeaaDoorJoin
import Derived.Deep.AppendLies
import Derived.Maps.RangeWalk
import Derived.Maps.OwnSet
import Derived.Test.YtfmhmnpmdjpmeaaDoorApS

namespace Go.Proofs.YtfmhmnpmdjpmeaaDoor.Nm

theorem getD_of_mem {l : List At} {a : At} (h : a ∈ l) : ∃ k, k < l.length ∧ l.getD k (0, 0) = a := by
  obtain ⟨k, hk, e⟩ := List.mem_iff_getElem.1 h
  exact ⟨k, hk, by rw [List.getD_eq_getElem?_getD, List.getElem?_eq_getElem hk]; exact e⟩
/-- the norm's rule on its number, atom by atom -/
def NumOk (l : List At) : Prop := ∀ x y p, (-1, x) ∈ l → (p, y) ∈ l → p ≠ -1 → y < x
theorem Ok.num {l : List At} (h : Ok l) : NumOk l := by
  intro x y p hx hy hp
  obtain ⟨i, hi, ei⟩ := getD_of_mem hx
  obtain ⟨j, hj, ej⟩ := getD_of_mem hy
  have hi0 : i = 0 := by
    rcases Nat.eq_zero_or_pos i with e | e
    · exact e
    · have h1 := h.2.2.1.lt e hi
      have h2 := (atOk_iff _).1 (h.2.1 0 (by omega))
      rw [ei] at h1; simp only at h1; omega
  subst hi0
  have hj0 : j ≠ 0 := by
    intro e; subst e
    have e := ei.symm.trans ej
    injection e with e1 e2
    exact hp e1.symm
  have h1 := h.2.2.2 (by rw [ei]) (j - 1) (by simp; omega)
  rw [getD_drop1, ei, show j - 1 + 1 = j by omega, ej] at h1
  exact h1
end Go.Proofs.YtfmhmnpmdjpmeaaDoor.Nm

namespace Go.Proofs.YtfmhmnpmdjpmeaaDoor.Nm

/-- comparison, atom by atom -/
def Le (a b : List At) : Prop := ∀ x ∈ a, ∃ y ∈ b, (x.1 = -1 ∨ x.1 = y.1) ∧ x.2 ≤ y.2
theorem le_refl (a : List At) : Le a a := fun x hx => ⟨x, hx, .inr rfl, by omega⟩
end Go.Proofs.YtfmhmnpmdjpmeaaDoor.Nm

namespace Go.Proofs.YtfmhmnpmdjpmeaaDoor
open Go.RowKit

theorem own_put {w : World} {base g n c size : Nat} {e : TypeId} {xs : List Value} (h : w.ownsRow base e size (.slice (some ⟨g, 0, none⟩) n c) n xs) (i : Nat) (u : Value) :
    (w.setCell ⟨g, i, none⟩ u).ownsRow base e size (.slice (some ⟨g, 0, none⟩) n c) n (xs.set i u) := by
  refine ⟨by rw [List.length_set]; exact h.1, ?_⟩
  rcases h.2 with ⟨h0, _⟩ | ⟨g', cap, cur, hv, hb, hgg, h1, h2, h3, h4⟩
  · cases h0
  · injection hv with e1 e2 e3
    injection e1 with e1
    injection e1 with e1
    subst e1; subst e3
    refine .inr ⟨g, c, _, rfl, hb, Blk.put (w := w) (t := e) hgg i u, h1, h2, by simp [h3], ?_⟩
    rw [Array.toList_setIfInBounds, List.take_set, h4]
end Go.Proofs.YtfmhmnpmdjpmeaaDoor

namespace Go.Proofs.YtfmhmnpmdjpmeaaDoor
open Go.RowKit Go.Maps

theorem six {k : Nat} (h : k < 6) : k = 0 ∨ k = 1 ∨ k = 2 ∨ k = 3 ∨ k = 4 ∨ k = 5 := by omega
end Go.Proofs.YtfmhmnpmdjpmeaaDoor

namespace Go.Proofs.YtfmhmnpmdjpmeaaDoor
open Go.RowKit

theorem size6_any (w : World) (bc : Nat) (A : Option Addr) (n c K : Nat) (hc : Cur w bc A n c K) (hK : K ≤ 900000) (hn : n ≤ 1048576) :
    Calls Tryd.prog 105 #[.pointer (some ⟨bc, 0, none⟩), .int .i64 6] w fun e w' => ∃ r : Nat, e = .returned (.int .i64 r) ∧ r ≤ 6 ∧ Cur w' bc A n c (K + 1) ∧ Kp bc w w' := by
  have hcast : (n : Int) / 8 = ((n / 8 : Nat) : Int) := by omega
  have hq : n / 8 ≤ 131072 := by omega
  generalize n / 8 = q at hcast hq
  obtain ⟨hby, p, s, hblk, hp, hs⟩ := hc
  have k0 : w.cell? ⟨bc, 0, none⟩ = some (.slice A n c) := hblk.cell 0
  have HC : Hid (Cur w bc A n c K) := ⟨hby, p, s, hblk, hp, hs⟩
  clear hby hblk hp hs
  by_cases h8 : ¬ (1 + q < 6)
  · have h8' : ¬ (1 + (q : Int) < 6) := by omega
    go_enter Tryd.func105, Tryd.ntmps105
    go_wp2_with fail
    refine (pick_any w bc A n c K 7 HC.out (by omega) (by omega) hn).mono ?_
    rintro e w1 ⟨r, rfl, hr, hc1, hk1⟩
    go_wp2
    go_ret
    exact ⟨r, rfl, by omega, hc1, hk1⟩
  · have h8' : 1 + (q : Int) < 6 := by omega
    have hp := pick_any w bc A n c K (q + 2) HC.out (by omega) (by omega) hn
    have e1 : ((q + 2 : Nat) : Int) = 1 + (q : Int) + 1 := by omega
    rw [e1] at hp
    have HP := Lib.hid hp
    clear hp e1
    go_enter Tryd.func105, Tryd.ntmps105
    go_wp2_with fail
    refine HP.out.mono ?_
    rintro e w1 ⟨r, rfl, hr, hc1, hk1⟩
    go_wp2
    go_ret
    exact ⟨r, rfl, by omega, hc1, hk1⟩
theorem own_putN {w : World} {base g n c k : Nat} {l : List Nd} (h : OwnN w base (some ⟨g, 0, none⟩) n c l) (hk : k < n) (v : Int) : ∃ l', OwnN (w.setCell ⟨g, k * 4 + 3, none⟩ (.int .i64 v)) base (some ⟨g, 0, none⟩) n c l' := by
  have hl : l.length = n := (OwnN.reads h).1
  have h2 := own_put h (k * 4 + 3) (.int .i64 v)
  refine ⟨l.set k ((l.getD k nd0).1, (l.getD k nd0).2.1, (l.getD k nd0).2.2.1, v), ?_⟩
  have he : nodCells (l.set k ((l.getD k nd0).1, (l.getD k nd0).2.1, (l.getD k nd0).2.2.1, v)) = (nodCells l).set (k * 4 + 3) (.int .i64 v) := by
    clear h h2
    induction l generalizing k n with
    | nil => simp at hl; omega
    | cons t r ih =>
      match k with
      | 0 => rfl
      | k + 1 =>
        rw [nodCells_cons]
        have := ih (k := k) (n := n - 1) (by omega) (by simp at hl; omega)
        simp only [List.set_cons_succ, nodCells_cons, List.getD_cons_succ]
        rw [this, show (k + 1) * 4 = k * 4 + 3 + 1 by omega, List.set_cons_succ]
  show World.ownsRow _ _ _ _ _ _ _
  rw [he]
  exact h2
theorem put_some {ns : List Nd} {l : List (Int × Int)} (h : putOk ns l = true) (hl : 1 ≤ l.length) : 1 ≤ (putNs ns l).length ∧ (putNs ns l).length ≤ 200 := by
  rw [(putOk_yes h).1]
  unfold putOk at h
  rw [Bool.and_eq_true, decide_eq_true_eq] at h
  refine ⟨?_, h.2⟩
  obtain ⟨k, hk⟩ : ∃ k, l.length = k + 1 := ⟨l.length - 1, by omega⟩
  rw [hk]
  have := addNd_idx (putTo ns l k).1 (putNd (l.getD k (0, 0)) (putTo ns l k).2)
  show 1 ≤ (addNd _ _).length
  omega
theorem nod_some {w : World} {base n c : Nat} {A : Option Addr} {xs : List Value} (h : w.ownsRow base 72 4 (.slice A n c) n xs) (hn : 1 ≤ n) : ∃ g, A = some ⟨g, 0, none⟩ := by
  rcases h.2 with ⟨_, h0⟩ | ⟨g, cap, _, h0, _⟩
  · omega
  · injection h0 with e1
    exact ⟨g, e1⟩
theorem own_spotN {w : World} {base g n c j : Nat} {l : List Nd} (h : OwnN w base (some ⟨g, 0, none⟩) n c l) (hj : j < n * 4) : (∃ v, w.cell? ⟨g, j, none⟩ = some v) ∧ w.frozen? ⟨g, j, none⟩ = false := by
  rcases h.2 with ⟨h0, _⟩ | ⟨g', cap, cur, hv, hb, hgg, h1, h2, h3, h4⟩
  · cases h0
  · injection hv with e1 e2 e3
    injection e1 with e1
    injection e1 with e1
    subst e1; subst e3
    have hblk : Blk w g 72 cur := hgg
    refine ⟨⟨cur[j]'(by rw [h3]; omega), ?_⟩, hblk.thawed j⟩
    rw [hblk.cell, Array.getElem?_eq_getElem]
theorem own_nod1 (w : World) (base : Nat) (hb : base ≤ w.heap.size) (o u a b : Int) : OwnN (w.alloc (.cells #[.int .i64 o, .int .i64 u, .int .i64 a, .int .i64 b] 72)) base (some ⟨w.heap.size, 0, none⟩) 1 1 [(o, u, a, b)] :=
  ⟨rfl, .inr ⟨w.heap.size, 1, _, rfl, hb, Blk.made w 72 _, Nat.le_refl _, by simp [maxLen], rfl, rfl⟩⟩
theorem grownBy_set (W : World) (b i : Nat) (v : Value) : W.grownBy (W.setCell ⟨b, i, none⟩ v) (some b) :=
  ⟨rfl, rfl, rfl, ((Below.refl 0 W).setCell (p := ⟨b, i, none⟩) (Nat.zero_le _) v).size, fun k _ hk => Below.heap_setCell _ _ _ k (fun e => hk (by rw [e]))⟩
def lenV : Value → Nat
  | .slice _ n _ => n
  | _ => 0
theorem two_at {w : World} {h r : Nat} {x y : Int} (hb : Blk w h 3 #[.int .i64 x, .int .i64 y]) (hr : r < 2) : ∃ z : Int, w.cell? ⟨h, r, none⟩ = some (.int .i64 z) := by
  have hc := hb.cell r
  obtain rfl | rfl : r = 0 ∨ r = 1 := by omega
  · exact ⟨x, hc⟩
  · exact ⟨y, hc⟩
/-- what arena gives back -/
def ArOut (bc : Nat) (A : Option Addr) (n c K : Nat) (w : World) (e : Ending) (w' : World) : Prop :=
  ∃ (g cap m : Nat) (l : List Nd), e = .returned (.slice (some ⟨g, 0, none⟩) m cap) ∧ m ≤ 300 ∧ OwnN w' w.heap.size (some ⟨g, 0, none⟩) m cap l ∧ Cur w' bc A n c (K + 800) ∧ Kp bc w w'

set_option maxRecDepth 100000 in
set_option maxHeartbeats 8000000 in
theorem arena_any (w : World) (bc : Nat) (A : Option Addr) (n c K : Nat) (hc : Cur w bc A n c K) (hK : K ≤ 100000) (hn : n ≤ 1048576) :
    Calls Tryd.prog 74 #[.pointer (some ⟨bc, 0, none⟩)] w (ArOut bc A n c K w) := by
  obtain ⟨i0, hi, hz0, hz1, hz2⟩ := info_parts info_nod
  have hlt := hc.lt
  have HE0 : Hid (OwnN (w.alloc (.cells #[] 72)) w.heap.size (some ⟨w.heap.size, 0, none⟩) 0 0 []) := World.ownsRow_made w #[] 0 (Nat.le_refl _) (by simp [maxLen]) (by simp)
  have hca := hc.alloc (.cells #[] 72)
  have hka : Kp bc w (w.alloc (.cells #[] 72)) := (Kp.refl bc w).alloc _
  obtain ⟨w0, hw0⟩ : ∃ X, w.alloc (.cells #[] 72) = X := ⟨_, rfl⟩
  rw [hw0] at HE0 hca hka
  have HC0 := Lib.hid hca
  have HK0 := Lib.hid hka
  clear hca hka hc
  go_enter Tryd.func74, Tryd.ntmps74
  go_wp2_with fail
  refine (size6_any w0 bc A n c K HC0.out (by omega) hn).mono ?_
  rintro e w1 ⟨j0, rfl, hj0, hc1, hk1⟩
  have HE1 : Hid (OwnN w1 w.heap.size (some ⟨w.heap.size, 0, none⟩) 0 0 []) := Kp.own HE0.out hk1 hlt
  have HC1 := Lib.hid hc1
  have HK1 := Lib.hid (HK0.out.trans hk1)
  clear hc1 hk1 HE0 HC0 HK0 hw0
  go_wp2
  go_loopw [3, 4] (fun v j wr => ∃ (q g cap m : Nat) (l : List Nd), q ≤ j0 ∧ j = .int .i64 q ∧ v = .slice (some ⟨g, 0, none⟩) m cap ∧ m ≤ 200 ∧ Hid (OwnN wr w.heap.size (some ⟨g, 0, none⟩) m cap l) ∧ Hid (Cur wr bc A n c (K + 1 + (j0 - q) * 88)) ∧ Hid (Kp bc w wr)) (fun _ j _ => (intOf j).toNat)
  case atStart => exact ⟨j0, w.heap.size, 0, 0, [], Nat.le_refl _, rfl, rfl, by omega, HE1.out, HC1.out.more (by omega), HK1.out⟩
  case round =>
    clear HE1 HC1 HK1
    obtain ⟨q, g, cap, m, l, hq, rfl, rfl, hm, HO, HC, HK⟩ := hrel
    by_cases hq0 : 0 < q
    · have hd : decide ((0 : Int) < q) = true := decide_eq_true (by omega)
      have hKb : (j0 - q) * 88 ≤ 528 := by omega
      have hcb : cost 3 = 88 := rfl
      go_wp2_with fail
      refine (level_any bc A n c hn 3 wr (K + 1 + (j0 - q) * 88) (by omega) HC.out (by rw [hcb]; omega)).mono ?_
      rintro e w2 ⟨g2, cap2, l2, rfl, hl1, hl24, ho2, hc2, hk2⟩
      rw [hcb] at hc2
      have HO2 : Hid (OwnN w2 w.heap.size (some ⟨g, 0, none⟩) m cap l) := Kp.own HO.out hk2 hlt
      have HK2 := Lib.hid (HK.out.trans hk2)
      have hT := OwnT.reads ho2
      have hs2 : w.heap.size ≤ w2.heap.size := HK2.out.size
      have HT := Lib.hid hT
      obtain ⟨L, hL⟩ : ∃ L, l2.length = L := ⟨_, rfl⟩
      have HC2 := Lib.hid hc2
      rw [hL] at HT hl1 hl24 ⊢
      have HLL := Lib.hid hL
      clear ho2 hc2 hk2 HO HC HK hT hcb hL
      go_wp2_with fail
      refine (specAPut_any w2 w2.heap.size ⟨g, 0, none⟩ m cap l w2.heap.size (some ⟨g2, 0, none⟩) L cap2 l2 (Nat.le_refl _) (OwnN.reads HO2.out) (by omega) (Nat.le_refl _) HT.out (by omega)).mono ?_
      rintro e w3 ⟨A3, c3, rfl, ho3, hb3⟩
      have HO3 : Hid (OwnN w3 w.heap.size (some ⟨g, 0, none⟩) m cap l) := own_below' HO2.out hb3
      have HC3 : Hid (Cur w3 bc A n c (K + 1 + (j0 - (q - 1)) * 88)) := (HC2.out.below hb3).more (by omega)
      have HK3 : Hid (Kp bc w w3) := HK2.out.trans (Kp.of_below hb3)
      have hoN := own_base ho3 hs2
      obtain ⟨N, hN⟩ : ∃ N, putNs l l2 = N := ⟨_, rfl⟩
      obtain ⟨M, hM⟩ : ∃ M, N.length = M := ⟨_, rfl⟩
      rw [hN, hM] at hoN
      rw [hN, hM]
      have HN := Lib.hid hN
      have HM := Lib.hid hM
      have HON := Lib.hid hoN
      clear ho3 hb3 HO2 HC2 HK2 HT hN hM hoN
      have hq1 : ((q : Int) - 1) = ((q - 1 : Nat) : Int) := by omega
      obtain ⟨q1, hq1e⟩ : ∃ q1, q - 1 = q1 := ⟨_, rfl⟩
      rw [hq1e] at hq1 HC3
      have hqq : q1 ≤ j0 := by omega
      have hqm : q1 < q := by omega
      cases hok : putOk l l2 with
      | false =>
        clear hok hq1e
        go_wp2
        go_roundw
        case rel => exact ⟨q1, g, cap, m, l, hqq, by rw [← hq1], rfl, hm, HO3.out, HC3.out, HK3.out⟩
        case measure => simp [intOf]; omega
      | true =>
        obtain ⟨p1, p2⟩ := put_some hok (by rw [HLL.out]; exact hl1)
        rw [HN.out, HM.out] at p1 p2
        obtain ⟨g3, rfl⟩ := nod_some HON.out p1
        clear hok hq1e
        go_wp2
        go_roundw
        case rel => exact ⟨q1, g3, c3, M, N, hqq, by rw [← hq1], rfl, p2, HON.out, HC3.out, HK3.out⟩
        case measure => simp [intOf]; omega
    · obtain rfl : q = 0 := by omega
      have HC4 : Hid (Cur wr bc A n c (K + 540)) := HC.out.more (by omega)
      clear HC
      go_wp2_with fail
      refine (pick_any wr bc A n c (K + 540) 12 HC4.out (by omega) (by omega) hn).mono ?_
      rintro e w2 ⟨r, rfl, hr, hc2, hk2⟩
      have HO2 : Hid (OwnN w2 w.heap.size (some ⟨g, 0, none⟩) m cap l) := Kp.own HO.out hk2 hlt
      have HK2 := Lib.hid (HK.out.trans hk2)
      have HC2 := Lib.hid hc2
      have hs2 : w.heap.size ≤ w2.heap.size := HK2.out.size
      clear hc2 hk2 HO HC4 HK
      have hr5 : r = 0 ∨ r = 1 ∨ r = 2 ∨ r = 3 ∨ 4 ≤ r := by omega
      rcases hr5 with rfl | rfl | rfl | rfl | h4
      · clear hr
        go_wp2_with fail
        refine (pick_any w2 bc A n c (K + 540 + 1) 6 HC2.out (by omega) (by omega) hn).mono ?_
        rintro e w3 ⟨p1, rfl, hp1, hc3, hk3⟩
        have HO3 : Hid (OwnN w3 w.heap.size (some ⟨g, 0, none⟩) m cap l) := Kp.own HO2.out hk3 hlt
        have HK3 := Lib.hid (HK2.out.trans hk3)
        have HC3 := Lib.hid hc3
        clear hc3 hk3 HO2 HC2 HK2
        go_wp2_with fail
        refine (pick_any w3 bc A n c (K + 540 + 1 + 1) 3 HC3.out (by omega) (by omega) hn).mono ?_
        rintro e w4 ⟨p2, rfl, hp2, hc4, hk4⟩
        have HO4 : Hid (OwnN w4 w.heap.size (some ⟨g, 0, none⟩) m cap l) := Kp.own HO3.out hk4 hlt
        have HK4 := Lib.hid (HK3.out.trans hk4)
        have HC4 := Lib.hid hc4
        clear hc4 hk4 HO3 HC3 HK3
        go_wp2_with fail
        refine (pick_any w4 bc A n c (K + 540 + 1 + 1 + 1) 4 HC4.out (by omega) (by omega) hn).mono ?_
        rintro e w5 ⟨p3, rfl, hp3, hc5, hk5⟩
        have HO5 : Hid (OwnN w5 w.heap.size (some ⟨g, 0, none⟩) m cap l) := Kp.own HO4.out hk5 hlt
        have HK5 := Lib.hid (HK4.out.trans hk5)
        have HC5 := Lib.hid hc5
        clear hc5 hk5 HO4 HC4 HK4
        go_wp2_with fail
        refine (pick_any w5 bc A n c (K + 540 + 1 + 1 + 1 + 1) 4 HC5.out (by omega) (by omega) hn).mono ?_
        rintro e w6 ⟨p4, rfl, hp4, hc6, hk6⟩
        have HO6 : Hid (OwnN w6 w.heap.size (some ⟨g, 0, none⟩) m cap l) := Kp.own HO5.out hk6 hlt
        have HK6 := Lib.hid (HK5.out.trans hk6)
        have HC6 := Lib.hid hc6
        clear hc6 hk6 HO5 HC5 HK5
        have hown := HO6.out
        have hs6 : w.heap.size ≤ w6.heap.size := HK6.out.size
        go_wp2_with (at_builtin; refine wpList_append_own _ rfl (.tmp 30) (.tmp 42) 26 rfl w.heap.size 72 i0 (.agg #[.int .i64 0, .int .i64 0, .int .i64 0, .int .i64 0]) 4 32 Tryd.underlying26 hi hz0 hz1 hz2 rfl (by decide) (.slice (some ⟨g, 0, none⟩) m cap) m (nodCells l) rfl (World.ownsRow.alloc hown _) ⟨w6.heap.size, 0, none⟩ 1 1 (nodCells [((p1 : Int), (p2 : Int), (p3 : Int) - 1, (p4 : Int) - 1)]) rfl rfl (nod_blk (Blk.made _ _ _)) (nodCells_one _) (by unfold maxLen; omega) (by omega) (by simp; omega) ?_; intro v' w9 hown' hgrow _; obtain ⟨g9, c9, rfl⟩ := nod_more hown')
        have hown9 := hown'
        have HC9 : Hid (Cur w9 bc A n c (K + 800)) := ((HC6.out.alloc _).grown hgrow (fun k h => Nat.lt_of_lt_of_le hlt (hown.lt k h).1)).more (by omega)
        have HK9 : Hid (Kp bc w w9) := (HK6.out.alloc _).more hgrow (fun k h => (hown.lt k h).1)
        go_ret
        exact ⟨g9, c9, m + 1, _, rfl, by omega, nod_snoc hown9, HC9.out, HK9.out⟩
      · clear hr
        by_cases hm0 : m = 0
        · subst hm0
          go_wp2
          go_ret
          exact ⟨g, cap, 0, l, rfl, by omega, HO2.out, HC2.out.more (by omega), HK2.out⟩
        · have hm1 : (0 : Int) < m := by omega
          go_wp2_with fail
          refine (pick_any w2 bc A n c (K + 540 + 1) m HC2.out (by omega) (by omega) hn).mono ?_
          rintro e w3 ⟨r1, rfl, hr1, hc3, hk3⟩
          have HO3 : Hid (OwnN w3 w.heap.size (some ⟨g, 0, none⟩) m cap l) := Kp.own HO2.out hk3 hlt
          have HK3 := Lib.hid (HK2.out.trans hk3)
          have HC3 := Lib.hid hc3
          clear hc3 hk3 HO2 HC2 HK2
          have hr1m : r1 < m := by omega
          have hr1i : (r1 : Int) < m := by omega
          go_wp2_with fail
          refine (raw_any w3 bc A n c (K + 540 + 1 + 1) HC3.out (by omega) hn).mono ?_
          rintro e w4 ⟨x, rfl, hc4, hk4⟩
          have HO4 : Hid (OwnN w4 w.heap.size (some ⟨g, 0, none⟩) m cap l) := Kp.own HO3.out hk4 hlt
          have HK4 := Lib.hid (HK3.out.trans hk4)
          have HC4 := Lib.hid hc4
          clear hc4 hk4 HO3 HC3 HK3 hr1
          go_wp2_with fail
          refine (pick_any w4 bc A n c (K + 540 + 1 + 1 + 2) 3 HC4.out (by omega) (by omega) hn).mono ?_
          rintro e w5 ⟨y, rfl, hy, hc5, hk5⟩
          have HO5 : Hid (OwnN w5 w.heap.size (some ⟨g, 0, none⟩) m cap l) := Kp.own HO4.out hk5 hlt
          have HK5 := Lib.hid (HK4.out.trans hk5)
          have HC5 := Lib.hid hc5
          clear hc5 hk5 HO4 HC4 HK4
          obtain ⟨W6, hW6⟩ : ∃ X, w5.alloc (.cells #[.int .i64 x, .int .i64 (y : Int)] 3) = X := ⟨_, rfl⟩
          have hb6 : Below w5.heap.size w5 W6 := by rw [← hW6]; exact (Below.refl _ _).alloc (Nat.le_refl _) _
          have hbl : Blk W6 w5.heap.size 3 #[.int .i64 x, .int .i64 (y : Int)] := by rw [← hW6]; exact Blk.made _ _ _
          have hs5 : w.heap.size ≤ w5.heap.size := HK5.out.size
          have HO6 : Hid (OwnN W6 w.heap.size (some ⟨g, 0, none⟩) m cap l) := own_below' HO5.out hb6
          have HK6 : Hid (Kp bc w W6) := HK5.out.trans (Kp.of_below hb6)
          have HC6 : Hid (Cur W6 bc A n c (K + 540 + 1 + 1 + 2 + 1)) := HC5.out.below hb6
          have HBL := Lib.hid hbl
          clear hb6 hbl HO5 HK5 HC5 hy
          go_wp2_with fail
          refine (pick_any W6 bc A n c (K + 540 + 1 + 1 + 2 + 1) 2 HC6.out (by omega) (by omega) hn).mono ?_
          rintro e w7 ⟨r2, rfl, hr2, hc7, hk7⟩
          have hr2' : r2 < 2 := by omega
          have hr2i : (r2 : Int) < 2 := by omega
          have hbl7 := Kp.blk HBL.out hk7 (by omega)
          obtain ⟨zz, hzz⟩ := two_at hbl7 hr2'
          have ho7 : OwnN w7 w.heap.size (some ⟨g, 0, none⟩) m cap l := Kp.own HO6.out hk7 hlt
          obtain ⟨⟨v0, hv0⟩, hfz⟩ := own_spotN (j := r1 * 4 + 3) ho7 (by omega)
          obtain ⟨l', ho8⟩ := own_putN ho7 hr1m zz
          have HO8 := Lib.hid ho8
          have HK8 : Hid (Kp bc w (w7.setCell ⟨g, r1 * 4 + 3, none⟩ (.int .i64 zz))) := (HK6.out.trans hk7).more (grownBy_set w7 g (r1 * 4 + 3) _) (fun k h => by injection h with h; subst h; exact (ho7.lt g rfl).1)
          have HC8 : Hid (Cur (w7.setCell ⟨g, r1 * 4 + 3, none⟩ (.int .i64 zz)) bc A n c (K + 800)) := (hc7.grown (grownBy_set w7 g (r1 * 4 + 3) _) (fun k h => by injection h with h; subst h; have := (ho7.lt g rfl).1; omega)).more (by omega)
          clear hc7 hk7 hbl7 ho7 ho8 HO6 HK6 HC6 HBL hW6 hr2
          go_wp2
          go_ret
          exact ⟨g, cap, m, l', rfl, by omega, HO8.out, HC8.out, HK8.out⟩
      · clear hr HO2
        have HO3 : Hid (OwnN (w2.alloc (.cells #[.int .i64 0, .int .i64 0, .int .i64 (-1), .int .i64 (-1)] 72)) w.heap.size (some ⟨w2.heap.size, 0, none⟩) 1 1 [(0, 0, -1, -1)]) := own_nod1 w2 _ hs2 0 0 (-1) (-1)
        have HC3 : Hid (Cur (w2.alloc (.cells #[.int .i64 0, .int .i64 0, .int .i64 (-1), .int .i64 (-1)] 72)) bc A n c (K + 540 + 1)) := HC2.out.alloc _
        have HK3 : Hid (Kp bc w (w2.alloc (.cells #[.int .i64 0, .int .i64 0, .int .i64 (-1), .int .i64 (-1)] 72))) := HK2.out.alloc _
        clear HC2 HK2
        go_wp2
        go_loopw [3] (fun v wr => ∃ (g cap m : Nat) (l : List Nd), v = .slice (some ⟨g, 0, none⟩) m cap ∧ 1 ≤ m ∧ m ≤ 201 ∧ Hid (OwnN wr w.heap.size (some ⟨g, 0, none⟩) m cap l) ∧ Hid (Cur wr bc A n c (K + 540 + m)) ∧ Hid (Kp bc w wr)) (fun v _ => 201 - lenV v)
        case atStart => exact ⟨w2.heap.size, 1, 1, _, rfl, by omega, by omega, HO3.out, HC3.out, HK3.out⟩
        case round =>
          clear HO3 HC3 HK3
          obtain ⟨g, cap, m, l, rfl, hm1, hm2, HO3, HC3, HK3⟩ := hrel
          go_wp2_with fail
          refine (pick_any wr bc A n c (K + 540 + m) 2 HC3.out (by omega) (by omega) hn).mono ?_
          rintro e w4 ⟨r2, rfl, hr2, hc4, hk4⟩
          have HO4 : Hid (OwnN w4 w.heap.size (some ⟨g, 0, none⟩) m cap l) := Kp.own HO3.out hk4 hlt
          have HK4 := Lib.hid (HK3.out.trans hk4)
          have HC4 := Lib.hid hc4
          clear hc4 hk4 HO3 HC3 HK3
          have hs4 : w.heap.size ≤ w4.heap.size := HK4.out.size
          by_cases hlt2 : (m : Int) < 200 + (r2 : Int)
          · have hown := HO4.out
            go_wp2_with (at_builtin; refine wpList_append_own _ rfl (.tmp 75) (.tmp 80) 26 rfl w.heap.size 72 i0 (.agg #[.int .i64 0, .int .i64 0, .int .i64 0, .int .i64 0]) 4 32 Tryd.underlying26 hi hz0 hz1 hz2 rfl (by decide) (.slice (some ⟨g, 0, none⟩) m cap) m (nodCells l) rfl (World.ownsRow.alloc hown _) ⟨w4.heap.size, 0, none⟩ 1 1 (nodCells [((1 : Int), (0 : Int), (-1 : Int), (m : Int) - 1)]) rfl rfl (nod_blk (Blk.made _ _ _)) (nodCells_one _) (by unfold maxLen; omega) (by omega) (by simp; omega) ?_; intro v' w9 hown' hgrow _; obtain ⟨g9, c9, rfl⟩ := nod_more hown')
            have HO9 : Hid (OwnN w9 w.heap.size (some ⟨g9, 0, none⟩) (m + 1) c9 (l ++ [((1 : Int), (0 : Int), (-1 : Int), (m : Int) - 1)])) := nod_snoc hown'
            have HC9 : Hid (Cur w9 bc A n c (K + 540 + (m + 1))) := ((HC4.out.alloc _).grown hgrow (fun k h => Nat.lt_of_lt_of_le hlt (hown.lt k h).1)).more (by omega)
            have HK9 : Hid (Kp bc w w9) := (HK4.out.alloc _).more hgrow (fun k h => (hown.lt k h).1)
            clear hown hown' hgrow HO4 HC4 HK4
            go_wp2
            go_roundw
            case rel => exact ⟨g9, c9, m + 1, _, rfl, by omega, by omega, HO9.out, HC9.out, HK9.out⟩
            case measure => simp [lenV]; omega
          · go_wp2
            go_ret
            exact ⟨g, cap, m, l, rfl, by omega, HO4.out, HC4.out.more (by omega), HK4.out⟩
      · clear hr HO2
        have HO3 : Hid (OwnN (w2.alloc (.cells #[.int .i64 4, .int .i64 0, .int .i64 (-1), .int .i64 (-1)] 72)) w.heap.size (some ⟨w2.heap.size, 0, none⟩) 1 1 [(4, 0, -1, -1)]) := own_nod1 w2 _ hs2 4 0 (-1) (-1)
        have HC3 : Hid (Cur (w2.alloc (.cells #[.int .i64 4, .int .i64 0, .int .i64 (-1), .int .i64 (-1)] 72)) bc A n c (K + 800)) := (HC2.out.alloc _).more (by omega)
        have HK3 : Hid (Kp bc w (w2.alloc (.cells #[.int .i64 4, .int .i64 0, .int .i64 (-1), .int .i64 (-1)] 72))) := HK2.out.alloc _
        clear HC2 HK2
        go_wp2
        go_loopw [3, 8] (fun v i wr => ∃ (k g cap m : Nat) (l : List Nd), k ≤ 30 ∧ i = .int .i64 k ∧ v = .slice (some ⟨g, 0, none⟩) m cap ∧ 1 ≤ m ∧ m ≤ k + 1 ∧ Hid (OwnN wr w.heap.size (some ⟨g, 0, none⟩) m cap l) ∧ Hid (Cur wr bc A n c (K + 800)) ∧ Hid (Kp bc w wr)) (fun _ i _ => 30 - (intOf i).toNat)
        case atStart => exact ⟨0, w2.heap.size, 1, 1, _, by omega, rfl, rfl, by omega, by omega, HO3.out, HC3.out, HK3.out⟩
        case round =>
          clear HO3 HC3 HK3
          obtain ⟨k, g, cap, m, l, hk, rfl, rfl, hm1, hm2, HO4, HC4, HK4⟩ := hrel
          have hs4 : w.heap.size ≤ wr.heap.size := HK4.out.size
          by_cases hlt2 : k < 30
          · have hown := HO4.out
            go_wp2_with (at_builtin; refine wpList_append_own _ rfl (.tmp 90) (.tmp 98) 26 rfl w.heap.size 72 i0 (.agg #[.int .i64 0, .int .i64 0, .int .i64 0, .int .i64 0]) 4 32 Tryd.underlying26 hi hz0 hz1 hz2 rfl (by decide) (.slice (some ⟨g, 0, none⟩) m cap) m (nodCells l) rfl (World.ownsRow.alloc hown _) ⟨wr.heap.size, 0, none⟩ 1 1 (nodCells [((2 : Int), (0 : Int), (m : Int) - 1, (m : Int) - 1)]) rfl rfl (nod_blk (Blk.made _ _ _)) (nodCells_one _) (by unfold maxLen; omega) (by omega) (by simp; omega) ?_; intro v' w9 hown' hgrow _; obtain ⟨g9, c9, rfl⟩ := nod_more hown')
            have HO9 : Hid (OwnN w9 w.heap.size (some ⟨g9, 0, none⟩) (m + 1) c9 (l ++ [((2 : Int), (0 : Int), (m : Int) - 1, (m : Int) - 1)])) := nod_snoc hown'
            have HC9 : Hid (Cur w9 bc A n c (K + 800)) := ((HC4.out.alloc _).grown hgrow (fun k h => Nat.lt_of_lt_of_le hlt (hown.lt k h).1)).more (by omega)
            have HK9 : Hid (Kp bc w w9) := (HK4.out.alloc _).more hgrow (fun k h => (hown.lt k h).1)
            clear hown hown' hgrow HO4 HC4 HK4
            go_wp2
            go_roundw
            case rel => exact ⟨k + 1, g9, c9, m + 1, _, by omega, by go_num, rfl, by omega, by omega, HO9.out, HC9.out, HK9.out⟩
            case measure => simp [intOf]; omega
          · have hlt3 : ¬ (k : Int) < 30 := by omega
            go_wp2
            go_ret
            exact ⟨g, cap, m, l, rfl, by omega, HO4.out, HC4.out, HK4.out⟩
      · have n0 : ((r : Int) == 0) = false := by simp; omega
        have n1 : ((r : Int) == 1) = false := by simp; omega
        have n2 : ((r : Int) == 2) = false := by simp; omega
        have n3 : ((r : Int) == 3) = false := by simp; omega
        go_wp2
        go_ret
        exact ⟨g, cap, m, l, rfl, by omega, HO2.out, HC2.out.more (by omega), HK2.out⟩
end Go.Proofs.YtfmhmnpmdjpmeaaDoor
