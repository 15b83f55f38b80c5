/- The draw of ConsSubst: a list of constraints and levels for its parameters. -/
/- Inside a fence (the body of a range over a function): an operation as everywhere; a region that draws its order, by an invariant. -/
import Derived.Test.YtgebjnoicgmdoaaDoorCsMath
import Derived.Test.YtgebjnoicgmdoaaDoorCons
import Derived.Test.YtgebjnoicgmdoaaDoorSgHas
import Derived.OrdersIn
import Derived.RangeFuncCalls
import Derived.OwnWalkIn
import Derived.Laws.Tables
import Derived.Test.YtgebjnoicgmdoaaDoorRegInv2

namespace Go.Proofs.YtgebjnoicgmdoaaDoor
open Go.RowKit
open Cs (Cn)

theorem own_shortL {w : World} {base g n c m : Nat} {e : TypeId} {xs : List Value} (h : w.ownsRow base e 1 (.slice (some ⟨g, 0, none⟩) n c) n xs) (hm : m ≤ n) : w.ownsRow base e 1 (.slice (some ⟨g, 0, none⟩) m c) m (xs.take m) := by
  have hl := h.1
  refine ⟨by rw [List.length_take, hl]; omega, ?_⟩
  rcases h.2 with ⟨h0, _⟩ | ⟨g', cap, cur, hv, hb, hgg, h1, h2, h3, h4⟩
  · cases h0
  · injection hv with e1 e2 e3
    injection e1 with e1
    injection e1 with e1
    subst e1; subst e3
    refine .inr ⟨g, c, cur, rfl, hb, hgg, by omega, h2, h3, ?_⟩
    rw [← h4, List.take_take]
    congr 1
    omega
/-- a row of levels, cut -/
theorem LvlD.cut {w : World} {base g k cap r : Nat} {ls : List (List (Int × Int))} (h : LvlD w base g k cap ls) (hr : r ≤ k) : LvlD w base g r cap (ls.take r) := by
  obtain ⟨h1, vals, h2, h3⟩ := h
  refine ⟨by rw [List.length_take, h1]; omega, vals.take r, own_shortL h2 hr, fun i hi => ?_⟩
  have e : (ls.take r).getD i [] = ls.getD i [] := by
    rw [List.getD_eq_getElem?_getD, List.getElem?_take_of_lt hi, ← List.getD_eq_getElem?_getD]
  rw [e, List.getElem?_take_of_lt hi]
  exact h3 i (by omega)
/-- a level put ahead of a row of levels, in a row of its own -/
theorem lvlD_front {base k g2 cap2 g1 c1 : Nat} {w3 : World} {ls : List (List (Int × Int))} {l : List (Int × Int)} {vals : List Value} (hl : ls.length = k)
    (hown' : w3.ownsRow base 37 1 (.slice (some ⟨g2, 0, none⟩) (1 + k) cap2) (1 + k) ([.slice (some ⟨g1, 0, none⟩) l.length c1] ++ vals))
    (h3 : ∀ i, i < k → ∃ gi ci, vals[i]? = some (.slice (some ⟨gi, 0, none⟩) (ls.getD i []).length ci) ∧ OwnT w3 base (some ⟨gi, 0, none⟩) (ls.getD i []).length ci (ls.getD i []) ∧ (ls.getD i []).length ≤ 25)
    (ho : OwnT w3 base (some ⟨g1, 0, none⟩) l.length c1 l) (h25 : l.length ≤ 25) : LvlD w3 base g2 (1 + k) cap2 (l :: ls) := by
  refine ⟨by simp [hl]; omega, _, hown', fun i hi => ?_⟩
  cases i with
  | zero => exact ⟨g1, c1, rfl, ho, h25⟩
  | succ i => exact h3 i (by omega)
/-- what DrawConsSubst draws -/
def CsSub (w : World) (e : Ending) (w' : World) : Prop := ∃ g cap n0 l g2 cap2 m ls, e = .returned (.tuple #[.slice (some ⟨g, 0, none⟩) n0 cap, .slice (some ⟨g2, 0, none⟩) m cap2]) ∧ n0 ≤ 40 ∧ m ≤ 6 ∧ OwnC w' w.heap.size (some ⟨g, 0, none⟩) n0 cap l ∧ LvlD w' w.heap.size g2 m cap2 ls ∧ Below w.heap.size w w'
set_option maxRecDepth 100000 in
set_option maxHeartbeats 4000000 in
theorem drawConsSubst_any (w : World) (B : Nat) (A : Option Addr) (n c : Nat) (hB : B ≤ w.heap.size) (hb : BytR w B A n) (hn : n ≤ 1048576) :
    Calls Tryd.prog 5 #[.slice A n c] w (CsSub w) := by
  obtain ⟨i0, hi, hz0, hz1, hz2⟩ := info_parts info_level
  go_enter Tryd.func5, Tryd.ntmps5
  go_wp2_with fail
  refine (open_any w B A n c hB hb hn).mono ?_
  rintro e w1 ⟨rfl, hb1, hc1⟩
  have hs1 := hb1.size
  have hlt := hc1.lt
  go_wp2_with fail
  refine (cons_any w1 w.heap.size A n c 0 hc1 (by omega) hn).mono ?_
  rintro e w2 ⟨g, cap, n0, rfl, hn0, ⟨l, ho2⟩, hc2, hk2⟩
  clear hc1
  have hs2 := hk2.size
  have hwl := withLevels_any w2 w.heap.size A n c _ 5 hc2 (by omega) (by omega) hn
  have HWL := Lib.hid hwl
  clear hwl
  go_wp2_with fail
  refine HWL.out.mono ?_
  rintro e w3 ⟨g5, cap5, ls5, rfl, hD3, hc3, hk3⟩
  have ho3 := Kp.own ho2 hk3 (by omega)
  have hk13 := hk2.trans hk3
  have hs3 := hk13.size
  clear hc2 hk3 ho2 HWL
  go_wp2_with fail
  refine (once_any w3 w.heap.size A n c _ 6 hc3 (by omega) (by omega) hn).mono ?_
  rintro e w4 ⟨b, rfl, hc4, hk4⟩
  have ho4 := Kp.own ho3 hk4 (by omega)
  have hD4 := (hD3.kp hk4 (by omega)).base (base' := w1.heap.size) (by omega)
  have hk14 := hk13.trans hk4
  have hs4 := hk14.size
  clear hc3 hk13 hk4 ho3 hD3
  cases b with
  | false =>
    have hc5 := hc4
    have ho5 := ho4
    have hk15 := hk14
    have hs15 := hs4
    have hD5 := hD4
    clear hc4 hk14 ho4 hD4
    go_wp2_with fail
    refine (once_any w4 w.heap.size A n c _ 12 hc5 (by omega) (by omega) hn).mono ?_
    rintro e w6 ⟨b, rfl, hc6, hk6⟩
    have ho6 := Kp.own ho5 hk6 (by omega)
    have hD6 := hD5.kp hk6 (by omega)
    have hk16 := hk15.trans hk6
    have hs16 := hk16.size
    clear hc5 hk15 hk6 ho5 hD5
    cases b with
    | false =>
      have HB6 := Lib.hid (Kp.below hb1 hk16 (Nat.le_refl _) hs1)
      have HO6 := Lib.hid (own_base (base' := w.heap.size) ho6 hs1)
      have HD6 := Lib.hid (hD6.base (base' := w.heap.size) hs1)
      clear hc6 hk16 ho6 hD6
      go_wp2
      go_ret2
      exact ⟨g, cap, n0, l, g5, cap5, 5, ls5, rfl, hn0, by omega, HO6.out, HD6.out, HB6.out⟩
    | true =>
      go_wp2_with fail
      refine (badLevel_any w6 w.heap.size A n c _ hc6 (by omega) hn).mono ?_
      rintro e w7 ⟨g7, c7, l7, rfl, h71, h72, ho7, hc7, hk7⟩
      have hoX := Kp.own ho6 hk7 (by omega)
      have hk17 := hk16.trans hk7
      have hs17 := hk17.size
      have hD7 := hD6.kp hk7 (by omega)
      have ho7' := own_base (base' := w1.heap.size) ho7 hs16
      obtain ⟨hl, vals, hv2, hv3⟩ := hD7
      have hvl : vals.length = 5 := by have := hv2.1; omega
      have hone : ∀ u ∈ vals, u.oneCell' = true := fun u hu => by
        obtain ⟨i, hi', rfl⟩ := List.mem_iff_getElem.1 hu
        obtain ⟨gi, ci, q1, _⟩ := hv3 i (by omega)
        rw [List.getElem?_eq_getElem hi'] at q1
        injection q1 with q1
        rw [q1]
        rfl
      obtain ⟨L7, hL7⟩ : ∃ L7, l7.length = L7 := ⟨_, rfl⟩
      rw [hL7] at h71 h72 ⊢
      have hx0 : (w7.alloc (.cells #[.slice (some ⟨g7, 0, none⟩) L7 c7] 37)).ownsRow w7.heap.size 37 1 (.slice (some ⟨w7.heap.size, 0, none⟩) 1 1) 1 [.slice (some ⟨g7, 0, none⟩) L7 c7] := own_whole (Blk.made _ _ _) (Nat.le_refl _) (by omega) rfl
      have hx := own_base (base' := w1.heap.size) hx0 hs17
      clear hc6 hc7 hk16 hk7 ho6 ho7 hD6 hx0
      go_wp2_with (at_builtin; refine wpList_append_own _ rfl (.tmp 24) (.tmp 25) 25 rfl w1.heap.size 37 i0 (.agg #[.slice none 0 0]) 1 24 Tryd.underlying25 hi hz0 hz1 hz2 rfl (by decide) (.slice (some ⟨w7.heap.size, 0, none⟩) 1 1) 1 [.slice (some ⟨g7, 0, none⟩) L7 c7] rfl hx ⟨g5, 0, none⟩ 5 cap5 vals rfl (by omega) ((hv2.alloc _).cells rfl) hone (by unfold maxLen; omega) (by omega) (by simp; omega) ?_; intro v' w8 hown' hgrow hnil)
      obtain ⟨g8, cap8, rfl⟩ : ∃ g' cap', v' = .slice (some ⟨g', 0, none⟩) (1 + 5) cap' := by
        rcases hown'.2 with ⟨h0, _⟩ | ⟨g', cap', _, h0, _⟩
        · have := (hnil.1 h0).1
          cases this
        · exact ⟨g', cap', h0⟩
      have hgg : some w7.heap.size = (Value.slice (some ⟨w7.heap.size, 0, none⟩) 1 1).ownBlock := rfl
      have kt : ∀ {gi ci q : Nat} {t : List (Int × Int)}, OwnT w7 w1.heap.size (some ⟨gi, 0, none⟩) q ci t → OwnT w8 w1.heap.size (some ⟨gi, 0, none⟩) q ci t := fun h => (h.alloc _).kept hgrow (.inr (fun he => by have h1 := (h.lt w7.heap.size he).2; omega))
      have HD : Hid (LvlD w8 w.heap.size g8 (1 + 5) cap8 (l7 :: ls5)) := by
        rw [← hL7] at hown'
        refine LvlD.base (base := w1.heap.size) (lvlD_front hl hown' (fun i hi => ?_) (kt ho7') (by omega)) hs1
        obtain ⟨gi, ci, q1, q2, q3⟩ := hv3 i hi
        exact ⟨gi, ci, q1, kt q2, q3⟩
      have HO8 := Lib.hid (own_base (base' := w.heap.size) ((hoX.alloc _).kept hgrow (.inr (fun he => by have h1 := (hoX.lt w7.heap.size he).2; omega))) hs1)
      have HB8 := Lib.hid (Kp.below hb1 ((hk17.alloc _).more hgrow (fun k h => by rw [← hgg] at h; injection h with h; omega)) (Nat.le_refl _) hs1)
      clear hown' hgrow hnil hv2 hv3 hk17 ho7' hoX hx hone
      go_wp2
      go_ret2
      exact ⟨g, cap, n0, l, g8, cap8, 1 + 5, l7 :: ls5, rfl, hn0, by omega, HO8.out, HD.out, HB8.out⟩
  | true =>
    go_wp2_with fail
    refine (pick_any w4 w.heap.size A n c _ 5 hc4 (by omega) (by omega) hn).mono ?_
    rintro e w5 ⟨m, rfl, hr, hc5, hk5⟩
    have hm5 : m ≤ 5 := by omega
    have ho5 := Kp.own ho4 hk5 (by omega)
    have hD5 := (hD4.kp hk5 (by omega)).cut hm5
    obtain ⟨ls, hls⟩ : ∃ ls, ls5.take m = ls := ⟨_, rfl⟩
    rw [hls] at hD5
    have hk15 := hk14.trans hk5
    have hs15 := hk15.size
    have hc5c : 5 ≤ cap5 := by
      obtain ⟨_, vals, hv, _⟩ := hD4
      rcases hv.2 with ⟨h0, _⟩ | ⟨_, _, _, h0, _, _, hle, _⟩
      · cases h0
      · injection h0 with _ _ e3
        rw [e3]
        exact hle
    clear hc4 hk14 hk5 ho4 hD4 hls hr
    go_wp2_with fail
    refine (once_any w5 w.heap.size A n c _ 12 hc5 (by omega) (by omega) hn).mono ?_
    rintro e w6 ⟨b, rfl, hc6, hk6⟩
    have ho6 := Kp.own ho5 hk6 (by omega)
    have hD6 := hD5.kp hk6 (by omega)
    have hk16 := hk15.trans hk6
    have hs16 := hk16.size
    clear hc5 hk15 hk6 ho5 hD5
    cases b with
    | false =>
      have HB6 := Lib.hid (Kp.below hb1 hk16 (Nat.le_refl _) hs1)
      have HO6 := Lib.hid (own_base (base' := w.heap.size) ho6 hs1)
      have HD6 := Lib.hid (hD6.base (base' := w.heap.size) hs1)
      clear hc6 hk16 ho6 hD6
      go_wp2
      go_ret2
      exact ⟨g, cap, n0, l, g5, cap5, m, ls, rfl, hn0, by omega, HO6.out, HD6.out, HB6.out⟩
    | true =>
      go_wp2_with fail
      refine (badLevel_any w6 w.heap.size A n c _ hc6 (by omega) hn).mono ?_
      rintro e w7 ⟨g7, c7, l7, rfl, h71, h72, ho7, hc7, hk7⟩
      have hoX := Kp.own ho6 hk7 (by omega)
      have hk17 := hk16.trans hk7
      have hs17 := hk17.size
      have hD7 := hD6.kp hk7 (by omega)
      have ho7' := own_base (base' := w1.heap.size) ho7 hs16
      obtain ⟨hl, vals, hv2, hv3⟩ := hD7
      have hvl : vals.length = m := by have := hv2.1; omega
      have hone : ∀ u ∈ vals, u.oneCell' = true := fun u hu => by
        obtain ⟨i, hi', rfl⟩ := List.mem_iff_getElem.1 hu
        obtain ⟨gi, ci, q1, _⟩ := hv3 i (by omega)
        rw [List.getElem?_eq_getElem hi'] at q1
        injection q1 with q1
        rw [q1]
        rfl
      obtain ⟨L7, hL7⟩ : ∃ L7, l7.length = L7 := ⟨_, rfl⟩
      rw [hL7] at h71 h72 ⊢
      have hx0 : (w7.alloc (.cells #[.slice (some ⟨g7, 0, none⟩) L7 c7] 37)).ownsRow w7.heap.size 37 1 (.slice (some ⟨w7.heap.size, 0, none⟩) 1 1) 1 [.slice (some ⟨g7, 0, none⟩) L7 c7] := own_whole (Blk.made _ _ _) (Nat.le_refl _) (by omega) rfl
      have hx := own_base (base' := w1.heap.size) hx0 hs17
      clear hc6 hc7 hk16 hk7 ho6 ho7 hD6 hx0
      go_wp2_with (at_builtin; refine wpList_append_own _ rfl (.tmp 24) (.tmp 25) 25 rfl w1.heap.size 37 i0 (.agg #[.slice none 0 0]) 1 24 Tryd.underlying25 hi hz0 hz1 hz2 rfl (by decide) (.slice (some ⟨w7.heap.size, 0, none⟩) 1 1) 1 [.slice (some ⟨g7, 0, none⟩) L7 c7] rfl hx ⟨g5, 0, none⟩ m cap5 vals rfl (by omega) ((hv2.alloc _).cells rfl) hone (by unfold maxLen; omega) (by omega) (by simp; omega) ?_; intro v' w8 hown' hgrow hnil)
      obtain ⟨g8, cap8, rfl⟩ : ∃ g' cap', v' = .slice (some ⟨g', 0, none⟩) (1 + m) cap' := by
        rcases hown'.2 with ⟨h0, _⟩ | ⟨g', cap', _, h0, _⟩
        · have := (hnil.1 h0).1
          cases this
        · exact ⟨g', cap', h0⟩
      have hgg : some w7.heap.size = (Value.slice (some ⟨w7.heap.size, 0, none⟩) 1 1).ownBlock := rfl
      have kt : ∀ {gi ci q : Nat} {t : List (Int × Int)}, OwnT w7 w1.heap.size (some ⟨gi, 0, none⟩) q ci t → OwnT w8 w1.heap.size (some ⟨gi, 0, none⟩) q ci t := fun h => (h.alloc _).kept hgrow (.inr (fun he => by have h1 := (h.lt w7.heap.size he).2; omega))
      have HD : Hid (LvlD w8 w.heap.size g8 (1 + m) cap8 (l7 :: ls)) := by
        rw [← hL7] at hown'
        refine LvlD.base (base := w1.heap.size) (lvlD_front hl hown' (fun i hi => ?_) (kt ho7') (by omega)) hs1
        obtain ⟨gi, ci, q1, q2, q3⟩ := hv3 i hi
        exact ⟨gi, ci, q1, kt q2, q3⟩
      have HO8 := Lib.hid (own_base (base' := w.heap.size) ((hoX.alloc _).kept hgrow (.inr (fun he => by have h1 := (hoX.lt w7.heap.size he).2; omega))) hs1)
      have HB8 := Lib.hid (Kp.below hb1 ((hk17.alloc _).more hgrow (fun k h => by rw [← hgg] at h; injection h with h; omega)) (Nat.le_refl _) hs1)
      clear hown' hgrow hnil hv2 hv3 hk17 ho7' hoX hx hone
      go_wp2
      go_ret2
      exact ⟨g, cap, n0, l, g8, cap8, 1 + m, l7 :: ls, rfl, hn0, by omega, HO8.out, HD.out, HB8.out⟩
end Go.Proofs.YtgebjnoicgmdoaaDoor

namespace Go.Proofs.YtgebjnoicgmdoaaDoor
open Go

theorem act_tmI (a : Array Value) (N : Nat) (h : a.size = N) : ({ tmps := a, defers := [] } : Act) = tm N (fun t => a.getD t undef) := by
  subst h
  unfold tm
  congr 1
  apply Array.ext (by simp)
  intro i h1 h2
  simp [Array.getD, h1]

theorem tm_getI {N t : Nat} (h : t < N) (f : Nat → Value) : (tm N f).tmps[t]?.getD undef = f t := by simp [tm, h]
section
variable {F : Fence} {n : Nat} {P : Program} {ops : Array Oper} {Q : Exit → Act → World → Prop}
/-- whatever order is picked, an invariant that each operation keeps holds at the end -/
theorem wpAnyIn_inv {md : Region.Mode} (I : Nat → Array Bool → Act → World → Prop)
    (hstep : ∀ k listed a w, k < ops.size → I k listed a w → ∀ i ∈ Region.ready md ops listed, wpOpIn F n P ops Q i (I (k + 1) (listed.setIfInBounds i true)) a w)
    (hend : ∀ k listed a w, k ≤ ops.size → I k listed a w → Region.ready md ops listed = [] → Q .normal a w) :
    ∀ (fuel k : Nat) (listed : Array Bool) (a : Act) (w : World), fuel + k = ops.size → listed.toList.count false ≤ fuel → I k listed a w → wpAnyIn F n P md ops Q fuel listed a w := by
  intro fuel
  induction fuel with
  | zero =>
    intro k listed a w hk hc hI
    have hr : Region.ready md ops listed = [] := by
      cases h : Region.ready md ops listed with
      | nil => rfl
      | cons x xs =>
        have := ready_pos (md := md) (ops := ops) (listed := listed) (i := x) (by rw [h]; simp)
        omega
    exact ⟨hr, hend k listed a w (by omega) hI hr⟩
  | succ fuel ih =>
    intro k listed a w hk hc hI
    refine ⟨hend k listed a w (by omega) hI, fun i hi => ?_⟩
    refine wpOpIn_mono (fun a' w' h => ih (k + 1) _ a' w' (by omega) ?_ h) (hstep k listed a w (by omega) hI i hi)
    have := count_listed (mem_ready.1 hi).1
    omega
theorem region_slots_in {id : Nat} (N : Nat) (f0 : Nat → Value) (G : Nat → (Nat → Bool) → (Nat → Value) → World → Prop) (C : Nat → Value → World → Prop) (R : World → World → Prop) {w : World}
    (hm : P.follows .mixedOrders = true) (hok : slotsOk ops = true) (h0 : G 0 (fun _ => false) f0 w.drew)
    (hkeep : ∀ i v w w', R w w' → C i v w → C i v w')
    (hstep : ∀ i o, ops[i]? = some o → ∀ k d f w, k < ops.size → d i = false → (∀ i j, d i = true → waitsFor ops i j = true → d j = true) → (∀ j, waitsFor ops i j = true → d j = true) → G k d f w → (∀ t, (∀ j, dstOf ops j = some t → d j = false) → f t = f0 t) → (∀ j, waitsFor ops i j = true → C j (slotV ops f j) w) →
      wpOpIn F n P ops Q i (fun a' w' => ∃ v, a' = (tm N f).put o.dst v ∧ R w w' ∧ G (k + 1) (mark d i) (upd f o.dst v) w' ∧ C i (match o.dst with | some _ => v | none => undef) w') (tm N f) w)
    (hend : ∀ k d f w, k ≤ ops.size → (∀ j, j < ops.size → d j = true) → G k d f w → (∀ t, (∀ j, dstOf ops j = some t → d j = false) → f t = f0 t) → (∀ j, j < ops.size → C j (slotV ops f j) w) → Q .normal (tm N f) w) :
    (Code.region id ops true).wpIn F n P Q (tm N f0) w := by
  refine wpIn_region_any hm ?_
  refine wpAnyIn_inv (fun k listed a w => listed.size = ops.size ∧ ∃ f, a = tm N f ∧ G k (fun j => listed.getD j false) f w ∧ (∀ i j, listed.getD i false = true → waitsFor ops i j = true → listed.getD j false = true) ∧ (∀ t, (∀ j, dstOf ops j = some t → listed.getD j false = false) → f t = f0 t) ∧ ∀ j, listed.getD j false = true → C j (slotV ops f j) w) ?_ ?_ ops.size 0 _ _ _ (by omega) ?_ ?_
  · rintro k listed a w hk ⟨hs, f, rfl, hG, hcl, hf, hC⟩ i hi
    obtain ⟨hun, o, ho, hdep⟩ := mem_ready.1 hi
    have hi' : i < ops.size := (Array.getElem?_eq_some_iff.1 ho).1
    have hun' : listed.getD i false = false := by simpa [Array.getD, hs, hi'] using hun
    have hw : ∀ j, waitsFor ops i j = true → listed.getD j false = true := fun j hj => by
      unfold waitsFor at hj
      rw [ho] at hj
      obtain ⟨e, he, hb⟩ := Array.any_eq_true'.1 hj
      simp only [Bool.and_eq_true, beq_iff_eq] at hb
      rw [← hb.2]
      exact hdep e he hb.1
    refine wpOpIn_mono ?_ (hstep i o ho k _ f w hk hun' hcl hw hG hf fun j hj => hC j (hw j hj))
    · rintro a' w' ⟨v, rfl, hR, hG', hCi⟩
      have hmk : mark (fun j => listed.getD j false) i = fun j => (listed.setIfInBounds i true).getD j false := by
        funext j
        unfold mark
        by_cases e : j = i
        · subst e; rw [if_pos rfl]; simp [Array.getD, hs, hi']
        · rw [if_neg e, getD_set_ne false (Ne.symm e)]
      rw [hmk] at hG'
      refine ⟨by simpa using hs, upd f o.dst v, tm_put N f o.dst v, hG', fun i' j' h1 h2 => ?_, fun t ht => ?_, fun j hj => ?_⟩
      · refine getD_set_true ?_
        by_cases e : i' = i
        · subst e
          unfold waitsFor at h2
          rw [ho] at h2
          obtain ⟨e, he, hb⟩ := Array.any_eq_true'.1 h2
          simp only [Bool.and_eq_true, beq_iff_eq] at hb
          rw [← hb.2]
          exact hdep e he hb.1
        · rw [getD_set_ne false (Ne.symm e)] at h1
          exact hcl i' j' h1 h2
      · have hti : o.dst ≠ some t := fun e => by
          have h1 := ht i (by simp [dstOf, ho, e])
          rw [show (listed.setIfInBounds i true).getD i false = true by simp [Array.getD, hs, hi']] at h1
          cases h1
        refine (upd_other f v hti).trans (hf t fun j hj => ?_)
        have h1 := ht j hj
        by_cases e : j = i
        · subst e; exact hun'
        · rwa [getD_set_ne false (Ne.symm e)] at h1
      · by_cases e : j = i
        · subst e
          have : slotV ops (upd f o.dst v) j = (match o.dst with | some _ => v | none => undef) := by
            unfold slotV dstOf
            rw [ho]
            simp only [Option.bind_some]
            cases hd : o.dst with
            | none => rfl
            | some t => exact upd_same f t v
          rw [this]
          exact hCi
        · rw [getD_set_ne false (Ne.symm e)] at hj
          have hj' : j < ops.size := by
            rcases Nat.lt_or_ge j listed.size with h | h
            · omega
            · simp [Array.getD, Nat.not_lt.2 h] at hj
          have : slotV ops (upd f o.dst v) j = slotV ops f j := by
            unfold slotV
            cases hd : dstOf ops j with
            | none => rfl
            | some t =>
              refine upd_other f v fun e' => ?_
              exact slotsOk_apart hok hj' hi' e hd (by simp [dstOf, ho, e'])
          rw [this]
          exact hkeep j _ w w' hR (hC j hj)
  · rintro k listed a w hk ⟨hs, f, rfl, hG, _, hf, hC⟩ hr
    have hall := ready_none hok hs hr
    exact hend k _ f w hk hall hG hf fun j hj => hC j (hall j hj)
  · simp
  · have hrep : ∀ j, (Array.replicate ops.size false).getD j false = false := fun j => by
      rcases Nat.lt_or_ge j ops.size with h | h
      · simp [Array.getD, h]
      · simp [Array.getD, Nat.not_lt.2 h]
    refine ⟨by simp, f0, rfl, ?_, (fun i j hi _ => by rw [hrep i] at hi; cases hi), fun _ _ => rfl, fun j hj => ?_⟩
    · rw [show (fun j => (Array.replicate ops.size false).getD j false) = fun _ => false from funext hrep]
      exact h0
    · rw [hrep j] at hj
      cases hj


end
section
variable {l n : Nat} {P : Program} {ops : Array Oper} {Q : Exit → Act → World → Prop}
/-- in a round behind the wide fence an operation that is no defer statement is carried out as everywhere -/
theorem oper_wi {o : Oper} {a : Act} {w : World} {K : Act → World → Prop} (hd : ∀ c, o.op ≠ .defer c) (h : o.wp P a w K Q) : o.wpIn (Fence.wide.inRound l) n P a w K Q := by
  refine ⟨fun _ _ => trivial, ?_⟩
  rw [Oper.semAt_plain _ _ _ hd]
  unfold Oper.wp at h
  generalize (execOp a.eval o).run P w = r at *
  cases r with
  | ok x w' =>
    cases x <;> simp only [Oper.upon] at h <;> simp only [Oper.uponIn]
    case value => exact h
    case skip => exact h
    case defer => exact h
    case enter f args => exact ⟨fun h0 => (by cases h0), CallsIn.inRound l (callsIn_wide.2 h)⟩
    case row row args =>
      refine ⟨fun h0 => (by cases h0), fun c cs _ => ?_⟩
      obtain ⟨v, w2, r, s⟩ := h c cs
      exact ⟨v, w2, r, stepsIn_wide.2 s⟩
  | halt x w' => cases x <;> simp only [Oper.upon] at h <;> simp only [Oper.uponIn] <;> exact h
theorem op_wi {i : Nat} {o : Oper} {a : Act} {w : World} {K : Act → World → Prop} (hi : ops[i]? = some o) (hg : o.guard = none) (hd : ∀ c, o.op ≠ .defer c)
    (h : ∀ K' : Act → World → Prop, (∀ a w, K a w → K' a w) → o.wp P a w K' Q) : wpOpIn (Fence.wide.inRound l) n P ops Q i K a w := by
  unfold wpOpIn
  rw [hi]
  simp only [Region.wanted, hg, if_true]
  exact oper_wi hd (h K fun _ _ h => h)
/-- a whole row stored in a round -/
theorem wpListIn_store_row {rest : List Oper} {o : Oper} {a : Act} {w : World} (hgd : o.guard = none) (ty : TypeId) (x y : Operand) (ho : o.op = .store ty x y)
    (g : Nat) (cells : Array Value) (hx : a.eval x = .pointer (some ⟨g, 0, none⟩)) (hy : a.eval y = .agg cells)
    (t : TypeId) (old : Array Value) (hg : w.heap[g]? = some (.cells old t (0, 0))) (hi : (P.info? ty).map (·.size) = some cells.size)
    (hold : old.size = cells.size) (h1 : cells.all (·.oneCell') = true)
    (h : wpListIn (Fence.wide.inRound l) n P ops Q rest (a.put o.dst undef) (w.setRow g cells)) : wpListIn (Fence.wide.inRound l) n P ops Q (o :: rest) a w :=
  wpListIn_plain hgd fun _ hK => oper_wi (by rw [ho]; intro c e; cases e) (wp_store_row ty x y ho g cells hx hy t old hg hi hold h1 (hK _ _ h))
end
end Go.Proofs.YtgebjnoicgmdoaaDoor
