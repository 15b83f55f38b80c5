/- Counter: the program's and the reference model's. -/
import Derived.Test.YtghoofgfimeedaaDoorDLe

namespace Go.Proofs.YtghoofgfimeedaaDoor
open Go.RowKit

/-- a row of numbers of the call's own and whether there is one -/
def ResB (w : World) (r : Option (List Int)) (e : Ending) (w' : World) : Prop :=
  ∃ A c, e = .returned (.tuple #[.slice A (r.getD []).length c, .bool r.isSome]) ∧ OwnI w' w.heap.size A (r.getD []).length c (r.getD []) ∧ Below w.heap.size w w'
theorem resB_none {w w' : World} (hb : Below w.heap.size w w') : ResB w none (.returned (.tuple #[.slice none 0 0, .bool false])) w' := ⟨none, 0, rfl, World.ownsRow_nil _ _ _ _, hb⟩
theorem resB_some {w w' : World} {g cap : Nat} {l : List Int} (hl : l.length = 5) (ho : OwnI w' w.heap.size (some ⟨g, 0, none⟩) 5 cap l) (hb : Below w.heap.size w w') : ResB w (some l) (.returned (.tuple #[.slice (some ⟨g, 0, none⟩) 5 cap, .bool true])) w' :=
  ⟨some ⟨g, 0, none⟩, cap, by simp [hl], by simpa [hl] using ho, hb⟩
theorem Dc.ctrR_len (a b : List (Int × Int)) : ((Dc.ctrR a b).getD []).length ≤ 5 := by
  unfold Dc.ctrR
  split
  · cases Dc.misR 0 a b with
    | none => simp
    | some x => simp [Dc.cenv_len]
  · simp
theorem Dc.ctrR_no {a b : List (Int × Int)} (h : ¬ (Lv.levelOk a = true ∧ Lv.levelOk b = true)) : Dc.ctrR a b = none := if_neg h
theorem Dc.ctrR_mis {a b : List (Int × Int)} (ha : Lv.levelOk a = true) (hb : Lv.levelOk b = true) {r : Option (Nat × Int)} (h : Dc.misR 0 a b = r) : Dc.ctrR a b = r.map fun x => Dc.cenv x.1 x.2 := by
  unfold Dc.ctrR
  rw [if_pos ⟨ha, hb⟩, h]
theorem own_blkI {w : World} {g base n : Nat} {l : List Int} (h : Blk w g 3 (l.map (Value.int .i64)).toArray) (hn : l.length = n) (hb : base ≤ g) (hm : n ≤ 1000) : OwnI w base (some ⟨g, 0, none⟩) n n l := by
  refine ⟨by simp [hn], .inr ⟨g, n, _, rfl, hb, h, Nat.le_refl _, by unfold maxLen; omega, by simp [hn], ?_⟩⟩
  rw [List.take_of_length_le (by simp [hn])]
theorem spotI {w : World} {base g n c i : Nat} {l : List Int} (h : OwnI w base (some ⟨g, 0, none⟩) n c l) (hi : i < n) : w.cell? ⟨g, i, none⟩ = some (.int .i64 (l.getD i 0)) ∧ w.frozen? ⟨g, i, none⟩ = false := by
  obtain ⟨b, off, hA, _, hc⟩ := (OwnI.reads h).2 (by omega)
  rcases h.2 with ⟨h0, _⟩ | ⟨g', cap, cur, hv, hb, hgg, _⟩
  · cases h0
  · injection hv with e1
    injection e1 with e1
    injection e1 with e1
    subst e1
    injection hA with e2
    injection e2 with e2 e3
    subst e2; subst e3
    have := hc i hi
    rw [Nat.zero_add] at this
    exact ⟨this, Blk.thawed (w := w) hgg i⟩
theorem putI {w : World} {base g n c i : Nat} {l : List Int} (h : OwnI w base (some ⟨g, 0, none⟩) n c l) (v : Int) : OwnI (w.setCell ⟨g, i, none⟩ (.int .i64 v)) base (some ⟨g, 0, none⟩) n c (l.set i v) := by
  have := own_put h i (.int .i64 v)
  rw [← List.map_set] at this
  exact this
theorem Sg.cells_least (s : Int) : Sg.cells s 5 = (Sg.least s).map (Value.int .i64) := by
  simp [Sg.cells, Sg.least, List.range, List.range.loop]

set_option maxRecDepth 100000 in
set_option maxHeartbeats 1600000 in
theorem counterEnv_any (w : World) (S : Nat) (p : Int) (hS : S < 32) (hp : p = -1 ∨ 0 ≤ p ∧ p < 5) :
    Calls Tryd.prog 85 #[.agg #[.int .i64 S, .int .i64 p]] w fun e w' => ∃ g cap, e = .returned (.slice (some ⟨g, 0, none⟩) 5 cap) ∧ OwnI w' w.heap.size (some ⟨g, 0, none⟩) 5 cap (Dc.cenv S p) ∧ Below w.heap.size w w' := by
  obtain ⟨W2, hW2⟩ : ∃ W2, (w.alloc (.cells #[.int .i64 S, .int .i64 p] 91)).alloc (.cells (Sg.cells S 5).toArray 3) = W2 := ⟨_, rfl⟩
  have hbk : Blk W2 w.heap.size 91 #[.int .i64 S, .int .i64 p] := by rw [← hW2]; exact (Blk.made w _ _).alloc _
  have hbe : Blk W2 (w.heap.size + 1) 3 (Sg.cells S 5).toArray := by rw [← hW2]; exact Blk.made' (by simp)
  have hB2 : Below w.heap.size w W2 := by rw [← hW2]; exact ((Below.refl _ w).alloc (Nat.le_refl _) _).alloc (by simp) _
  have kp : W2.cell? ⟨w.heap.size, 1, none⟩ = some (.int .i64 p) := hbk.cell 1
  have hown : OwnI W2 w.heap.size (some ⟨w.heap.size + 1, 0, none⟩) 5 5 (Sg.least S) := own_blkI (by rw [← Sg.cells_least]; exact hbe) (Sg.least_len _) (by omega) (by omega)
  have HW2 := Lib.hid hW2
  clear hW2 hbk hbe
  go_enter Tryd.func85, Tryd.ntmps85
  go_wp2_with fail
  refine (smallestEnv_any (w.alloc (.cells #[.int .i64 S, .int .i64 p] 91)) S ⟨by omega, by omega⟩).mono ?_
  rintro e w2 ⟨rfl, hw2⟩
  obtain rfl : w2 = W2 := hw2.trans HW2.out
  have HOWN := Lib.hid hown
  have HB2 := Lib.hid hB2
  simp only [World.size_alloc]
  clear hB2 hw2 HW2
  rcases hp with rfl | ⟨hp0, hp5⟩
  · have HE : Hid (Dc.cenv S (-1) = Sg.least S) := if_neg (by omega)
    clear hown
    go_wp2
    go_ret
    rw [HE.out]
    exact ⟨_, _, rfl, HOWN.out, HB2.out⟩
  · obtain ⟨P, rfl⟩ : ∃ P : Nat, p = P := ⟨p.toNat, by omega⟩
    have HE : Hid (Dc.cenv S (P : Int) = (Sg.least S).set P 100) := by show _ = _; unfold Dc.cenv; rw [if_pos hp0, Int.toNat_natCast]
    have d1 : ((P : Int) != -1) = true := by simp
    obtain ⟨x1, x2⟩ := spotI hown (i := P) (by omega)
    have hkt : ((P : Int)).toNat = P := by omega
    have hP5 : (P : Int) < 5 := hp5
    clear hown
    go_wp2
    go_ret
    rw [HE.out]
    exact ⟨_, _, rfl, putI HOWN.out 100, HB2.out.setCell (p := ⟨w.heap.size + 1, P, none⟩) (by simp) _⟩

set_option maxRecDepth 100000 in
set_option maxHeartbeats 3200000 in
theorem implCounter_any (w : World) (B : Nat) (A1 : Option Addr) (n1 c1 : Nat) (a : List (Int × Int)) (A2 : Option Addr) (n2 c2 : Nat) (b : List (Int × Int)) (T : TypeId) (pv : Value) (h0 : 0 < B) (hB : B ≤ w.heap.size)
    (ha : TokR w B A1 n1 a) (hn1 : (n1 : Int) ≤ 140737488355328) (hb : TokR w B A2 n2 b) (hn2 : (n2 : Int) ≤ 140737488355328) (hE : ErrAt w T pv) :
    Calls Tryd.prog 43 #[.slice A1 n1 c1, .slice A2 n2 c2] w (ResB w (Dc.ctrR a b)) := by
  cases h1 : Lv.levelOk a with
  | false =>
    have HF := Lib.hid (Dc.ctrR_no (a := a) (b := b) (fun h => by rw [h1] at h; cases h.1))
    have HO := Lib.hid h1
    clear h1
    go_enter Tryd.func43, Tryd.ntmps43
    go_wp2_with fail
    refine (levelOk_any w B A1 n1 c1 a T pv h0 hB ha hn1 hE).mono ?_
    rintro e w1 ⟨rfl, hb1⟩
    rw [HO.out]
    clear ha hb
    go_wp2
    go_ret2
    rw [HF.out]
    exact resB_none hb1
  | true =>
    have HO1 := Lib.hid h1
    clear h1
    cases h2 : Lv.levelOk b with
    | false =>
      have HF := Lib.hid (Dc.ctrR_no (a := a) (b := b) (fun h => by rw [h2] at h; cases h.2))
      have HO := Lib.hid h2
      clear h2
      go_enter Tryd.func43, Tryd.ntmps43
      go_wp2_with fail
      refine (levelOk_any w B A1 n1 c1 a T pv h0 hB ha hn1 hE).mono ?_
      rintro e w1 ⟨rfl, hb1⟩
      rw [HO1.out]
      have hs1 := hb1.size
      go_wp2_with fail
      refine (levelOk_any w1 B A2 n2 c2 b T pv h0 (by omega) (hb.below (hb1.mono hB)) hn2 (hE.below (hb1.mono hB) h0)).mono ?_
      rintro e w2 ⟨rfl, hb2⟩
      rw [HO.out]
      have HB2 := Lib.hid (hb1.trans (hb2.mono hb1.size))
      clear ha hb hb1 hb2
      go_wp2
      go_ret2
      rw [HF.out]
      exact resB_none HB2.out
    | true =>
      have HO2 := Lib.hid h2
      clear h2
      go_enter Tryd.func43, Tryd.ntmps43
      go_wp2_with fail
      refine (levelOk_any w B A1 n1 c1 a T pv h0 hB ha hn1 hE).mono ?_
      rintro e w1 ⟨rfl, hb1⟩
      rw [HO1.out]
      have hs1 := hb1.size
      go_wp2_with fail
      refine (levelOk_any w1 B A2 n2 c2 b T pv h0 (by omega) (hb.below (hb1.mono hB)) hn2 (hE.below (hb1.mono hB) h0)).mono ?_
      rintro e w2 ⟨rfl, hb2⟩
      rw [HO2.out]
      have hb02 := hb1.trans (hb2.mono hb1.size)
      have hs2 := hb02.size
      clear hb1 hb2
      go_wp2_with fail
      refine (firstMisfit_any w2 B A1 n1 c1 a 0 A2 n2 c2 b T pv h0 (by omega) (ha.below (hb02.mono hB)) HO1.out (hb.below (hb02.mono hB)) HO2.out (by omega) (by omega) (hE.below (hb02.mono hB) h0)).mono ?_
      rintro e w3 ⟨rfl, hb3⟩
      have hb03 := hb02.trans (hb3.mono hs2)
      have hs3 := hb3.size
      unfold misV
      cases hr : Dc.misR 0 a b with
      | none =>
        have HF := Lib.hid (Dc.ctrR_mis HO1.out HO2.out hr)
        have HB3 := Lib.hid (hb03.alloc hb03.size (.cells #[.int .i64 0, .int .i64 0] 91))
        simp only [Option.map_none, Option.getD_none, Option.isSome_none]
        clear ha hb hb02 hb3 hb03 hr
        go_wp2
        go_ret2
        rw [HF.out]
        exact resB_none HB3.out
      | some x =>
        obtain ⟨S, p⟩ := x
        have HF := Lib.hid (Dc.ctrR_mis HO1.out HO2.out hr)
        obtain ⟨hS, hp⟩ := Dc.misR_bd HO1.out hr
        have hb04 := hb03.alloc hb03.size (.cells #[.int .i64 S, .int .i64 p] 91)
        have HB4 := Lib.hid hb04
        simp only [Option.map_some, Option.getD_some, Option.isSome_some]
        have HCE := Lib.hid (counterEnv_any (w3.alloc (.cells #[.int .i64 S, .int .i64 p] 91)) S p hS hp)
        clear ha hb hb02 hb3 hb03 hr hb04 hp
        go_wp2_with fail
        refine HCE.out.mono ?_
        rintro e w5 ⟨g, cap, rfl, ho5, hb5⟩
        have HB5 := Lib.hid (HB4.out.trans (hb5.mono HB4.out.size))
        have HO5 := Lib.hid (own_base ho5 HB4.out.size)
        clear ho5 hb5
        go_wp2
        go_ret2
        rw [HF.out]
        exact resB_some (Dc.cenv_len _ _) HO5.out HB5.out
end Go.Proofs.YtghoofgfimeedaaDoor
