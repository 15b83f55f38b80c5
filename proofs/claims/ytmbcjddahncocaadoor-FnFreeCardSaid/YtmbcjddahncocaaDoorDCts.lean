/- LevelLe, LevelLess and LevelEq of the reference model. -/
/- LevelLe, LevelLess and LevelEq of the program. -/
/- Counter: the program's and the reference model's. -/
/- Counter of the reference model. -/
import Derived.Test.YtmbcjddahncocaaDoorUnMath
import Derived.Test.YtmbcjddahncocaaDoorRLe2
import Derived.Test.YtmbcjddahncocaaDoorSRes2
import Derived.Test.YtmbcjddahncocaaDoorNNorm
import Derived.Test.YtmbcjddahncocaaDoorDMis

namespace Go.Proofs.YtmbcjddahncocaaDoor
open Go.RowKit

theorem Dc.leR_no {a b : List (Int × Int)} (h : ¬ (Lv.levelOk a = true ∧ Lv.levelOk b = true)) : Dc.leR a b = false := by
  cases e : Dc.leR a b with
  | false => rfl
  | true => exact absurd ⟨((Dc.leR_iff a b).1 e).1, ((Dc.leR_iff a b).1 e).2.1⟩ h
set_option maxRecDepth 100000 in
set_option maxHeartbeats 6400000 in
theorem specLevelLe_any (w : World) (B : Nat) (A1 : Option Addr) (n1 c1 : Nat) (a : List (Int × Int)) (A2 : Option Addr) (n2 c2 : Nat) (b : List (Int × Int)) (hB : B ≤ w.heap.size) (ha : TokR w B A1 n1 a) (hn1 : (n1 : Int) ≤ 140737488355328) (hb : TokR w B A2 n2 b) (hn2 : (n2 : Int) ≤ 140737488355328) :
    Calls Tryd.prog 16 #[.slice A1 n1 c1, .slice A2 n2 c2] w fun e w' => e = .returned (.bool (Dc.leR a b)) ∧ Below w.heap.size w w' := by
  cases h1 : Lv.levelOk a with
  | false =>
    have HF := Lib.hid (Dc.leR_no (a := a) (b := b) (fun h => by rw [h1] at h; cases h.1))
    have HO := Lib.hid h1
    clear h1
    go_enter Tryd.func16, Tryd.ntmps16
    go_wp2_with fail
    refine (specOk_any w B A1 n1 c1 a hB ha hn1).mono ?_
    rintro e w1 ⟨rfl, hb1⟩
    rw [HO.out]
    clear ha hb
    go_wp2
    go_ret
    exact ⟨by rw [HF.out]; rfl, hb1⟩
  | true =>
    have HO1 := Lib.hid h1
    clear h1
    cases h2 : Lv.levelOk b with
    | false =>
      have HF := Lib.hid (Dc.leR_no (a := a) (b := b) (fun h => by rw [h2] at h; cases h.2))
      have HO := Lib.hid h2
      clear h2
      go_enter Tryd.func16, Tryd.ntmps16
      go_wp2_with fail
      refine (specOk_any w B A1 n1 c1 a hB ha hn1).mono ?_
      rintro e w1 ⟨rfl, hb1⟩
      rw [HO1.out]
      have hs1 := hb1.size
      go_wp2_with fail
      refine (specOk_any w1 B A2 n2 c2 b (by omega) (hb.below (hb1.mono hB)) hn2).mono ?_
      rintro e w2 ⟨rfl, hb2⟩
      rw [HO.out]
      have HB2 := Lib.hid (hb1.trans (hb2.mono hb1.size))
      clear ha hb hb1 hb2
      go_wp2
      go_ret
      exact ⟨by rw [HF.out]; rfl, HB2.out⟩
    | true =>
      have HO2 := Lib.hid h2
      clear h2
      go_enter Tryd.func16, Tryd.ntmps16
      go_wp2_with fail
      refine (specOk_any w B A1 n1 c1 a hB ha hn1).mono ?_
      rintro e w1 ⟨rfl, hb1⟩
      rw [HO1.out]
      have hs1 := hb1.size
      go_wp2_with fail
      refine (specOk_any w1 B A2 n2 c2 b (by omega) (hb.below (hb1.mono hB)) hn2).mono ?_
      rintro e w2 ⟨rfl, hb2⟩
      rw [HO2.out]
      have HB2 := Lib.hid (hb1.trans (hb2.mono hb1.size))
      have HA2 := Lib.hid (ha.below (HB2.out.mono hB))
      have HBB2 := Lib.hid (hb.below (HB2.out.mono hB))
      have hs2 := hb2.size
      clear ha hb hb1 hb2
      go_wp2
      go_loopw [5] (fun i wr => ∃ S : Nat, S ≤ 32 ∧ i = .int .i64 S ∧ Hid (∀ s : Nat, s < S → Nm.residLe (s : Int) (Dc.rs a s) (Dc.rs b s) = true) ∧ Hid (Below w.heap.size w wr) ∧ Hid (TokR wr B A1 n1 a) ∧ Hid (TokR wr B A2 n2 b) ∧ B ≤ wr.heap.size) (fun i _ => 32 - (intOf i).toNat)
      case atStart => exact ⟨0, by omega, rfl, (fun s hs => absurd hs (by omega)), HB2.out, HA2.out, HBB2.out, by omega⟩
      case round =>
        rename_i wo
        clear HB2 HA2 HBB2
        obtain ⟨S, hS, rfl, HALL, HBR, HAR, HBBR, hsr⟩ := hrel
        by_cases hS2 : S < 32
        · have hSi : (S : Int) ≤ 31 := by omega
          have hsg : Sg.isSign (S : Int) = true := Dc.isSign_nat hS2
          have HSG := Lib.hid hsg
          have HR1 := Lib.hid (specResidual_any wr B A1 n1 c1 a S hsr HAR.out hn1)
          rw [residR_yes ⟨HO1.out, hsg⟩] at HR1
          clear hsg
          go_wp2_with fail
          refine HR1.out.mono ?_
          rintro e w3 ⟨A3, c3, rfl, ho3, hb3⟩
          simp only [Option.getD_some, Option.isSome_some] at ho3 ⊢
          obtain ⟨L1, hL1⟩ : ∃ L1, (Nm.rnorm (Nm.wl (S : Int) a)).length = L1 := ⟨_, rfl⟩
          have h61 := Nm.rnorm_len (Nm.wl (S : Int) a)
          rw [hL1] at ho3 h61 ⊢
          have hb03 := HBR.out.trans (hb3.mono HBR.out.size)
          have hbb3 := HBBR.out.below (hb3.mono hsr)
          have hs3 := hb3.size
          have HR2 := Lib.hid (specResidual_any w3 B A2 n2 c2 b S (by omega) hbb3 hn2)
          rw [residR_yes ⟨HO2.out, HSG.out⟩] at HR2
          have HA3 := Lib.hid (HAR.out.below (hb3.mono hsr))
          have HL1 := Lib.hid hL1
          clear HR1 hb3 hL1
          go_wp2_with fail
          refine HR2.out.mono ?_
          rintro e w4 ⟨A4, c4, rfl, ho4, hb4⟩
          simp only [Option.getD_some, Option.isSome_some] at ho4 ⊢
          obtain ⟨L2, hL2⟩ : ∃ L2, (Nm.rnorm (Nm.wl (S : Int) b)).length = L2 := ⟨_, rfl⟩
          have h62 := Nm.rnorm_len (Nm.wl (S : Int) b)
          rw [hL2] at ho4 h62 ⊢
          have hb04 := hb03.trans (hb4.mono hb03.size)
          have HA4 := Lib.hid (HA3.out.below (hb4.mono (by omega)))
          have HBB4 := Lib.hid (hbb3.below (hb4.mono (by omega)))
          have ho34 := at_below' ho3 hb4
          have hs4 := hb4.size
          clear HR2 hL2 hb4 ho3 hbb3 hb03 HBR HAR HBBR HA3
          have HLE := Lib.hid (specResidLe_any w4 w4.heap.size A3 L1 c3 (Nm.rnorm (Nm.wl (S : Int) a)) A4 L2 c4 (Nm.rnorm (Nm.wl (S : Int) b)) S (Nat.le_refl _) (at_reads ho34) (by omega) (at_reads ho4) (by omega))
          have HB4 := Lib.hid hb04
          clear hb04 ho34 ho4
          go_wp2_with fail
          refine HLE.out.mono ?_
          rintro e w7 ⟨rfl, hb7⟩
          have HB7 := Lib.hid (HB4.out.trans (hb7.mono HB4.out.size))
          have HA7 := Lib.hid (HA4.out.below (hb7.mono (by omega)))
          have HBB7 := Lib.hid (HBB4.out.below (hb7.mono (by omega)))
          have hs7 := hb7.size
          clear hb7 HLE HA4 HBB4 HB4
          cases hle : Nm.residLe (S : Int) (Nm.rnorm (Nm.wl (S : Int) a)) (Nm.rnorm (Nm.wl (S : Int) b)) with
          | true =>
            have HA8 : Hid (∀ s : Nat, s < S + 1 → Nm.residLe (s : Int) (Dc.rs a s) (Dc.rs b s) = true) := fun s hs => by
              by_cases e : s = S
              · subst e; exact hle
              · exact HALL.out s (by omega)
            clear hle HALL
            go_wp2
            go_roundw
            case rel => exact ⟨S + 1, by omega, by go_num, HA8.out, HB7.out, HA7.out, HBB7.out, by omega⟩
            case measure => simp [intOf]; omega
          | false =>
            have HF : Hid (Dc.leR a b = false) := by
              cases e : Dc.leR a b with
              | false => rfl
              | true => have := ((Dc.leR_iff a b).1 e).2.2 S hS2; rw [hle] at this; cases this
            clear hle
            go_wp2
            go_ret
            exact ⟨by rw [HF.out]; rfl, HB7.out⟩
        · have hS3 : ¬ (S : Int) ≤ 31 := by omega
          have HF : Hid (Dc.leR a b = true) := (Dc.leR_iff a b).2 ⟨HO1.out, HO2.out, fun s hs => HALL.out s (by omega)⟩
          have HBE := HBR
          clear hS2 hS HBR HAR HBBR
          go_wp2
          go_ret
          exact ⟨by rw [HF.out]; rfl, HBE.out⟩
end Go.Proofs.YtmbcjddahncocaaDoor

namespace Go.Proofs.YtmbcjddahncocaaDoor
open Go.RowKit

set_option maxRecDepth 100000 in
set_option maxHeartbeats 3200000 in
theorem atMost_any (w : World) (B : Nat) (A1 : Option Addr) (n1 c1 : Nat) (a : List (Int × Int)) (u : Int) (A2 : Option Addr) (n2 c2 : Nat) (b : List (Int × Int)) (T : TypeId) (pv : Value) (h0 : 0 < B) (hB : B ≤ w.heap.size)
    (ha : TokR w B A1 n1 a) (hn1 : (n1 : Int) ≤ 140737488355328) (hb : TokR w B A2 n2 b) (hn2 : (n2 : Int) ≤ 140737488355328) (hu0 : 0 ≤ u) (hu1 : u ≤ 1) (hE : ErrAt w T pv) :
    Calls Tryd.prog 60 #[.slice A1 n1 c1, .int .i64 u, .slice A2 n2 c2] w fun e w' => e = .returned (.bool (Dc.atR u a b)) ∧ Below w.heap.size w w' := by
  cases h1 : Lv.levelOk a with
  | false =>
    have HF : Hid (Dc.atR u a b = false) := by show _ = _; unfold Dc.atR; rw [h1]; rfl
    have HO := Lib.hid h1
    clear h1
    go_enter Tryd.func60, Tryd.ntmps60
    go_wp2_with fail
    refine (levelOk_any w B A1 n1 c1 a T pv h0 hB ha hn1 hE).mono ?_
    rintro e w1 ⟨rfl, hb1⟩
    rw [HO.out]
    clear ha hb
    go_wp2
    go_ret
    exact ⟨by rw [HF.out]; rfl, hb1⟩
  | true =>
    have HO1 := Lib.hid h1
    clear h1
    cases h2 : Lv.levelOk b with
    | false =>
      have HF : Hid (Dc.atR u a b = false) := by show _ = _; unfold Dc.atR; rw [h2, Bool.and_false]; rfl
      have HO := Lib.hid h2
      clear h2
      go_enter Tryd.func60, Tryd.ntmps60
      go_wp2_with fail
      refine (levelOk_any w B A1 n1 c1 a T pv h0 hB ha hn1 hE).mono ?_
      rintro e w1 ⟨rfl, hb1⟩
      rw [HO1.out]
      have hs1 := hb1.size
      go_wp2_with fail
      refine (levelOk_any w1 B A2 n2 c2 b T pv h0 (by omega) (hb.below (hb1.mono hB)) hn2 (hE.below (hb1.mono hB) h0)).mono ?_
      rintro e w2 ⟨rfl, hb2⟩
      rw [HO.out]
      have HB2 := Lib.hid (hb1.trans (hb2.mono hb1.size))
      clear ha hb hb1 hb2
      go_wp2
      go_ret
      exact ⟨by rw [HF.out]; rfl, HB2.out⟩
    | true =>
      have HF : Hid (Dc.atR u a b = !(Dc.misR u a b).isSome) := by show _ = _; unfold Dc.atR; rw [h2, HO1.out]; cases Dc.misR u a b <;> rfl
      have HO2 := Lib.hid h2
      clear h2
      go_enter Tryd.func60, Tryd.ntmps60
      go_wp2_with fail
      refine (levelOk_any w B A1 n1 c1 a T pv h0 hB ha hn1 hE).mono ?_
      rintro e w1 ⟨rfl, hb1⟩
      rw [HO1.out]
      have hs1 := hb1.size
      go_wp2_with fail
      refine (levelOk_any w1 B A2 n2 c2 b T pv h0 (by omega) (hb.below (hb1.mono hB)) hn2 (hE.below (hb1.mono hB) h0)).mono ?_
      rintro e w2 ⟨rfl, hb2⟩
      rw [HO2.out]
      have hb02 := hb1.trans (hb2.mono hb1.size)
      have hs2 := hb02.size
      clear hb1 hb2
      go_wp2_with fail
      refine (firstMisfit_any w2 B A1 n1 c1 a u A2 n2 c2 b T pv h0 (by omega) (ha.below (hb02.mono hB)) HO1.out (hb.below (hb02.mono hB)) HO2.out hu0 hu1 (hE.below (hb02.mono hB) h0)).mono ?_
      rintro e w3 ⟨rfl, hb3⟩
      have hb03 := hb02.trans (hb3.mono hs2)
      have HB3 := Lib.hid (hb03.alloc hb03.size (.cells #[.int .i64 (((Dc.misR u a b).map fun x => ((x.1 : Nat) : Int)).getD 0), .int .i64 (((Dc.misR u a b).map fun x => x.2).getD 0)] 92))
      unfold misV
      generalize ((Dc.misR u a b).map fun x => ((x.1 : Nat) : Int)).getD 0 = v1 at *
      generalize ((Dc.misR u a b).map fun x => x.2).getD 0 = v2 at *
      generalize (Dc.misR u a b).isSome = v3 at *
      clear ha hb hb02 hb3 hb03
      go_wp2
      go_ret
      exact ⟨by rw [HF.out]; rfl, HB3.out⟩

set_option maxHeartbeats 800000 in
theorem implLevelLe_any (w : World) (B : Nat) (A1 : Option Addr) (n1 c1 : Nat) (a : List (Int × Int)) (A2 : Option Addr) (n2 c2 : Nat) (b : List (Int × Int)) (T : TypeId) (pv : Value) (h0 : 0 < B) (hB : B ≤ w.heap.size)
    (ha : TokR w B A1 n1 a) (hn1 : (n1 : Int) ≤ 140737488355328) (hb : TokR w B A2 n2 b) (hn2 : (n2 : Int) ≤ 140737488355328) (hE : ErrAt w T pv) :
    Calls Tryd.prog 13 #[.slice A1 n1 c1, .slice A2 n2 c2] w fun e w' => e = .returned (.bool (Dc.leR a b)) ∧ Below w.heap.size w w' := by
  rw [← Dc.le_at]
  go_enter Tryd.func13, Tryd.ntmps13
  go_wp2_with fail
  refine (atMost_any w B A1 n1 c1 a 0 A2 n2 c2 b T pv h0 hB ha hn1 hb hn2 (by omega) (by omega) hE).mono ?_
  rintro e w1 ⟨rfl, hb1⟩
  go_wp2
  go_ret
  exact ⟨rfl, hb1⟩

end Go.Proofs.YtmbcjddahncocaaDoor

namespace Go.Proofs.YtmbcjddahncocaaDoor
open Go.RowKit

/-- a row of numbers of the call's own and whether there is one -/
def ResB (w : World) (r : Option (List Int)) (e : Ending) (w' : World) : Prop :=
  ∃ A c, e = .returned (.tuple #[.slice A (r.getD []).length c, .bool r.isSome]) ∧ OwnI w' w.heap.size A (r.getD []).length c (r.getD []) ∧ Below w.heap.size w w'
theorem resB_none {w w' : World} (hb : Below w.heap.size w w') : ResB w none (.returned (.tuple #[.slice none 0 0, .bool false])) w' := ⟨none, 0, rfl, World.ownsRow_nil _ _ _ _, hb⟩
theorem resB_some {w w' : World} {g cap : Nat} {l : List Int} (hl : l.length = 5) (ho : OwnI w' w.heap.size (some ⟨g, 0, none⟩) 5 cap l) (hb : Below w.heap.size w w') : ResB w (some l) (.returned (.tuple #[.slice (some ⟨g, 0, none⟩) 5 cap, .bool true])) w' :=
  ⟨some ⟨g, 0, none⟩, cap, by simp [hl], by simpa [hl] using ho, hb⟩
theorem Dc.ctrR_no {a b : List (Int × Int)} (h : ¬ (Lv.levelOk a = true ∧ Lv.levelOk b = true)) : Dc.ctrR a b = none := if_neg h
theorem Dc.ctrR_mis {a b : List (Int × Int)} (ha : Lv.levelOk a = true) (hb : Lv.levelOk b = true) {r : Option (Nat × Int)} (h : Dc.misR 0 a b = r) : Dc.ctrR a b = r.map fun x => Dc.cenv x.1 x.2 := by
  unfold Dc.ctrR
  rw [if_pos ⟨ha, hb⟩, h]
theorem own_blkI {w : World} {g base n : Nat} {l : List Int} (h : Blk w g 3 (l.map (Value.int .i64)).toArray) (hn : l.length = n) (hb : base ≤ g) (hm : n ≤ 1000) : OwnI w base (some ⟨g, 0, none⟩) n n l := by
  refine ⟨by simp [hn], .inr ⟨g, n, _, rfl, hb, h, Nat.le_refl _, by unfold maxLen; omega, by simp [hn], ?_⟩⟩
  rw [List.take_of_length_le (by simp [hn])]
theorem spotI {w : World} {base g n c i : Nat} {l : List Int} (h : OwnI w base (some ⟨g, 0, none⟩) n c l) (hi : i < n) : w.cell? ⟨g, i, none⟩ = some (.int .i64 (l.getD i 0)) ∧ w.frozen? ⟨g, i, none⟩ = false := by
  obtain ⟨b, off, hA, _, hc⟩ := (OwnI.reads h).2 (by omega)
  rcases h.2 with ⟨h0, _⟩ | ⟨g', cap, cur, hv, hb, hgg, _⟩
  · cases h0
  · injection hv with e1
    injection e1 with e1
    injection e1 with e1
    subst e1
    injection hA with e2
    injection e2 with e2 e3
    subst e2; subst e3
    have := hc i hi
    rw [Nat.zero_add] at this
    exact ⟨this, Blk.thawed (w := w) hgg i⟩
theorem putI {w : World} {base g n c i : Nat} {l : List Int} (h : OwnI w base (some ⟨g, 0, none⟩) n c l) (v : Int) : OwnI (w.setCell ⟨g, i, none⟩ (.int .i64 v)) base (some ⟨g, 0, none⟩) n c (l.set i v) := by
  have := own_put h i (.int .i64 v)
  rw [← List.map_set] at this
  exact this
theorem Sg.cells_least (s : Int) : Sg.cells s 5 = (Sg.least s).map (Value.int .i64) := by
  simp [Sg.cells, Sg.least, List.range, List.range.loop]

set_option maxRecDepth 100000 in
set_option maxHeartbeats 1600000 in
theorem counterEnv_any (w : World) (S : Nat) (p : Int) (hS : S < 32) (hp : p = -1 ∨ 0 ≤ p ∧ p < 5) :
    Calls Tryd.prog 63 #[.agg #[.int .i64 S, .int .i64 p]] w fun e w' => ∃ g cap, e = .returned (.slice (some ⟨g, 0, none⟩) 5 cap) ∧ OwnI w' w.heap.size (some ⟨g, 0, none⟩) 5 cap (Dc.cenv S p) ∧ Below w.heap.size w w' := by
  obtain ⟨W2, hW2⟩ : ∃ W2, (w.alloc (.cells #[.int .i64 S, .int .i64 p] 92)).alloc (.cells (Sg.cells S 5).toArray 3) = W2 := ⟨_, rfl⟩
  have hbk : Blk W2 w.heap.size 92 #[.int .i64 S, .int .i64 p] := by rw [← hW2]; exact (Blk.made w _ _).alloc _
  have hbe : Blk W2 (w.heap.size + 1) 3 (Sg.cells S 5).toArray := by rw [← hW2]; exact Blk.made' (by simp)
  have hB2 : Below w.heap.size w W2 := by rw [← hW2]; exact ((Below.refl _ w).alloc (Nat.le_refl _) _).alloc (by simp) _
  have kp : W2.cell? ⟨w.heap.size, 1, none⟩ = some (.int .i64 p) := hbk.cell 1
  have hown : OwnI W2 w.heap.size (some ⟨w.heap.size + 1, 0, none⟩) 5 5 (Sg.least S) := own_blkI (by rw [← Sg.cells_least]; exact hbe) (Sg.least_len _) (by omega) (by omega)
  have HW2 := Lib.hid hW2
  clear hW2 hbk hbe
  go_enter Tryd.func63, Tryd.ntmps63
  go_wp2_with fail
  refine (smallestEnv_any (w.alloc (.cells #[.int .i64 S, .int .i64 p] 92)) S ⟨by omega, by omega⟩).mono ?_
  rintro e w2 ⟨rfl, hw2⟩
  obtain rfl : w2 = W2 := hw2.trans HW2.out
  have HOWN := Lib.hid hown
  have HB2 := Lib.hid hB2
  simp only [World.size_alloc]
  clear hB2 hw2 HW2
  rcases hp with rfl | ⟨hp0, hp5⟩
  · have HE : Hid (Dc.cenv S (-1) = Sg.least S) := if_neg (by omega)
    clear hown
    go_wp2
    go_ret
    rw [HE.out]
    exact ⟨_, _, rfl, HOWN.out, HB2.out⟩
  · obtain ⟨P, rfl⟩ : ∃ P : Nat, p = P := ⟨p.toNat, by omega⟩
    have HE : Hid (Dc.cenv S (P : Int) = (Sg.least S).set P 100) := by show _ = _; unfold Dc.cenv; rw [if_pos hp0, Int.toNat_natCast]
    have d1 : ((P : Int) != -1) = true := by simp
    obtain ⟨x1, x2⟩ := spotI hown (i := P) (by omega)
    have hkt : ((P : Int)).toNat = P := by omega
    have hP5 : (P : Int) < 5 := hp5
    clear hown
    go_wp2
    go_ret
    rw [HE.out]
    exact ⟨_, _, rfl, putI HOWN.out 100, HB2.out.setCell (p := ⟨w.heap.size + 1, P, none⟩) (by simp) _⟩

set_option maxRecDepth 100000 in
set_option maxHeartbeats 3200000 in
theorem implCounter_any (w : World) (B : Nat) (A1 : Option Addr) (n1 c1 : Nat) (a : List (Int × Int)) (A2 : Option Addr) (n2 c2 : Nat) (b : List (Int × Int)) (T : TypeId) (pv : Value) (h0 : 0 < B) (hB : B ≤ w.heap.size)
    (ha : TokR w B A1 n1 a) (hn1 : (n1 : Int) ≤ 140737488355328) (hb : TokR w B A2 n2 b) (hn2 : (n2 : Int) ≤ 140737488355328) (hE : ErrAt w T pv) :
    Calls Tryd.prog 14 #[.slice A1 n1 c1, .slice A2 n2 c2] w (ResB w (Dc.ctrR a b)) := by
  cases h1 : Lv.levelOk a with
  | false =>
    have HF := Lib.hid (Dc.ctrR_no (a := a) (b := b) (fun h => by rw [h1] at h; cases h.1))
    have HO := Lib.hid h1
    clear h1
    go_enter Tryd.func14, Tryd.ntmps14
    go_wp2_with fail
    refine (levelOk_any w B A1 n1 c1 a T pv h0 hB ha hn1 hE).mono ?_
    rintro e w1 ⟨rfl, hb1⟩
    rw [HO.out]
    clear ha hb
    go_wp2
    go_ret2
    rw [HF.out]
    exact resB_none hb1
  | true =>
    have HO1 := Lib.hid h1
    clear h1
    cases h2 : Lv.levelOk b with
    | false =>
      have HF := Lib.hid (Dc.ctrR_no (a := a) (b := b) (fun h => by rw [h2] at h; cases h.2))
      have HO := Lib.hid h2
      clear h2
      go_enter Tryd.func14, Tryd.ntmps14
      go_wp2_with fail
      refine (levelOk_any w B A1 n1 c1 a T pv h0 hB ha hn1 hE).mono ?_
      rintro e w1 ⟨rfl, hb1⟩
      rw [HO1.out]
      have hs1 := hb1.size
      go_wp2_with fail
      refine (levelOk_any w1 B A2 n2 c2 b T pv h0 (by omega) (hb.below (hb1.mono hB)) hn2 (hE.below (hb1.mono hB) h0)).mono ?_
      rintro e w2 ⟨rfl, hb2⟩
      rw [HO.out]
      have HB2 := Lib.hid (hb1.trans (hb2.mono hb1.size))
      clear ha hb hb1 hb2
      go_wp2
      go_ret2
      rw [HF.out]
      exact resB_none HB2.out
    | true =>
      have HO2 := Lib.hid h2
      clear h2
      go_enter Tryd.func14, Tryd.ntmps14
      go_wp2_with fail
      refine (levelOk_any w B A1 n1 c1 a T pv h0 hB ha hn1 hE).mono ?_
      rintro e w1 ⟨rfl, hb1⟩
      rw [HO1.out]
      have hs1 := hb1.size
      go_wp2_with fail
      refine (levelOk_any w1 B A2 n2 c2 b T pv h0 (by omega) (hb.below (hb1.mono hB)) hn2 (hE.below (hb1.mono hB) h0)).mono ?_
      rintro e w2 ⟨rfl, hb2⟩
      rw [HO2.out]
      have hb02 := hb1.trans (hb2.mono hb1.size)
      have hs2 := hb02.size
      clear hb1 hb2
      go_wp2_with fail
      refine (firstMisfit_any w2 B A1 n1 c1 a 0 A2 n2 c2 b T pv h0 (by omega) (ha.below (hb02.mono hB)) HO1.out (hb.below (hb02.mono hB)) HO2.out (by omega) (by omega) (hE.below (hb02.mono hB) h0)).mono ?_
      rintro e w3 ⟨rfl, hb3⟩
      have hb03 := hb02.trans (hb3.mono hs2)
      have hs3 := hb3.size
      unfold misV
      cases hr : Dc.misR 0 a b with
      | none =>
        have HF := Lib.hid (Dc.ctrR_mis HO1.out HO2.out hr)
        have HB3 := Lib.hid (hb03.alloc hb03.size (.cells #[.int .i64 0, .int .i64 0] 92))
        simp only [Option.map_none, Option.getD_none, Option.isSome_none]
        clear ha hb hb02 hb3 hb03 hr
        go_wp2
        go_ret2
        rw [HF.out]
        exact resB_none HB3.out
      | some x =>
        obtain ⟨S, p⟩ := x
        have HF := Lib.hid (Dc.ctrR_mis HO1.out HO2.out hr)
        obtain ⟨hS, hp⟩ := Dc.misR_bd HO1.out hr
        have hb04 := hb03.alloc hb03.size (.cells #[.int .i64 S, .int .i64 p] 92)
        have HB4 := Lib.hid hb04
        simp only [Option.map_some, Option.getD_some, Option.isSome_some]
        have HCE := Lib.hid (counterEnv_any (w3.alloc (.cells #[.int .i64 S, .int .i64 p] 92)) S p hS hp)
        clear ha hb hb02 hb3 hb03 hr hb04 hp
        go_wp2_with fail
        refine HCE.out.mono ?_
        rintro e w5 ⟨g, cap, rfl, ho5, hb5⟩
        have HB5 := Lib.hid (HB4.out.trans (hb5.mono HB4.out.size))
        have HO5 := Lib.hid (own_base ho5 HB4.out.size)
        clear ho5 hb5
        go_wp2
        go_ret2
        rw [HF.out]
        exact resB_some (Dc.cenv_len _ _) HO5.out HB5.out
end Go.Proofs.YtmbcjddahncocaaDoor

namespace Go.Proofs.YtmbcjddahncocaaDoor
open Go.RowKit

set_option maxRecDepth 100000 in
/-- 'x[i:i+1]' of a slice of atoms -/
theorem run_one (b off n c i : Nat) (hi : i < n) (hnc : n ≤ c) : ∀ wx : World, (Instr.slice 63 (.slice (some ⟨b, off, none⟩) n c) (some (.int .i64 (i : Int))) (some (.int .i64 ((i : Int) + 1))) none).run Tryd.prog wx = .ok (.slice (some ⟨b, off + i * 2, none⟩) 1 (c - i)) wx := by
  intro wx
  have hr := run_slice_lh (P := Tryd.prog) (w := wx) 63 (some ⟨b, off, none⟩) n c Tryd.underlying63 .i64 .i64 (i : Int) ((i : Int) + 1) (by omega) (by omega) (by omega)
  have hs : (sizeOf (Tryd.prog.elem 63)).run Tryd.prog wx = .ok 2 wx := by kernel_rfl
  rw [hs] at hr
  rw [hr]
  have h1 : ((i : Int)).toNat = i := by omega
  have h2 : ((i : Int) + 1).toNat = i + 1 := by omega
  simp [Result.andThen, sliced, h1, h2, show c ≠ i by omega, Addr.add]
theorem TokR.one {w : World} {B b off n i : Nat} {l : List (Int × Int)} (h : TokR w B (some ⟨b, off, none⟩) n l) (hi : i < n) : TokR w B (some ⟨b, off + i * 2, none⟩) 1 [l.getD i (0, 0)] := by
  obtain ⟨b', off', e, hb, hc⟩ := h.2 (by omega)
  injection e with e
  injection e with e1 e2
  subst e1; subst e2
  refine ⟨rfl, fun _ => ⟨b, off + i * 2, rfl, hb, fun k hk => ?_⟩⟩
  obtain rfl : k = 0 := by omega
  have := hc i hi
  simpa using this
/-- one atom of a residual, compared as a residual -/
theorem Dc.resid_one {s : Int} {a b : List (Int × Int)} (ha : Nm.ROk s a) (hb : Nm.ROk s b) {k : Nat} (hk : k < a.length) : Nm.residLe s [a.getD k (0, 0)] b = Nm.ratomLeB (a.getD k (0, 0)) b := by
  have h1 : Nm.ROk s [a.getD k (0, 0)] := by
    refine ⟨ha.1, by simp, Nm.allOk_of_mem fun x hx => ?_, fun j h0 hj => by simp at hj; omega, fun j hj => ?_, fun _ => Nm.exceeds_mem.2 fun x hx => by simp at hx⟩
    · rw [List.mem_singleton.1 hx]
      exact ha.2.2.1 k hk
    · obtain rfl : j = 0 := by simp at hj; omega
      exact ha.2.2.2.2.1 k hk
  rw [Bool.eq_iff_iff, Nm.residLe_iff, Nm.ratomLeB_iff]
  constructor
  · rintro ⟨_, _, h⟩
    exact h 0 (by simp)
  · intro h
    refine ⟨h1, hb, fun j hj => ?_⟩
    obtain rfl : j = 0 := by simp at hj; omega
    exact h

set_option maxRecDepth 100000 in
set_option maxHeartbeats 6400000 in
theorem specCounter_any (w : World) (B : Nat) (A1 : Option Addr) (n1 c1 : Nat) (a : List (Int × Int)) (A2 : Option Addr) (n2 c2 : Nat) (b : List (Int × Int)) (hB : B ≤ w.heap.size) (ha : TokR w B A1 n1 a) (hn1 : (n1 : Int) ≤ 140737488355328) (hb : TokR w B A2 n2 b) (hn2 : (n2 : Int) ≤ 140737488355328) :
    Calls Tryd.prog 15 #[.slice A1 n1 c1, .slice A2 n2 c2] w (ResB w (Dc.ctrR a b)) := by
  cases h1 : Lv.levelOk a with
  | false =>
    have HF := Lib.hid (Dc.ctrR_no (a := a) (b := b) (fun h => by rw [h1] at h; cases h.1))
    have HO := Lib.hid h1
    clear h1
    go_enter Tryd.func15, Tryd.ntmps15
    go_wp2_with fail
    refine (specOk_any w B A1 n1 c1 a hB ha hn1).mono ?_
    rintro e w1 ⟨rfl, hb1⟩
    rw [HO.out]
    clear ha hb
    go_wp2
    go_ret2
    rw [HF.out]
    exact resB_none hb1
  | true =>
    have HO1 := Lib.hid h1
    clear h1
    cases h2 : Lv.levelOk b with
    | false =>
      have HF := Lib.hid (Dc.ctrR_no (a := a) (b := b) (fun h => by rw [h2] at h; cases h.2))
      have HO := Lib.hid h2
      clear h2
      go_enter Tryd.func15, Tryd.ntmps15
      go_wp2_with fail
      refine (specOk_any w B A1 n1 c1 a hB ha hn1).mono ?_
      rintro e w1 ⟨rfl, hb1⟩
      rw [HO1.out]
      have hs1 := hb1.size
      go_wp2_with fail
      refine (specOk_any w1 B A2 n2 c2 b (by omega) (hb.below (hb1.mono hB)) hn2).mono ?_
      rintro e w2 ⟨rfl, hb2⟩
      rw [HO.out]
      have HB2 := Lib.hid (hb1.trans (hb2.mono hb1.size))
      clear ha hb hb1 hb2
      go_wp2
      go_ret2
      rw [HF.out]
      exact resB_none HB2.out
    | true =>
      have HO2 := Lib.hid h2
      clear h2
      go_enter Tryd.func15, Tryd.ntmps15
      go_wp2_with fail
      refine (specOk_any w B A1 n1 c1 a hB ha hn1).mono ?_
      rintro e w1 ⟨rfl, hb1⟩
      rw [HO1.out]
      have hs1 := hb1.size
      go_wp2_with fail
      refine (specOk_any w1 B A2 n2 c2 b (by omega) (hb.below (hb1.mono hB)) hn2).mono ?_
      rintro e w2 ⟨rfl, hb2⟩
      rw [HO2.out]
      have HB2 := Lib.hid (hb1.trans (hb2.mono hb1.size))
      have HA2 := Lib.hid (ha.below (HB2.out.mono hB))
      have HBB2 := Lib.hid (hb.below (HB2.out.mono hB))
      have hs2 := hb2.size
      clear ha hb hb1 hb2
      go_wp2
      go_loopw [6] (fun i wr => ∃ S : Nat, S ≤ 32 ∧ i = .int .i64 S ∧ Hid (Dc.misR 0 a b = Dc.misS 0 a b S (32 - S)) ∧ Hid (Below w.heap.size w wr) ∧ Hid (TokR wr B A1 n1 a) ∧ Hid (TokR wr B A2 n2 b) ∧ B ≤ wr.heap.size) (fun i _ => 32 - (intOf i).toNat)
      case atStart => exact ⟨0, by omega, rfl, rfl, HB2.out, HA2.out, HBB2.out, by omega⟩
      case round =>
        rename_i wo
        clear HB2 HA2 HBB2
        obtain ⟨S, hS, rfl, HMR, HBR, HAR, HBBR, hsr⟩ := hrel
        by_cases hS2 : S < 32
        · have hSi : (S : Int) ≤ 31 := by omega
          have hsg : Sg.isSign (S : Int) = true := Dc.isSign_nat hS2
          have HSG := Lib.hid hsg
          have HR1 := Lib.hid (specResidual_any wr B A1 n1 c1 a S hsr HAR.out hn1)
          rw [residR_yes ⟨HO1.out, hsg⟩] at HR1
          clear hsg
          go_wp2_with fail
          refine HR1.out.mono ?_
          rintro e w3 ⟨A3, c3, rfl, ho3, hb3⟩
          simp only [Option.getD_some, Option.isSome_some] at ho3 ⊢
          obtain ⟨L1, hL1⟩ : ∃ L1, (Nm.rnorm (Nm.wl (S : Int) a)).length = L1 := ⟨_, rfl⟩
          have h61 := Nm.rnorm_len (Nm.wl (S : Int) a)
          rw [hL1] at ho3 h61 ⊢
          have hb03 := HBR.out.trans (hb3.mono HBR.out.size)
          have hbb3 := HBBR.out.below (hb3.mono hsr)
          have hs3 := hb3.size
          have HR2 := Lib.hid (specResidual_any w3 B A2 n2 c2 b S (by omega) hbb3 hn2)
          rw [residR_yes ⟨HO2.out, HSG.out⟩] at HR2
          have HA3 := Lib.hid (HAR.out.below (hb3.mono hsr))
          have HL1 := Lib.hid hL1
          clear HR1 hb3 hL1
          go_wp2_with fail
          refine HR2.out.mono ?_
          rintro e w4 ⟨A4, c4, rfl, ho4, hb4⟩
          simp only [Option.getD_some, Option.isSome_some] at ho4 ⊢
          obtain ⟨L2, hL2⟩ : ∃ L2, (Nm.rnorm (Nm.wl (S : Int) b)).length = L2 := ⟨_, rfl⟩
          have h62 := Nm.rnorm_len (Nm.wl (S : Int) b)
          rw [hL2] at ho4 h62 ⊢
          have hb04 := hb03.trans (hb4.mono hb03.size)
          have HA4 := Lib.hid (HA3.out.below (hb4.mono (by omega)))
          have HBB4 := Lib.hid (hbb3.below (hb4.mono (by omega)))
          have ho34 := at_below' ho3 hb4
          have hs4 := hb4.size
          have HC3 := Lib.hid ho34
          have HX3 := Lib.hid (at_reads ho34)
          have HX4 := Lib.hid (at_reads ho4)
          have HB4 := Lib.hid hb04
          have HAL := Lib.hid (Dc.rs_rok HO1.out HSG.out)
          have HBL := Lib.hid (Dc.rs_rok HO2.out HSG.out)
          clear HR2 hL2 hb4 ho3 ho34 ho4 hbb3 hb03 hb04 HBR HAR HBBR HA3
          go_wp2
          go_loopw [11] (fun i wr => ∃ k : Nat, k ≤ L1 ∧ i = .int .i64 k ∧ Hid (Dc.misL (Dc.rs b (S : Int)) (Nm.up 0 (Dc.rs a (S : Int))) = Dc.misL (Dc.rs b (S : Int)) ((Dc.rs a (S : Int)).drop k)) ∧ Hid (Below w4.heap.size w4 wr)) (fun i _ => L1 - (intOf i).toNat)
          case atStart => exact ⟨0, Nat.zero_le _, rfl, by rw [Dc.up_zero]; rfl, Below.refl _ _⟩
          case round =>
            rename_i wp
            obtain ⟨k, hk, rfl, HM, HBK⟩ := hrel
            have hszk := HBK.out.size
            by_cases hlt : k < L1
            · have hki : (k : Int) < (L1 : Int) := by omega
              obtain ⟨g3, o3, hA3, hg3, hc3⟩ := HX3.out.2 (by omega)
              subst hA3
              obtain ⟨x1, _⟩ := hc3 k hlt
              have hcap : L1 ≤ c3 := by
                rcases HC3.out.2 with ⟨h, _⟩ | ⟨_, _, _, _, _, _, h, _⟩
                · cases h
                · exact h
              have hone := run_one g3 o3 L1 c3 k hlt hcap
              have HRL := Lib.hid (Dc.resid_one HAL.out HBL.out (k := k) (by rw [HL1.out]; exact hlt))
              have HP5 := Lib.hid (HAL.out.2.2.1.mem (Nm.mem_getD (l := Dc.rs a (S : Int)) (k := k) (by rw [HL1.out]; exact hlt)))
              have HLE := Lib.hid (specResidLe_any wr wr.heap.size (some ⟨g3, o3 + k * 2, none⟩) 1 (c3 - k) [(Dc.rs a (S : Int)).getD k (0, 0)] A4 L2 c4 (Nm.rnorm (Nm.wl (S : Int) b)) S (Nat.le_refl _) (((HX3.out.below HBK.out).one hlt).more hszk) (by omega) ((HX4.out.below HBK.out).more hszk) (by omega))
              obtain ⟨t, ht⟩ : ∃ t, (Dc.rs a (S : Int)).getD k (0, 0) = t := ⟨_, rfl⟩
              rw [ht] at x1 HRL HP5 HLE
              obtain ⟨p, y⟩ := t
              have hp1 : -1 ≤ p := HP5.out.1
              have hp5 : p < 5 := HP5.out.2.1
              have y1 := (HBK.out.cell (p := ⟨g3, o3 + k * 2, none⟩) hg3).trans x1
              have HT := Lib.hid ht
              clear hc3 ht x1
              have hkw : (k : Int) + 1 ≤ 100 := by omega
              go_wp2_with fail
              refine HLE.out.mono ?_
              rintro e w5 ⟨rfl, hb5⟩
              have HB5 := Lib.hid (HBK.out.trans (hb5.mono hszk))
              have hs5 := hb5.size
              have y2 := (hb5.cell (p := ⟨g3, o3 + k * 2, none⟩) (by show g3 < _; omega)).trans y1
              rw [HRL.out]
              clear hb5 HLE y1 hone
              cases hle : Nm.ratomLeB (p, y) (Dc.rs b (S : Int)) with
              | true =>
                have HM2 := Lib.hid (HM.out.trans (Dc.misL_go (by rw [HL1.out]; exact hlt) (by rw [HT.out]; exact hle)))
                clear hle HM
                go_wp2
                go_roundw
                case rel => exact ⟨k + 1, by omega, by go_num, HM2.out, HB5.out⟩
                case measure => simp [intOf]; omega
              | false =>
                have HM2 := Lib.hid (HM.out.trans (Dc.misL_hit (by rw [HL1.out]; exact hlt) (by rw [HT.out]; exact hle)))
                rw [HT.out] at HM2
                have HF := Lib.hid (Dc.ctrR_mis HO1.out HO2.out (HMR.out.trans (Dc.misS_hit hS2 HM2.out)))
                simp only [Option.map_some] at HF
                clear hle HM
                go_wp2_with fail
                refine (l03Least_any w5 S).mono ?_
                rintro e w6 ⟨g, cap, rfl, ho6, hb6⟩
                have HBE := Lib.hid ((HB4.out.trans (HB5.out.mono HB4.out.size)).trans (hb6.mono (Nat.le_trans HB4.out.size (by omega))))
                have HO6 := Lib.hid (own_base (base' := w.heap.size) ho6 (Nat.le_trans HB4.out.size (by omega)))
                have y3 := (hb6.cell (p := ⟨g3, o3 + k * 2, none⟩) (by show g3 < _; omega)).trans y2
                have hgB := (ho6.lt g rfl).1
                have hwg : w.heap.size ≤ g := Nat.le_trans (Nat.le_trans HB4.out.size (by omega)) hgB
                clear hb6 y2
                by_cases hp : 0 ≤ p
                · obtain ⟨P, rfl⟩ : ∃ P : Nat, p = P := ⟨p.toNat, by omega⟩
                  have HE : Hid (Dc.cenv S (P : Int) = (Sg.least S).set P 100) := by show _ = _; unfold Dc.cenv; rw [if_pos hp, Int.toNat_natCast]
                  obtain ⟨z1, z2⟩ := spotI ho6 (i := P) (by omega)
                  have hkt : ((P : Int)).toNat = P := by omega
                  clear ho6
                  go_wp2
                  go_ret2
                  rw [HF.out, HE.out]
                  exact resB_some (by simp [Sg.least_len]) (putI HO6.out 100) (HBE.out.setCell (p := ⟨g, P, none⟩) hwg _)
                · have HE : Hid (Dc.cenv S p = Sg.least S) := if_neg hp
                  clear ho6
                  go_wp2
                  go_ret2
                  rw [HF.out, HE.out]
                  exact resB_some (Sg.least_len _) HO6.out HBE.out
            · have hkk : ¬ (k : Int) < (L1 : Int) := by omega
              have HM2 := Lib.hid (HMR.out.trans (Dc.misS_go hS2 (HM.out.trans (Dc.misL_end (by rw [HL1.out]; omega)))))
              have HBE := Lib.hid (HB4.out.trans (HBK.out.mono HB4.out.size))
              have HAE := Lib.hid (HA4.out.below (HBK.out.mono (by omega)))
              have HBBE := Lib.hid (HBB4.out.below (HBK.out.mono (by omega)))
              clear HM HA4 HBB4
              go_wp2
              go_roundw
              case rel => exact ⟨S + 1, by omega, by go_num, HM2.out, HBE.out, HAE.out, HBBE.out, by omega⟩
              case measure => simp [intOf]; omega
        · have hS3 : ¬ (S : Int) ≤ 31 := by omega
          have HF := Lib.hid (Dc.ctrR_mis HO1.out HO2.out (HMR.out.trans (Dc.misS_end (by omega))))
          have HBE := HBR
          clear hS2 hS HBR HAR HBBR
          go_wp2
          go_ret2
          rw [HF.out]
          exact resB_none HBE.out
end Go.Proofs.YtmbcjddahncocaaDoor
