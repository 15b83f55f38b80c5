/- NormUp of the program and of the reference model. -/
/- The reference model's norm of a list of atoms. -/
import Derived.Test.YtgebjnoicgmdoaaGreatDoorCls
import Derived.Test.YtgebjnoicgmdoaaGreatDoorMeth
import Derived.Deep.AppendLies

namespace Go.Proofs.YtgebjnoicgmdoaaGreatDoor
open Go.RowKit

/-- a call gives back a slice of atoms of its own and a bool -/
def ResA (w : World) (R : Option (List (Int × Int))) (e : Ending) (w' : World) : Prop :=
  ∃ A c, e = .returned (.tuple #[.slice A (R.getD []).length c, .bool R.isSome]) ∧ OwnA w' w.heap.size A (R.getD []).length c (R.getD []) ∧ Below w.heap.size w w'
theorem resA_none {w w' : World} (hb : Below w.heap.size w w') : ResA w none (.returned (.tuple #[.slice none 0 0, .bool false])) w' := ⟨none, 0, rfl, World.ownsRow_nil _ _ _ _, hb⟩

theorem own_put {w : World} {base g n c size : Nat} {e : TypeId} {xs : List Value} (h : w.ownsRow base e size (.slice (some ⟨g, 0, none⟩) n c) n xs) (i : Nat) (u : Value) :
    (w.setCell ⟨g, i, none⟩ u).ownsRow base e size (.slice (some ⟨g, 0, none⟩) n c) n (xs.set i u) := by
  refine ⟨by rw [List.length_set]; exact h.1, ?_⟩
  rcases h.2 with ⟨h0, _⟩ | ⟨g', cap, cur, hv, hb, hgg, h1, h2, h3, h4⟩
  · cases h0
  · injection hv with e1 e2 e3
    injection e1 with e1
    injection e1 with e1
    subst e1; subst e3
    refine .inr ⟨g, c, _, rfl, hb, Blk.put (w := w) (t := e) hgg i u, h1, h2, by simp [h3], ?_⟩
    rw [Array.toList_setIfInBounds, List.take_set, h4]
theorem tokCells_set (l : List (Int × Int)) (j : Nat) (p x y : Int) (h : l[j]? = some (p, x)) : tokCells (l.set j (p, y)) = (tokCells l).set (j * 2 + 1) (.int .i64 y) := by
  induction l generalizing j with
  | nil => simp at h
  | cons t r ih =>
    cases j with
    | zero =>
      simp at h
      subst h
      rfl
    | succ j =>
      rw [List.set_cons_succ, tokCells_cons, tokCells_cons, ih j (by simpa using h), show (j + 1) * 2 + 1 = j * 2 + 1 + 1 + 1 by omega, List.set_cons_succ, List.set_cons_succ]

theorem up_take (k : Int) (l : List (Int × Int)) (j : Nat) (hj : j < l.length) : Nm.up k (l.take (j + 1)) = Nm.up k (l.take j) ++ [((l.getD j (0, 0)).1, (l.getD j (0, 0)).2 + k)] := by
  have e : l.getD j (0, 0) = l[j] := by simp [List.getD_eq_getElem?_getD, List.getElem?_eq_getElem hj]
  rw [List.take_succ_eq_append_getElem hj, e]
  unfold Nm.up
  rw [List.map_append]
  rfl
/-- Offs that a number of this size may be added to -/
def Small (l : List (Int × Int)) : Prop := ∀ j, j < l.length → 0 ≤ (l.getD j (0, 0)).2 ∧ (l.getD j (0, 0)).2 ≤ 1000000

set_option maxRecDepth 100000 in
set_option maxHeartbeats 1600000 in
theorem specUp_any (w : World) (B : Nat) (A : Option Addr) (n c : Nat) (l : List (Int × Int)) (x : Int) (hB : B ≤ w.heap.size) (hl : TokR w B A n l) (hn : n ≤ 1000) (hs : Small l) (hx0 : 0 ≤ x) (hx1 : x ≤ 1000000) :
    Calls Tryz.prog 132 #[.slice A n c, .int .i64 x] w fun e w' => ∃ g cap, e = .returned (.slice (some ⟨g, 0, none⟩) n cap) ∧ OwnA w' w.heap.size (some ⟨g, 0, none⟩) n cap (Nm.up x l) ∧ Below w.heap.size w w' := by
  obtain ⟨i0, hi, hz0, hz1, hz2⟩ := info_parts info_atom
  have HS := Lib.hid hs
  have HO0 : Hid (OwnA (w.alloc (.cells #[] 92)) w.heap.size (some ⟨w.heap.size, 0, none⟩) 0 0 []) := World.ownsRow_made w #[] 0 (Nat.le_refl _) (by simp [maxLen]) (by simp)
  have HB0 : Hid (Below w.heap.size w (w.alloc (.cells #[] 92))) := (Below.refl _ _).alloc (Nat.le_refl _) _
  clear hs
  go_enter Tryz.func132, Tryz.ntmps132
  go_wp2
  go_loopw [5, 6] (fun v i wr => ∃ (k g cap : Nat), k ≤ n ∧ i = .int .i64 k ∧ v = .slice (some ⟨g, 0, none⟩) k cap ∧ OwnA wr w.heap.size (some ⟨g, 0, none⟩) k cap (Nm.up x (l.take k)) ∧ Below w.heap.size w wr) (fun _ i _ => n - (intOf i).toNat)
  case atStart => exact ⟨0, w.heap.size, 0, Nat.zero_le _, rfl, rfl, HO0.out, HB0.out⟩
  case round =>
    obtain ⟨k, g, cap, hk, rfl, rfl, hown, hbel⟩ := hrel
    have hszr := hbel.size
    by_cases hlt : k < n
    · have HU := Lib.hid (up_take x l k (by rw [hl.1]; exact hlt))
      have hsm := HS.out k (by rw [hl.1]; exact hlt)
      obtain ⟨b, off, rfl, hb, hc⟩ := hl.2 (by omega)
      obtain ⟨e1, e2⟩ := hc k hlt
      have HL := Lib.hid hl
      generalize Nm.up x (l.take k) = a at hown HU
      generalize l.getD k (0, 0) = t at e1 e2 HU hsm
      obtain ⟨p, y⟩ := t
      simp only at e1 e2 HU hsm
      obtain ⟨y0, y1⟩ := hsm
      have k1 := (hbel.cell (p := ⟨b, off + k * 2, none⟩) (by show b < _; omega)).trans e1
      have k2 := (hbel.cell (p := ⟨b, off + k * 2 + 1, none⟩) (by show b < _; omega)).trans e2
      have hw1 : IntKind.i64.wrap (y + x) = y + x := by rw [IntKind.wrap_i64]; omega
      have hki : (k : Int) < (n : Int) := by omega
      have H1 : Hid (OwnA (wr.alloc (.cells #[.int .i64 p, .int .i64 (y + x)] 92)).drew w.heap.size (some ⟨g, 0, none⟩) k cap a) := (hown.alloc _).drew
      have H2 : Hid (Below w.heap.size w (wr.alloc (.cells #[.int .i64 p, .int .i64 (y + x)] 92)).drew) := (hbel.alloc hszr _).drew
      have H3 : Hid (∀ j u, ([Value.int .i64 p, .int .i64 (y + x)] : List Value)[j]? = some u → (wr.alloc (.cells #[.int .i64 p, .int .i64 (y + x)] 92)).drew.cell? ((⟨wr.heap.size, 0, none⟩ : Addr).add j) = some u) := World.news_of_block (cs := #[.int .i64 p, .int .i64 (y + x)]) (t := 92) (fr := (0, 0)) (heap_alloc_new wr _)
      have HGL : Hid (∀ j, (Value.slice (some ⟨g, 0, none⟩) k cap).ownBlock = some j → w.heap.size ≤ j) := fun j h => (hown.lt j h).1
      have HE1 := Lib.hid e1
      have HE2 := Lib.hid e2
      have hbw : b < w.heap.size := by omega
      clear e1 e2 hc hl hown
      go_wp2_with fail
      go_region_held3 (fun w' => w'.cell? ⟨b, off + k * 2, none⟩ = some (.int .i64 p) ∧ w'.cell? ⟨b, off + k * 2 + 1, none⟩ = some (.int .i64 y))
        (first
          | go_keep
          | exact ⟨((H2.out.grown hgrow (by simp; omega) HGL.out).cell (p := ⟨b, off + k * 2, none⟩) hbw).trans HE1.out, ((H2.out.grown hgrow (by simp; omega) HGL.out).cell (p := ⟨b, off + k * 2 + 1, none⟩) hbw).trans HE2.out⟩)
        ((refine step_append_lies _ (by rfl) _ _ _ (by rfl) w.heap.size 92 i0 _ 2 16 Tryz.underlying138 hi hz0 hz1 hz2 rfl (by omega) (.slice (some ⟨g, 0, none⟩) k cap) k (tokCells a) (by rfl) H1.out
            ⟨wr.heap.size, 0, none⟩ 1 1 [.int .i64 p, .int .i64 (y + x)] (by rfl) (by rfl) H3.out (by simp [Value.oneCell']) (by omega) (by unfold maxLen; omega) (by omega) (by simp; omega) (wr.heap.size + 1) (by simp) ?_; intro g' cap' w3 hown' hgrow hat hlt3))
      have HB3 : Hid (Below w.heap.size w w3) := H2.out.grown hgrow (by simp; omega) HGL.out
      have HW : Hid (OwnA w3 w.heap.size (some ⟨g', 0, none⟩) (k + 1) cap' (Nm.up x (l.take (k + 1)))) := by
        show OwnA _ _ _ _ _ _
        rw [HU.out]
        unfold OwnA
        rw [tokCells_append]
        exact hown'
      clear hown' hgrow hat hlt3
      go_wp2
      go_roundw
      case rel => exact ⟨k + 1, g', cap', by omega, by go_num, rfl, HW.out, HB3.out⟩
      case measure => simp [intOf]; omega
    · obtain rfl : k = n := by omega
      rw [List.take_of_length_le (by have := hl.1; omega)] at hown
      have HW := Lib.hid hown
      clear hl hown
      go_wp2
      go_ret
      exact ⟨g, cap, rfl, HW.out, hbel⟩
end Go.Proofs.YtgebjnoicgmdoaaGreatDoor

namespace Go.Proofs.YtgebjnoicgmdoaaGreatDoor
open Go.RowKit

set_option maxRecDepth 100000 in
theorem own_lit (w : World) (base : Nat) (a b : Int) (hb : base ≤ w.heap.size) : OwnA (w.alloc (.cells #[.int .i64 a, .int .i64 b] 92)) base (some ⟨w.heap.size, 0, none⟩) 1 1 [(a, b)] :=
  ⟨rfl, .inr ⟨w.heap.size, 1, #[.int .i64 a, .int .i64 b], rfl, hb, heap_alloc_new w _, Nat.le_refl _, by simp [maxLen], rfl, rfl⟩⟩

set_option maxRecDepth 100000 in
set_option maxHeartbeats 3200000 in
theorem specNorm_any (w : World) (B : Nat) (A : Option Addr) (n c : Nat) (l : List (Int × Int)) (hB : B ≤ w.heap.size) (hl : TokR w B A n l) (hn : (n : Int) ≤ 140737488355328) :
    Calls Tryz.prog 153 #[.slice A n c] w fun e w' => ∃ g cap, e = .returned (.slice (some ⟨g, 0, none⟩) (Nm.norm l).length cap) ∧ OwnA w' w.heap.size (some ⟨g, 0, none⟩) (Nm.norm l).length cap (Nm.norm l) ∧ Below w.heap.size w w' := by
  obtain ⟨i0, hi, hz0, hz1, hz2⟩ := info_parts info_atom
  have HO0 : Hid (OwnA (w.alloc (.cells #[] 92)) w.heap.size (some ⟨w.heap.size, 0, none⟩) 0 0 []) := World.ownsRow_made w #[] 0 (Nat.le_refl _) (by simp [maxLen]) (by simp)
  have HB0 : Hid (Below w.heap.size w (w.alloc (.cells #[] 92))) := (Below.refl _ _).alloc (Nat.le_refl _) _
  go_enter Tryz.func153, Tryz.ntmps153
  go_wp2
  go_loopw [3, 4, 5] (fun v m p wr => ∃ (k g cap : Nat), k ≤ 5 ∧ p = .int .i64 k ∧ m = .int .i64 (Nm.most l k) ∧ v = .slice (some ⟨g, 0, none⟩) (Nm.pars l k).length cap ∧ OwnA wr w.heap.size (some ⟨g, 0, none⟩) (Nm.pars l k).length cap (Nm.pars l k) ∧ Below w.heap.size w wr) (fun _ _ p _ => 5 - (intOf p).toNat)
  case atStart => exact ⟨0, w.heap.size, 0, by omega, rfl, rfl, rfl, HO0.out, HB0.out⟩
  case round =>
    obtain ⟨k, g, cap, hk, rfl, rfl, rfl, hown, hbel⟩ := hrel
    have hszr := hbel.size
    have hpl := Nm.pars_len l k
    by_cases hlt : k < 5
    · have HOW := Lib.hid hown
      have hlr := hl.below (hbel.mono hB)
      have hmg := Nm.most_ge l k
      have HPS := Lib.hid (Nm.pars_succ l k)
      have HMS : Hid (Nm.most l (k + 1) = max (Nm.most l k) (Nm.best k l)) := rfl
      have hki : (k : Int) < 5 := by omega
      clear hown
      generalize Nm.most l k = mv at hmg HMS ⊢
      go_wp2
      go_loop [6, 7] (fun v i => ∃ j : Nat, j ≤ n ∧ i = .int .i64 j ∧ v = .int .i64 (Nm.best k (l.take j))) (fun _ i => n - (intOf i).toNat)
      case atStart => exact ⟨0, Nat.zero_le _, rfl, rfl⟩
      case round =>
        obtain ⟨j, hj, rfl, rfl⟩ := hrel
        by_cases hlt2 : j < n
        · have HBT := Lib.hid (Nm.best_take k l j (by rw [hl.1]; exact hlt2))
          obtain ⟨b, off, rfl, hb, hc⟩ := hlr.2 (by omega)
          obtain ⟨e1, e2⟩ := hc j hlt2
          generalize Nm.best k (l.take j) = bv at HBT ⊢
          generalize l.getD j (0, 0) = t at e1 e2 HBT
          obtain ⟨p, x⟩ := t
          simp only at e1 e2 HBT
          have HL := Lib.hid hl
          have HLR := Lib.hid hlr
          have hji : (j : Int) < (n : Int) := by omega
          clear hc hl hlr
          by_cases ep : p = (k : Int)
          · subst ep
            have HB2 : Hid (Nm.best k (l.take (j + 1)) = if bv < x then x else bv) := by show _ = _; rw [HBT.out, if_pos rfl]; split <;> omega
            go_wp2
            go_round
            case rel => exact ⟨j + 1, by omega, by go_num, by rw [HB2.out]⟩
            case measure => simp [intOf]; omega
          · have HB2 : Hid (Nm.best k (l.take (j + 1)) = bv) := by show _ = _; rw [HBT.out, if_neg ep]
            have dp : (p == (k : Int)) = false := by simpa using ep
            clear ep
            go_wp2
            go_round
            case rel => exact ⟨j + 1, by omega, by go_num, by rw [HB2.out]⟩
            case measure => simp [intOf]; omega
        · rw [List.take_of_length_le (by have := hl.1; omega)]
          have hbg := Nm.best_ge k l
          generalize Nm.best k l = bv at HPS HMS hbg ⊢
          clear hlr
          by_cases h0 : 0 ≤ bv
          · have HM2 : Hid (Nm.most l (k + 1) = if mv < bv then bv else mv) := by show _ = _; rw [HMS.out]; split <;> omega
            have HP2 : Hid (Nm.pars l (k + 1) = Nm.pars l k ++ [((k : Int), bv)]) := by show _ = _; rw [HPS.out, if_pos h0]
            generalize Nm.pars l k = a at HOW hpl HP2 ⊢
            have HNB : Hid (∀ j u, ([Value.int .i64 (k : Int), .int .i64 bv] : List Value)[j]? = some u → (wr.alloc (.cells #[.int .i64 (k : Int), .int .i64 bv] 92)).cell? ((⟨wr.heap.size, 0, none⟩ : Addr).add j) = some u) := World.news_of_block (cs := #[.int .i64 (k : Int), .int .i64 bv]) (t := 92) (fr := (0, 0)) (heap_alloc_new wr _)
            have HL := Lib.hid hl
            clear hl
            go_wp2_with (at_builtin; first
              | (refine wpList_append_own _ rfl (.tmp 37) (.tmp 41) 138 rfl w.heap.size 92 i0 (.agg #[.int .i64 0, .int .i64 0]) 2 16 Tryz.underlying138 hi hz0 hz1 hz2 rfl (by decide) (.slice (some ⟨g, 0, none⟩) a.length cap) a.length (tokCells a) rfl (HOW.out.alloc _) ⟨wr.heap.size, 0, none⟩ 1 1 [.int .i64 (k : Int), .int .i64 bv] rfl rfl HNB.out (by intro v hv; simp at hv; rcases hv with rfl | rfl <;> rfl) (by unfold maxLen; omega) (by omega) (by simp; omega) ?_; intro v' w3 hown' hgrow _
                 obtain ⟨g', cap', rfl⟩ : ∃ g' cap', v' = .slice (some ⟨g', 0, none⟩) (a.length + 1) cap' := by
                   rcases hown'.2 with ⟨_, h⟩ | ⟨g', cap', _, h, _⟩
                   · omega
                   · exact ⟨g', cap', h⟩
                 have HB3 : Hid (Below w.heap.size w w3) := (hbel.alloc hszr _).grown hgrow (by simp; omega) (fun j h => (HOW.out.lt j h).1)
                 have HLN : Hid ((Nm.pars l (k + 1)).length = a.length + 1) := by show _ = _; rw [HP2.out, List.length_append]; rfl
                 have HW : Hid (OwnA w3 w.heap.size (some ⟨g', 0, none⟩) (Nm.pars l (k + 1)).length cap' (Nm.pars l (k + 1))) := by
                   show OwnA _ _ _ _ _ _
                   rw [HLN.out, HP2.out]
                   unfold OwnA
                   rw [tokCells_append]
                   exact hown'
                 clear hown' hgrow))
            go_wp2
            go_roundw
            case rel => exact ⟨k + 1, g', cap', by omega, by go_num, by rw [HM2.out], by rw [HLN.out], HW.out, HB3.out⟩
            case measure => simp [intOf]; omega
          · have hb1 : bv = -1 := by omega
            subst hb1
            have HM2 : Hid (Nm.most l (k + 1) = mv) := by show _ = _; rw [HMS.out]; omega
            have HP2 : Hid (Nm.pars l (k + 1) = Nm.pars l k) := by show _ = _; rw [HPS.out, if_neg (by omega), List.append_nil]
            have HL := Lib.hid hl
            clear hl
            go_wp2
            go_roundw
            case rel => exact ⟨k + 1, g, cap, by omega, by go_num, by rw [HM2.out], by rw [HP2.out], by rw [HP2.out]; exact HOW.out, hbel⟩
            case measure => simp [intOf]; omega
    · obtain rfl : k = 5 := by omega
      have HOW := Lib.hid hown
      have hlr := hl.below (hbel.mono hB)
      have HNM : Hid (Nm.norm l = (if Nm.most l 5 < Nm.best (-1) l then [((-1 : Int), Nm.best (-1) l)] else []) ++ Nm.pars l 5) := rfl
      clear hown
      generalize Nm.most l 5 = mv at HNM ⊢
      generalize Nm.pars l 5 = a at HOW hpl HNM ⊢
      go_wp2
      go_loop [8, 9] (fun v i => ∃ j : Nat, j ≤ n ∧ i = .int .i64 j ∧ v = .int .i64 (Nm.best (-1) (l.take j))) (fun _ i => n - (intOf i).toNat)
      case atStart => exact ⟨0, Nat.zero_le _, rfl, rfl⟩
      case round =>
        obtain ⟨j, hj, rfl, rfl⟩ := hrel
        by_cases hlt2 : j < n
        · have HBT := Lib.hid (Nm.best_take (-1) l j (by rw [hl.1]; exact hlt2))
          obtain ⟨b, off, rfl, hb, hc⟩ := hlr.2 (by omega)
          obtain ⟨e1, e2⟩ := hc j hlt2
          generalize Nm.best (-1) (l.take j) = bv at HBT ⊢
          generalize l.getD j (0, 0) = t at e1 e2 HBT
          obtain ⟨p, x⟩ := t
          simp only at e1 e2 HBT
          have HL := Lib.hid hl
          have HLR := Lib.hid hlr
          have hji : (j : Int) < (n : Int) := by omega
          clear hc hl hlr
          by_cases ep : p = -1
          · subst ep
            have HB2 : Hid (Nm.best (-1) (l.take (j + 1)) = if bv < x then x else bv) := by show _ = _; rw [HBT.out, if_pos rfl]; split <;> omega
            go_wp2
            go_round
            case rel => exact ⟨j + 1, by omega, by go_num, by rw [HB2.out]⟩
            case measure => simp [intOf]; omega
          · have HB2 : Hid (Nm.best (-1) (l.take (j + 1)) = bv) := by show _ = _; rw [HBT.out, if_neg ep]
            have dp : (p == -1) = false := by simpa using ep
            clear ep
            go_wp2
            go_round
            case rel => exact ⟨j + 1, by omega, by go_num, by rw [HB2.out]⟩
            case measure => simp [intOf]; omega
        · rw [List.take_of_length_le (by have := hl.1; omega)]
          generalize Nm.best (-1) l = bv at HNM ⊢
          clear hlr
          by_cases hmb : mv < bv
          · have HN2 : Hid (Nm.norm l = [((-1 : Int), bv)] ++ a) := by show _ = _; rw [HNM.out, if_pos hmb]
            have HLN : Hid ((Nm.norm l).length = 1 + a.length) := by show _ = _; rw [HN2.out, List.length_append]; rfl
            have HSRC := Lib.hid (OwnA.reads (HOW.out.alloc (.cells #[.int .i64 (-1), .int .i64 bv] 92)))
            have HSC : Hid (∀ j u, (tokCells a)[j]? = some u → (wr.alloc (.cells #[.int .i64 (-1), .int .i64 bv] 92)).cell? ((⟨g, 0, none⟩ : Addr).add j) = some u) := fun j u hu => (HOW.out.alloc _).cells (g := g) rfl j u hu
            have HL := Lib.hid hl
            clear hl
            go_wp2_with (at_builtin; first
              | (refine wpList_append_own _ rfl (.tmp 70) (.tmp 71) 138 rfl w.heap.size 92 i0 (.agg #[.int .i64 0, .int .i64 0]) 2 16 Tryz.underlying138 hi hz0 hz1 hz2 rfl (by decide) (.slice (some ⟨wr.heap.size, 0, none⟩) 1 1) 1 (tokCells [(-1, bv)]) rfl (own_lit wr w.heap.size (-1) bv hszr) ⟨g, 0, none⟩ a.length cap (tokCells a) rfl (tokCells_len a) HSC.out (tokCells_one a) (by unfold maxLen; omega) (by omega) (by simp; omega) ?_; intro v' w3 hown' hgrow hnil))
            obtain ⟨g', cap', rfl⟩ : ∃ g' cap', v' = .slice (some ⟨g', 0, none⟩) (1 + a.length) cap' := by
              rcases hown'.2 with ⟨_, h⟩ | ⟨g', cap', _, h, _⟩
              · omega
              · exact ⟨g', cap', h⟩
            have HB3 : Hid (Below w.heap.size w w3) := (hbel.alloc hszr _).grown hgrow (by simp; omega) (fun j h => by have h' : wr.heap.size = j := (by simpa [Value.ownBlock] using h); omega)
            have HW : Hid (OwnA w3 w.heap.size (some ⟨g', 0, none⟩) (Nm.norm l).length cap' (Nm.norm l)) := by
              show OwnA _ _ _ _ _ _
              rw [HLN.out, HN2.out]
              unfold OwnA
              rw [tokCells_append]
              exact hown'
            clear hown' hgrow hnil
            go_wp2
            go_ret
            exact ⟨g', cap', by rw [HLN.out]; rfl, HW.out, HB3.out⟩
          · have HN2 : Hid (Nm.norm l = a) := by show _ = _; rw [HNM.out, if_neg hmb, List.nil_append]
            have hmb' : bv ≤ mv := by omega
            clear hl hmb
            go_wp2
            go_ret
            exact ⟨g, cap, by rw [HN2.out]; rfl, by rw [HN2.out]; exact HOW.out, hbel⟩
end Go.Proofs.YtgebjnoicgmdoaaGreatDoor
