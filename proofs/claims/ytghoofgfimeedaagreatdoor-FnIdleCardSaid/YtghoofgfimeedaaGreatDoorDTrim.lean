/- LevelTrim: the program's and the reference model's; slices.Clone over tokens, slices.Contains over numbers. -/
import Derived.Test.YtghoofgfimeedaaGreatDoorDIdle
import Derived.Test.YtghoofgfimeedaaGreatDoorNUp

namespace Go.Proofs.YtghoofgfimeedaaGreatDoor
open Go.RowKit

set_option maxRecDepth 100000 in
set_option maxHeartbeats 800000 in
theorem cloneT_any (w : World) (B : Nat) (A : Option Addr) (n c : Nat) (l : List (Int × Int)) (hB : B ≤ w.heap.size) (hl : TokR w B A n l) (h1 : 1 ≤ n) (hn : n ≤ 1000) :
    Calls Tryz.prog 18 #[.slice A n c] w fun e w' => ∃ g cap, e = .returned (.slice (some ⟨g, 0, none⟩) n cap) ∧ OwnT w' w.heap.size (some ⟨g, 0, none⟩) n cap l ∧ Below w.heap.size w w' := by
  obtain ⟨i0, hi, hz0, hz1, hz2⟩ := info_parts info_tok
  have hb0 : Below w.heap.size w (w.alloc (.cells #[] 41)) := (Below.refl _ _).alloc (Nat.le_refl _) _
  obtain ⟨q, rfl, hq⟩ := (hl.below (hb0.mono hB)).tokA (by omega)
  have ho0 : OwnT (w.alloc (.cells #[] 41)) w.heap.size (some ⟨w.heap.size, 0, none⟩) 0 0 [] := World.ownsRow_made w #[] 0 (Nat.le_refl _) (by simp [maxLen]) (by simp)
  have hcl := tokCells_len l
  rw [hl.1] at hcl
  have HCL := Lib.hid hcl
  have hnil := Lib.run_eql_slice_nil (P := Tryz.prog)
  clear hcl hl
  go_enter Tryz.func18, Tryz.ntmps18
  go_wp2_with (at_builtin; refine wpList_append_own _ rfl (.tmp 5) (.tmp 6) 24 rfl w.heap.size 41 i0 (.agg #[.int .i64 0, .int .i64 0]) 2 16 Tryz.underlying24 hi hz0 hz1 hz2 rfl (by decide) (.slice (some ⟨w.heap.size, 0, none⟩) 0 0) 0 (tokCells []) rfl ho0 q n c (tokCells l) rfl HCL.out hq.2 (tokCells_one l) (by unfold maxLen; omega) (by omega) (by simp) ?_; intro v' w3 hown' hgrow hnil)
  obtain ⟨g', cap', rfl⟩ : ∃ g' cap', v' = .slice (some ⟨g', 0, none⟩) n cap' := by
    rcases hown'.2 with ⟨h0, _⟩ | ⟨g', cap', _, h0, _⟩
    · have := (hnil.1 h0).1
      cases this
    · rw [Nat.zero_add] at h0; exact ⟨g', cap', h0⟩
  have HB3 : Hid (Below w.heap.size w w3) := hb0.grown hgrow (by simp) (fun k h => by have h' : w.heap.size = k := (by simpa [Value.ownBlock] using h); omega)
  have HW0 : Hid (OwnT w3 w.heap.size (some ⟨g', 0, none⟩) n cap' l) := by
    show OwnT _ _ _ _ _ _
    have h := hown'
    rw [tokCells_nil, List.nil_append, Nat.zero_add] at h
    exact h
  clear hown' hgrow hnil ho0 hq hb0
  go_wp2
  go_ret
  exact ⟨g', cap', rfl, HW0.out, HB3.out⟩


theorem Dc.trimR_len (l : List (Int × Int)) : ((Dc.trimR l).getD []).length ≤ 24 := by
  unfold Dc.trimR
  split
  · rename_i h
    simp only [Option.getD_some, Dc.trimL, List.length_map]
    exact (Dc.ok_two h).2
  · simp
/-- a number is among them -/
def inI (l : List Int) (v : Int) : Bool := l.contains v
theorem getD_mem {l : List Int} {v : Int} {k : Nat} (hk : k < l.length) (h : l.getD k 0 = v) : inI l v = true := by
  unfold inI
  rw [List.contains_iff_mem, ← h, List.getD_eq_getElem?_getD, List.getElem?_eq_getElem hk]
  exact List.getElem_mem _
theorem getD_not {l : List Int} {v : Int} (h : ∀ k, k < l.length → l.getD k 0 ≠ v) : inI l v = false := by
  unfold inI
  cases e : l.contains v with
  | false => rfl
  | true =>
    obtain ⟨k, hk, he⟩ := List.getElem_of_mem (List.contains_iff_mem.1 e)
    exact absurd (by rw [List.getD_eq_getElem?_getD, List.getElem?_eq_getElem hk]; exact he) (h k hk)

set_option maxHeartbeats 800000 in
theorem indexI_any (w : World) (B : Nat) (A : Option Addr) (n c : Nat) (l : List Int) (v : Int) (hl : IntR w B A n l) (hn : n ≤ 1000) :
    Calls Tryz.prog 38 #[.slice A n c, .int .i64 v] w fun e w' => ∃ r : Int, e = .returned (.int .i64 r) ∧ w' = w ∧ Hid (decide (0 ≤ r) = inI l v) := by
  go_enter Tryz.func38, Tryz.ntmps38
  go_wp2
  go_loop [8] (fun i => ∃ k : Nat, k ≤ n ∧ i = .int .i64 k ∧ Hid (∀ j, j < k → l.getD j 0 ≠ v)) (fun i => n - (intOf i).toNat)
  case atStart => exact ⟨0, Nat.zero_le _, rfl, fun j hj => absurd hj (by omega)⟩
  case round =>
    obtain ⟨k, hk, rfl, HA⟩ := hrel
    by_cases hlt : k < n
    · obtain ⟨b1, off, rfl, hb1, hc⟩ := hl.2 (by omega)
      have x1 := hc k hlt
      obtain ⟨t, ht⟩ : ∃ t, l.getD k 0 = t := ⟨_, rfl⟩
      rw [ht] at x1
      have HT := Lib.hid ht
      have HL := Lib.hid hl.1
      have hki : (k : Int) < (n : Int) := by omega
      clear hc ht hl
      by_cases heq : v = t
      · subst heq
        have HM := Lib.hid (getD_mem (l := l) (v := v) (k := k) (by rw [HL.out]; exact hlt) HT.out)
        go_wp2
        go_ret
        exact ⟨k, rfl, rfl, by show _ = _; rw [HM.out]; simp⟩
      · have e2 : (v == t) = false := by simpa using heq
        have HA2 : Hid (∀ j, j < k + 1 → l.getD j 0 ≠ v) := fun j hj => by
          by_cases e : j = k
          · subst e; rw [HT.out]; exact fun h => heq h.symm
          · exact HA.out j (by omega)
        clear heq
        go_wp2
        go_round
        case rel => exact ⟨k + 1, by omega, by go_num, HA2.out⟩
        case measure => simp [intOf]; omega
    · obtain rfl : k = n := by omega
      have HM := Lib.hid (getD_not (l := l) (v := v) (by rw [hl.1]; exact HA.out))
      have hkk : ¬ (k : Int) < (k : Int) := by omega
      clear hl
      go_wp2
      go_ret
      exact ⟨-1, rfl, rfl, by show _ = _; rw [HM.out]; rfl⟩

set_option maxHeartbeats 800000 in
theorem containsI_any (w : World) (B : Nat) (A : Option Addr) (n c : Nat) (l : List Int) (v : Int) (hl : IntR w B A n l) (hn : n ≤ 1000) :
    Calls Tryz.prog 19 #[.slice A n c, .int .i64 v] w fun e w' => e = .returned (.bool (inI l v)) ∧ w' = w := by
  go_enter Tryz.func19, Tryz.ntmps19
  go_wp2_with fail
  refine (indexI_any w B A n c l v hl hn).mono ?_
  rintro e w1 ⟨r, rfl, rfl, HR⟩
  clear hl
  go_wp2
  go_ret
  exact ⟨by rw [← HR.out]; rfl, rfl⟩

set_option maxHeartbeats 800000 in
theorem l04In_any (w : World) (B : Nat) (A : Option Addr) (n c : Nat) (l : List Int) (v : Int) (hl : IntR w B A n l) (hn : n ≤ 1000) :
    Calls Tryz.prog 22 #[.slice A n c, .int .i64 v] w fun e w' => e = .returned (.bool (inI l v)) ∧ w' = w := by
  go_enter Tryz.func22, Tryz.ntmps22
  go_wp2
  go_loop [5] (fun i => ∃ k : Nat, k ≤ n ∧ i = .int .i64 k ∧ Hid (∀ j, j < k → l.getD j 0 ≠ v)) (fun i => n - (intOf i).toNat)
  case atStart => exact ⟨0, Nat.zero_le _, rfl, fun j hj => absurd hj (by omega)⟩
  case round =>
    obtain ⟨k, hk, rfl, HA⟩ := hrel
    by_cases hlt : k < n
    · obtain ⟨b1, off, rfl, hb1, hc⟩ := hl.2 (by omega)
      have x1 := hc k hlt
      obtain ⟨t, ht⟩ : ∃ t, l.getD k 0 = t := ⟨_, rfl⟩
      rw [ht] at x1
      have HT := Lib.hid ht
      have HL := Lib.hid hl.1
      have hki : (k : Int) < (n : Int) := by omega
      clear hc ht hl
      by_cases heq : t = v
      · subst heq
        have HM := Lib.hid (getD_mem (l := l) (v := t) (k := k) (by rw [HL.out]; exact hlt) HT.out)
        go_wp2
        go_ret
        exact ⟨by rw [HM.out]; rfl, rfl⟩
      · have e2 : (t == v) = false := by simpa using heq
        have HA2 : Hid (∀ j, j < k + 1 → l.getD j 0 ≠ v) := fun j hj => by
          by_cases e : j = k
          · subst e; rw [HT.out]; exact heq
          · exact HA.out j (by omega)
        clear heq
        go_wp2
        go_round
        case rel => exact ⟨k + 1, by omega, by go_num, HA2.out⟩
        case measure => simp [intOf]; omega
    · obtain rfl : k = n := by omega
      have HM := Lib.hid (getD_not (l := l) (v := v) (by rw [hl.1]; exact HA.out))
      have hkk : ¬ (k : Int) < (k : Int) := by omega
      clear hl
      go_wp2
      go_ret
      exact ⟨by rw [HM.out]; rfl, rfl⟩

theorem tokCells_put (l : List (Int × Int)) (k : Nat) (a b : Int) : ((tokCells l).set (k * 2) (.int .i64 a)).set (k * 2 + 1) (.int .i64 b) = tokCells (l.set k (a, b)) := by
  induction l generalizing k with
  | nil => rfl
  | cons t r ih =>
    cases k with
    | zero => rfl
    | succ k =>
      have e : tokCells (t :: r) = .int .i64 t.1 :: .int .i64 t.2 :: tokCells r := rfl
      rw [e, show (k + 1) * 2 = k * 2 + 1 + 1 by omega, List.set_cons_succ, List.set_cons_succ, List.set_cons_succ, List.set_cons_succ, ih, List.set_cons_succ]
      rfl
theorem own_putT {w : World} {base g n c k : Nat} {l : List (Int × Int)} (h : OwnT w base (some ⟨g, 0, none⟩) n c l) (a b : Int) :
    OwnT ((w.setCell ⟨g, k * 2, none⟩ (.int .i64 a)).setCell ⟨g, k * 2 + 1, none⟩ (.int .i64 b)) base (some ⟨g, 0, none⟩) n c (l.set k (a, b)) := by
  have := own_put (own_put h (k * 2) (.int .i64 a)) (k * 2 + 1) (.int .i64 b)
  rw [tokCells_put] at this
  exact this
theorem own_spotT {w : World} {base g n c j : Nat} {l : List (Int × Int)} (h : OwnT w base (some ⟨g, 0, none⟩) n c l) (hj : j < n * 2) : (∃ v, w.cell? ⟨g, j, none⟩ = some v) ∧ w.frozen? ⟨g, j, none⟩ = false := by
  rcases h.2 with ⟨h0, _⟩ | ⟨g', cap, cur, hv, hb, hgg, h1, h2, h3, h4⟩
  · cases h0
  · injection hv with e1 e2 e3
    injection e1 with e1
    injection e1 with e1
    subst e1; subst e3
    have hblk : Blk w g 41 cur := hgg
    refine ⟨⟨cur[j]'(by rw [h3]; omega), ?_⟩, hblk.thawed j⟩
    rw [hblk.cell, Array.getElem?_eq_getElem]
/-- the tokens with the first k of them trimmed -/
noncomputable def trimTo (I : List Int) (l : List (Int × Int)) (k : Nat) : List (Int × Int) := (l.take k).map (Dc.trimT I) ++ l.drop k
theorem trimTo_zero (I : List Int) (l : List (Int × Int)) : trimTo I l 0 = l := by simp [trimTo]
theorem trimTo_all (I : List Int) (l : List (Int × Int)) {k : Nat} (h : l.length = k) : trimTo I l k = Dc.trimL I l := by
  unfold trimTo Dc.trimL
  rw [List.take_of_length_le (by omega), List.drop_eq_nil_of_le (by omega), List.append_nil]
theorem trimTo_get (I : List Int) {l : List (Int × Int)} {k : Nat} (hk : k < l.length) : (trimTo I l k).getD k (0, 0) = l.getD k (0, 0) := by
  unfold trimTo
  rw [List.getD_eq_getElem?_getD, List.getD_eq_getElem?_getD, List.getElem?_append_right (by simp; omega)]
  simp [show min k l.length = k by omega]
theorem take_get {l : List (Int × Int)} {k : Nat} (hk : k < l.length) : l.take (k + 1) = l.take k ++ [l.getD k (0, 0)] := by
  rw [List.take_succ_eq_append_getElem hk, List.getD_eq_getElem?_getD, List.getElem?_eq_getElem hk]
  rfl
theorem trimTo_set (I : List Int) {l : List (Int × Int)} {k : Nat} (hk : k < l.length) (t : Int × Int) (ht : Dc.trimT I (l.getD k (0, 0)) = t) : (trimTo I l k).set k t = trimTo I l (k + 1) := by
  unfold trimTo
  rw [take_get hk, List.map_append, List.map_cons, List.map_nil, ht, List.set_append_right _ _ (by simp; omega), List.length_map, List.length_take, show k - min k l.length = 0 by omega, List.drop_eq_getElem_cons hk, List.set_cons_zero, List.append_assoc]
  rfl
theorem trimTo_same (I : List Int) {l : List (Int × Int)} {k : Nat} (hk : k < l.length) (ht : Dc.trimT I (l.getD k (0, 0)) = l.getD k (0, 0)) : trimTo I l (k + 1) = trimTo I l k := by
  unfold trimTo
  rw [take_get hk, List.map_append, List.map_cons, List.map_nil, ht, List.append_assoc]
  congr 1
  rw [List.drop_eq_getElem_cons hk, List.getD_eq_getElem?_getD, List.getElem?_eq_getElem hk]
  rfl
theorem resP_some {w w' : World} {g cap n : Nat} {l : List (Int × Int)} (hl : l.length = n) (ho : OwnT w' w.heap.size (some ⟨g, 0, none⟩) n cap l) (hb : Below w.heap.size w w') : ResP w (some l) (.returned (.tuple #[.slice (some ⟨g, 0, none⟩) n cap, .bool true])) w' :=
  ⟨some ⟨g, 0, none⟩, cap, by simp [hl], by simpa [hl] using ho, hb⟩

set_option maxRecDepth 100000 in
set_option maxHeartbeats 3200000 in
theorem implTrim_any (w : World) (B : Nat) (A : Option Addr) (n c : Nat) (l : List (Int × Int)) (T : TypeId) (pv : Value) (h0 : 0 < B) (hB : B ≤ w.heap.size)
    (hl : TokR w B A n l) (hn : n ≤ 1048576) (hE : ErrAt w T pv) :
    Calls Tryz.prog 6 #[.slice A n c] w (ResP w (Dc.trimR l)) := by
  cases h1 : Lv.levelOk l with
  | false =>
    have HF : Hid (Dc.trimR l = none) := if_neg (by rw [h1]; decide)
    have HO := Lib.hid h1
    clear h1
    go_enter Tryz.func6, Tryz.ntmps6
    go_wp2_with fail
    refine (levelOk_any w B A n c l T pv h0 hB hl (by omega) hE).mono ?_
    rintro e w1 ⟨rfl, hb1⟩
    rw [HO.out]
    clear hl
    go_wp2
    go_ret2
    rw [HF.out]
    exact resP_none hb1
  | true =>
    have HF : Hid (Dc.trimR l = some (Dc.trimL (Dc.idleR l) l)) := if_pos h1
    have HO := Lib.hid h1
    have h24 := (Dc.ok_two h1)
    rw [hl.1] at h24
    clear h1
    go_enter Tryz.func6, Tryz.ntmps6
    go_wp2_with fail
    refine (levelOk_any w B A n c l T pv h0 hB hl (by omega) hE).mono ?_
    rintro e w1 ⟨rfl, hb1⟩
    rw [HO.out]
    have hs1 := hb1.size
    go_wp2_with fail
    refine (implIdle_any w1 B A n c l T pv h0 (by omega) (hl.below (hb1.mono hB)) hn (hE.below (hb1.mono hB) h0)).mono ?_
    rintro e w2 ⟨Ai, ci, rfl, hoi, hb2⟩
    have hb02 := hb1.trans (hb2.mono hs1)
    have hs2 := hb2.size
    have h5 := Dc.idleR_len l
    obtain ⟨M, hM⟩ : ∃ M, (Dc.idleR l).length = M := ⟨_, rfl⟩
    rw [hM] at hoi h5 ⊢
    have HI := Lib.hid (OwnI.reads hoi)
    clear hM hoi hb1 hb2
    go_wp2_with fail
    refine (cloneT_any w2 B A n c l (by omega) (hl.below (hb02.mono hB)) (by omega) (by omega)).mono ?_
    rintro e w3 ⟨g, cap, rfl, ho3, hb3⟩
    have hg3 := (ho3.lt g rfl).1
    have HLN := Lib.hid hl.1
    have HO3 := Lib.hid ho3
    have HB3 := Lib.hid hb3
    have HB02 := Lib.hid hb02
    have hs3 := hb3.size
    clear ho3 hb3 hb02 hl
    go_wp2
    go_loopw [17] (fun i wr => ∃ k : Nat, k ≤ n ∧ i = .int .i64 k ∧ Hid (OwnT wr w2.heap.size (some ⟨g, 0, none⟩) n cap (trimTo (Dc.idleR l) l k)) ∧ Hid (Below w2.heap.size w2 wr)) (fun i _ => n - (intOf i).toNat)
    case atStart => exact ⟨0, Nat.zero_le _, rfl, by rw [trimTo_zero]; exact HO3.out, HB3.out⟩
    case round =>
      obtain ⟨k, hk, rfl, HOW, HBR⟩ := hrel
      have hszr := HBR.out.size
      by_cases hlt : k < n
      · have hki : (k : Int) < (n : Int) := by omega
        have hkl : k < l.length := by rw [HLN.out]; exact hlt
        obtain ⟨gg, oo, hA, _, hc⟩ := (OwnT.reads HOW.out).2 (by omega)
        injection hA with hA
        injection hA with e1 e2
        subst e1; subst e2
        obtain ⟨x1, x2⟩ := hc k hlt
        rw [trimTo_get _ hkl] at x1 x2
        have HS := Lib.hid (trimTo_set (Dc.idleR l) hkl)
        have HSM := Lib.hid (trimTo_same (Dc.idleR l) hkl)
        obtain ⟨t, ht⟩ : ∃ t, l.getD k (0, 0) = t := ⟨_, rfl⟩
        rw [ht] at x1 x2 HS HSM
        obtain ⟨p, q⟩ := t
        simp only [Nat.zero_add] at x1 x2
        have hglt : g < wr.heap.size := (HOW.out.lt g rfl).2
        have HBA := Lib.hid (HBR.out.alloc hszr (.cells #[.int .i64 p, .int .i64 q] 41))
        have HOA := Lib.hid (HOW.out.alloc (.cells #[.int .i64 p, .int .i64 q] 41))
        clear hc ht hkl
        by_cases hp4 : p = 4
        · subst hp4
          go_wp2_with fail
          refine (containsI_any _ w2.heap.size Ai M ci (Dc.idleR l) q (HI.out.below HBA.out) (by omega)).mono ?_
          rintro e w4 ⟨rfl, rfl⟩
          cases hin : inI (Dc.idleR l) q with
          | true =>
            have HSET := Lib.hid (HS.out (0, 0) (if_pos ⟨rfl, hin⟩))
            obtain ⟨⟨v1, y1⟩, z1⟩ := own_spotT HOW.out (j := k * 2) (by omega)
            obtain ⟨⟨v2, y2⟩, z2⟩ := own_spotT HOW.out (j := k * 2 + 1) (by omega)
            clear hin
            go_wp2
            go_roundw
            case rel => exact ⟨k + 1, by omega, by go_num, by rw [← HSET.out]; exact (own_putT HOW.out 0 0).alloc _, ((HBR.out.setCell (p := ⟨g, k * 2, none⟩) hg3 _).setCell (p := ⟨g, k * 2 + 1, none⟩) hg3 _).alloc (by simpa [World.setCell] using hszr) _⟩
            case measure => simp [intOf]; omega
          | false =>
            have HSET := Lib.hid (HSM.out (if_neg (fun h => by rw [show (Dc.idleR l).contains q = false from hin] at h; cases h.2)))
            clear hin
            go_wp2
            go_roundw
            case rel => exact ⟨k + 1, by omega, by go_num, by rw [HSET.out]; exact HOA.out, HBA.out⟩
            case measure => simp [intOf]; omega
        · have HSET := Lib.hid (HSM.out (if_neg (fun h => hp4 h.1)))
          have d4 : (p == 4) = false := by simpa using hp4
          clear hp4
          go_wp2
          go_roundw
          case rel => exact ⟨k + 1, by omega, by go_num, by rw [HSET.out]; exact HOA.out, HBA.out⟩
          case measure => simp [intOf]; omega
      · obtain rfl : k = n := by omega
        have hkk : ¬ (k : Int) < (k : Int) := by omega
        have HAL := Lib.hid (trimTo_all (Dc.idleR l) l HLN.out)
        have HBE := Lib.hid (HB02.out.trans (HBR.out.mono (by omega)))
        go_wp2
        go_ret2
        rw [HF.out, ← HAL.out]
        exact resP_some (by rw [HAL.out]; simpa [Dc.trimL] using HLN.out) (own_base HOW.out (by omega)) HBE.out

theorem newsT3 (X : World) (o : Obj) (p x : Int) : ∀ j u, [Value.int .i64 p, .int .i64 x][j]? = some u → ((X.alloc o).alloc (.cells #[.int .i64 p, .int .i64 x] 41)).cell? ((⟨X.heap.size + 1, 0, none⟩ : Addr).add j) = some u := by
  have h := World.news_of_block (w := (X.alloc o).alloc (.cells #[.int .i64 p, .int .i64 x] 41)) (cs := #[.int .i64 p, .int .i64 x]) (t := 41) (fr := (0, 0)) (heap_alloc_new (X.alloc o) _)
  simpa using h
theorem trimL_take (I : List Int) {l : List (Int × Int)} {k : Nat} (hk : k < l.length) : (l.take (k + 1)).map (Dc.trimT I) = (l.take k).map (Dc.trimT I) ++ [Dc.trimT I (l.getD k (0, 0))] := by
  rw [take_get hk, List.map_append]
  rfl

set_option maxRecDepth 100000 in
set_option maxHeartbeats 3200000 in
theorem specTrim_any (w : World) (B : Nat) (A : Option Addr) (n c : Nat) (l : List (Int × Int)) (hB : B ≤ w.heap.size)
    (hl : TokR w B A n l) (hn : n ≤ 1048576) :
    Calls Tryz.prog 7 #[.slice A n c] w (ResP w (Dc.trimR l)) := by
  obtain ⟨i0, hi, hz0, hz1, hz2⟩ := info_parts info_tok
  cases h1 : Lv.levelOk l with
  | false =>
    have HF : Hid (Dc.trimR l = none) := if_neg (by rw [h1]; decide)
    have HO := Lib.hid h1
    clear h1
    go_enter Tryz.func7, Tryz.ntmps7
    go_wp2_with fail
    refine (specOk_any w B A n c l hB hl (by omega)).mono ?_
    rintro e w1 ⟨rfl, hb1⟩
    rw [HO.out]
    clear hl
    go_wp2
    go_ret2
    rw [HF.out]
    exact resP_none hb1
  | true =>
    have HF : Hid (Dc.trimR l = some (Dc.trimL (Dc.idleR l) l)) := if_pos h1
    have HO := Lib.hid h1
    have h24 := (Dc.ok_two h1)
    rw [hl.1] at h24
    clear h1
    go_enter Tryz.func7, Tryz.ntmps7
    go_wp2_with fail
    refine (specOk_any w B A n c l hB hl (by omega)).mono ?_
    rintro e w1 ⟨rfl, hb1⟩
    rw [HO.out]
    have hs1 := hb1.size
    go_wp2_with fail
    refine (specIdle_any w1 B A n c l (by omega) (hl.below (hb1.mono hB)) hn).mono ?_
    rintro e w2 ⟨Ai, ci, rfl, hoi, hb2⟩
    have hb02 := hb1.trans (hb2.mono hs1)
    have hs2 := hb2.size
    have h5 := Dc.idleR_len l
    obtain ⟨M, hM⟩ : ∃ M, (Dc.idleR l).length = M := ⟨_, rfl⟩
    rw [hM] at hoi h5 ⊢
    have HI := Lib.hid (OwnI.reads hoi)
    have HL2 := Lib.hid (hl.below (hb02.mono hB))
    have HLN := Lib.hid hl.1
    have HB02 := Lib.hid hb02
    have HO3 : Hid (OwnT (w2.alloc (.cells #[] 41)) w2.heap.size (some ⟨w2.heap.size, 0, none⟩) 0 0 []) := World.ownsRow_made w2 #[] 0 (Nat.le_refl _) (by simp [maxLen]) (by simp)
    have HB3 : Hid (Below w2.heap.size w2 (w2.alloc (.cells #[] 41))) := (Below.refl _ _).alloc (Nat.le_refl _) _
    clear hM hoi hb1 hb2 hl hb02
    go_wp2
    go_loopw [5, 6] (fun v i wr => ∃ (k g cap : Nat), k ≤ n ∧ i = .int .i64 k ∧ v = .slice (some ⟨g, 0, none⟩) k cap ∧ Hid (OwnT wr w2.heap.size (some ⟨g, 0, none⟩) k cap ((l.take k).map (Dc.trimT (Dc.idleR l)))) ∧ Hid (Below w2.heap.size w2 wr)) (fun _ i _ => n - (intOf i).toNat)
    case atStart => exact ⟨0, w2.heap.size, 0, Nat.zero_le _, rfl, rfl, HO3.out, HB3.out⟩
    case round =>
      obtain ⟨k, g, cap, hk, rfl, rfl, HOW, HBR⟩ := hrel
      have hszr := HBR.out.size
      by_cases hlt : k < n
      · have hki : (k : Int) < (n : Int) := by omega
        have HTK := Lib.hid (trimL_take (Dc.idleR l) (l := l) (k := k) (by rw [HLN.out]; exact hlt))
        obtain ⟨b1, off, hA, hb1, hc⟩ := HL2.out.2 (by omega)
        obtain ⟨x1, x2⟩ := hc k hlt
        obtain ⟨t, ht⟩ : ∃ t, l.getD k (0, 0) = t := ⟨_, rfl⟩
        rw [ht] at x1 x2 HTK
        obtain ⟨p, q⟩ := t
        subst hA
        have k1 := (HBR.out.cell (p := ⟨b1, off + k * 2, none⟩) (by show b1 < _; omega)).trans x1
        have k2 := (HBR.out.cell (p := ⟨b1, off + k * 2 + 1, none⟩) (by show b1 < _; omega)).trans x2
        clear hc ht x1 x2
        obtain ⟨tl, htl⟩ : ∃ tl, (l.take k).map (Dc.trimT (Dc.idleR l)) = tl := ⟨_, rfl⟩
        rw [htl] at HOW HTK
        clear htl
        have fin : ∀ (X : World) (u v : Int), Hid (Dc.trimT (Dc.idleR l) (p, q) = (u, v)) → ∀ (g2 cap2 : Nat), X.ownsRow w2.heap.size 41 2 (.slice (some ⟨g2, 0, none⟩) (k + 1) cap2) (k + 1) (tokCells tl ++ [.int .i64 u, .int .i64 v]) → Hid (OwnT X w2.heap.size (some ⟨g2, 0, none⟩) (k + 1) cap2 ((l.take (k + 1)).map (Dc.trimT (Dc.idleR l)))) := fun X u v hT g2 cap2 h => by
          show OwnT _ _ _ _ _ _
          rw [HTK.out, hT.out]
          unfold OwnT
          rw [tokCells_append]
          exact h
        by_cases hp4 : p = 4
        · subst hp4
          have HBA := Lib.hid (HBR.out.alloc hszr (.cells #[.int .i64 4, .int .i64 q] 41))
          go_wp2_with fail
          refine (l04In_any _ w2.heap.size Ai M ci (Dc.idleR l) q (HI.out.below HBA.out) (by omega)).mono ?_
          rintro e w4 ⟨rfl, rfl⟩
          cases hin : inI (Dc.idleR l) q with
          | true =>
            have HT : Hid (Dc.trimT (Dc.idleR l) (4, q) = (0, 0)) := if_pos ⟨rfl, hin⟩
            have hown := HOW.out
            clear hin
            go_wp2_with (at_builtin; refine wpList_append_own _ rfl (.tmp 34) (.tmp 36) 24 rfl w2.heap.size 41 i0 (.agg #[.int .i64 0, .int .i64 0]) 2 16 Tryz.underlying24 hi hz0 hz1 hz2 rfl (by decide) (.slice (some ⟨g, 0, none⟩) k cap) k (tokCells tl) rfl ((hown.alloc _).alloc _) ⟨wr.heap.size + 1, 0, none⟩ 1 1 [.int .i64 0, .int .i64 0] rfl rfl (newsT3 _ _ _ _) (fun u hu => by simp at hu; rcases hu with rfl | rfl <;> rfl) (by unfold maxLen; omega) (by omega) (by simp; omega) ?_; intro v' w5 hown' hgrow hnil)
            obtain ⟨g2, cap2, rfl⟩ : ∃ g' cap', v' = .slice (some ⟨g', 0, none⟩) (k + 1) cap' := by
              rcases hown'.2 with ⟨h0, _⟩ | ⟨g', cap', _, h0, _⟩
              · have := (hnil.1 h0).1
                cases this
              · exact ⟨g', cap', h0⟩
            have HB5 : Hid (Below w2.heap.size w2 w5) := ((HBR.out.alloc hszr _).alloc (by simp; omega) _).grown hgrow (by simp; omega) (fun k h => (hown.lt k h).1)
            have HW := fin w5 0 0 HT g2 cap2 hown'
            clear hown hown' hgrow hnil fin
            go_wp2
            go_roundw
            case rel => exact ⟨k + 1, g2, cap2, by omega, by go_num, rfl, HW.out, HB5.out⟩
            case measure => simp [intOf]; omega
          | false =>
            have HT : Hid (Dc.trimT (Dc.idleR l) (4, q) = (4, q)) := if_neg (fun h => by rw [show (Dc.idleR l).contains q = false from hin] at h; cases h.2)
            have hown := HOW.out
            clear hin
            go_wp2_with (at_builtin; refine wpList_append_own _ rfl (.tmp 34) (.tmp 36) 24 rfl w2.heap.size 41 i0 (.agg #[.int .i64 0, .int .i64 0]) 2 16 Tryz.underlying24 hi hz0 hz1 hz2 rfl (by decide) (.slice (some ⟨g, 0, none⟩) k cap) k (tokCells tl) rfl ((hown.alloc _).alloc _) ⟨wr.heap.size + 1, 0, none⟩ 1 1 [.int .i64 4, .int .i64 q] rfl rfl (newsT3 _ _ _ _) (fun u hu => by simp at hu; rcases hu with rfl | rfl <;> rfl) (by unfold maxLen; omega) (by omega) (by simp; omega) ?_; intro v' w5 hown' hgrow hnil)
            obtain ⟨g2, cap2, rfl⟩ : ∃ g' cap', v' = .slice (some ⟨g', 0, none⟩) (k + 1) cap' := by
              rcases hown'.2 with ⟨h0, _⟩ | ⟨g', cap', _, h0, _⟩
              · have := (hnil.1 h0).1
                cases this
              · exact ⟨g', cap', h0⟩
            have HB5 : Hid (Below w2.heap.size w2 w5) := ((HBR.out.alloc hszr _).alloc (by simp; omega) _).grown hgrow (by simp; omega) (fun k h => (hown.lt k h).1)
            have HW := fin w5 4 q HT g2 cap2 hown'
            clear hown hown' hgrow hnil fin
            go_wp2
            go_roundw
            case rel => exact ⟨k + 1, g2, cap2, by omega, by go_num, rfl, HW.out, HB5.out⟩
            case measure => simp [intOf]; omega
        · have HT : Hid (Dc.trimT (Dc.idleR l) (p, q) = (p, q)) := if_neg (fun h => hp4 h.1)
          have d4 : (p == 4) = false := by simpa using hp4
          have hown := HOW.out
          clear hp4
          go_wp2_with (at_builtin; refine wpList_append_own _ rfl (.tmp 34) (.tmp 36) 24 rfl w2.heap.size 41 i0 (.agg #[.int .i64 0, .int .i64 0]) 2 16 Tryz.underlying24 hi hz0 hz1 hz2 rfl (by decide) (.slice (some ⟨g, 0, none⟩) k cap) k (tokCells tl) rfl ((hown.alloc _).alloc _) ⟨wr.heap.size + 1, 0, none⟩ 1 1 [.int .i64 p, .int .i64 q] rfl rfl (newsT3 _ _ _ _) (fun u hu => by simp at hu; rcases hu with rfl | rfl <;> rfl) (by unfold maxLen; omega) (by omega) (by simp; omega) ?_; intro v' w5 hown' hgrow hnil)
          obtain ⟨g2, cap2, rfl⟩ : ∃ g' cap', v' = .slice (some ⟨g', 0, none⟩) (k + 1) cap' := by
            rcases hown'.2 with ⟨h0, _⟩ | ⟨g', cap', _, h0, _⟩
            · have := (hnil.1 h0).1
              cases this
            · exact ⟨g', cap', h0⟩
          have HB5 : Hid (Below w2.heap.size w2 w5) := ((HBR.out.alloc hszr _).alloc (by simp; omega) _).grown hgrow (by simp; omega) (fun k h => (hown.lt k h).1)
          have HW := fin w5 p q HT g2 cap2 hown'
          clear hown hown' hgrow hnil fin
          go_wp2
          go_roundw
          case rel => exact ⟨k + 1, g2, cap2, by omega, by go_num, rfl, HW.out, HB5.out⟩
          case measure => simp [intOf]; omega
      · obtain rfl : k = n := by omega
        have hkk : ¬ (k : Int) < (k : Int) := by omega
        have HAL : Hid ((l.take k).map (Dc.trimT (Dc.idleR l)) = Dc.trimL (Dc.idleR l) l) := by show _ = _; rw [List.take_of_length_le (by rw [HLN.out]; exact Nat.le_refl _)]; rfl
        have HBE := Lib.hid (HB02.out.trans (HBR.out.mono (by omega)))
        go_wp2
        go_ret2
        rw [HF.out, ← HAL.out]
        exact resP_some (by rw [HAL.out]; simpa [Dc.trimL] using HLN.out) (own_base HOW.out (by omega)) HBE.out
end Go.Proofs.YtghoofgfimeedaaGreatDoor
