/- slices.Concat over slices of tokens. -/
/- LevelSucc of the program and of the reference model. -/
import Derived.Test.YtgebjnoicgmdoaaGreatDoorSlc
import Derived.Test.YtgebjnoicgmdoaaGreatDoorSpec

namespace Go.Proofs.YtgebjnoicgmdoaaGreatDoor
open Go.RowKit

theorem flat_take {α : Type} (ls : List (List α)) (k : Nat) (hk : k < ls.length) : (ls.take (k + 1)).flatten = (ls.take k).flatten ++ ls.getD k [] := by
  rw [List.take_succ_eq_append_getElem hk, List.flatten_append]
  simp [List.getD_eq_getElem?_getD, List.getElem?_eq_getElem hk]
theorem flat_le {α : Type} (ls : List (List α)) (k : Nat) : (ls.take k).flatten.length ≤ ls.flatten.length := by
  have h : ls.flatten = (ls.take k).flatten ++ (ls.drop k).flatten := by rw [← List.flatten_append, List.take_append_drop]
  rw [h]; simp

/-- the slices that are joined: their values in a row at block gs, their tokens below B -/
def Parts (w : World) (B gs : Nat) (ad : Nat → Addr) (cp : Nat → Nat) (ls : List (List (Int × Int))) : Prop :=
  gs < B ∧ ∀ i, i < ls.length → w.cell? ⟨gs, i, none⟩ = some (.slice (some (ad i)) (ls.getD i []).length (cp i)) ∧ TokA w B (ad i) (ls.getD i [])
theorem Parts.below {w w' : World} {B gs : Nat} {ad : Nat → Addr} {cp : Nat → Nat} {ls : List (List (Int × Int))} (h : Parts w B gs ad cp ls) (hb : Below B w w') : Parts w' B gs ad cp ls :=
  ⟨h.1, fun i hi => ⟨(hb.cell (p := ⟨gs, i, none⟩) h.1).trans (h.2 i hi).1, (h.2 i hi).2.below hb⟩⟩

set_option maxRecDepth 100000 in
set_option maxHeartbeats 1600000 in
theorem concat_any (w : World) (B gs cs : Nat) (ad : Nat → Addr) (cp : Nat → Nat) (ls : List (List (Int × Int))) (hB : B ≤ w.heap.size) (hp : Parts w B gs ad cp ls) (hm : ls.length ≤ 10) (h1 : 1 ≤ ls.flatten.length) (hn : ls.flatten.length ≤ 1000) :
    Calls Tryz.prog 143 #[.slice (some ⟨gs, 0, none⟩) ls.length cs] w (ResT w ls.flatten) := by
  obtain ⟨i0, hi, hz0, hz1, hz2⟩ := info_parts info_tok
  go_enter Tryz.func143, Tryz.ntmps143
  go_wp2
  go_loop [3, 11] (fun s i => ∃ k : Nat, k ≤ ls.length ∧ i = .int .i64 k ∧ s = .int .i64 ((ls.take k).flatten.length : Nat)) (fun _ i => ls.length - (intOf i).toNat)
  case atStart => exact ⟨0, Nat.zero_le _, rfl, rfl⟩
  case round =>
    obtain ⟨k, hk, rfl, rfl⟩ := hrel
    have hle := flat_le ls k
    by_cases hlt : k < ls.length
    · have hc := (hp.2 k hlt).1
      have HF := Lib.hid (congrArg List.length (flat_take ls k hlt))
      have hle2 := flat_le ls (k + 1)
      have hsum : (ls.take k).flatten.length + (ls.getD k []).length ≤ 1000 := by
        have := HF.out
        simp at this
        simp at hle2
        have : (List.take (k + 1) ls).flatten.length ≤ ls.flatten.length := by simpa using flat_le ls (k + 1)
        rw [HF.out, List.length_append] at this
        omega
      have HP := Lib.hid hp
      obtain ⟨a, ha⟩ : ∃ a, (ls.take k).flatten.length = a := ⟨_, rfl⟩
      obtain ⟨b, hb⟩ : ∃ b, (ls.getD k []).length = b := ⟨_, rfl⟩
      have HF2 : Hid ((ls.take (k + 1)).flatten.length = a + b) := by
        show _ = _
        rw [HF.out, List.length_append, ha, hb]
      rw [hb] at hc
      rw [ha, hb] at hsum
      have HA := Lib.hid ha
      rw [ha]
      clear ha hb hle hle2 HF hp
      go_wp2
      go_round
      case rel => exact ⟨k + 1, by omega, by go_num, by rw [HF2.out]; go_num⟩
      case measure => simp [intOf]; omega
    · obtain rfl : k = ls.length := by omega
      have ht : (ls.take ls.length).flatten.length = ls.flatten.length := by rw [List.take_length]
      rw [ht]
      have HT := Lib.hid ht
      obtain ⟨N, hN⟩ : ∃ N, ls.flatten.length = N := ⟨_, rfl⟩
      rw [hN] at h1 hn ⊢
      have HN := Lib.hid hN
      clear ht hN hle hlt
      go_wp2_with fail
      refine (grow_nil N h1 hn w).mono ?_
      rintro e w1 ⟨g, c, rfl, ho1, hb1⟩
      simp only [List.length_nil] at ho1 ⊢
      have HO1 := Lib.hid ho1
      clear ho1
      go_wp2
      go_loopw [6, 27] (fun v i wr => ∃ (k g c : Nat), k ≤ ls.length ∧ i = .int .i64 k ∧ v = .slice (some ⟨g, 0, none⟩) (ls.take k).flatten.length c ∧ OwnT wr w.heap.size (some ⟨g, 0, none⟩) (ls.take k).flatten.length c (ls.take k).flatten ∧ Below w.heap.size w wr) (fun _ i _ => ls.length - (intOf i).toNat)
      case atStart => exact ⟨0, g, c, Nat.zero_le _, rfl, rfl, HO1.out, hb1⟩
      case round =>
        obtain ⟨k, g, c, hk, rfl, rfl, hown, hbel⟩ := hrel
        have hszr := hbel.size
        by_cases hlt : k < ls.length
        · have hpr := hp.below (hbel.mono hB)
          obtain ⟨hc, hT⟩ := hpr.2 k hlt
          have HF := Lib.hid (flat_take ls k hlt)
          have hle2 : (ls.take (k + 1)).flatten.length ≤ N := by rw [← HN.out]; exact flat_le ls (k + 1)
          have HTA := Lib.hid hT
          obtain ⟨L, hL⟩ : ∃ L, ls.getD k [] = L := ⟨_, rfl⟩
          obtain ⟨F, hF⟩ : ∃ F, (ls.take k).flatten = F := ⟨_, rfl⟩
          have HF2 : Hid ((ls.take (k + 1)).flatten = F ++ L) := by
            show _ = _
            rw [HF.out, hL, hF]
          rw [HF2.out, List.length_append] at hle2
          rw [hL] at hc HTA
          rw [hF] at hown ⊢
          have HP := Lib.hid hp
          have HPR := Lib.hid hpr
          obtain ⟨q, hq⟩ : ∃ q, ad k = q := ⟨_, rfl⟩
          rw [hq] at hc HTA
          clear hL hF HF hT hp hpr hq
          go_wp2_with (at_builtin; refine wpList_append_own _ rfl (.tmp 31) (.tmp 32) 25 rfl w.heap.size 51 i0 (.agg #[.int .i64 0, .int .i64 0]) 2 16 Tryz.underlying25 hi hz0 hz1 hz2 rfl (by decide) (.slice (some ⟨g, 0, none⟩) F.length c) F.length (tokCells F) rfl hown q L.length (cp k) (tokCells L) rfl (tokCells_len L) HTA.out.2 (tokCells_one L) (by unfold maxLen; omega) (by omega) hszr ?_; intro v' w3 hown' hgrow hnil)
          · obtain ⟨g', cap', rfl⟩ : ∃ g' cap', v' = .slice (some ⟨g', 0, none⟩) (F.length + L.length) cap' := by
              rcases hown'.2 with ⟨h0, _⟩ | ⟨g', cap', _, h0, _⟩
              · have := (hnil.1 h0).1
                cases this
              · exact ⟨g', cap', h0⟩
            have HB1 : Hid (Below w.heap.size w w3) := hbel.grown hgrow hszr (fun k h => (hown.lt k h).1)
            have HW : Hid (OwnT w3 w.heap.size (some ⟨g', 0, none⟩) (ls.take (k + 1)).flatten.length cap' (ls.take (k + 1)).flatten) := by
              show OwnT _ _ _ _ _ _
              rw [HF2.out, List.length_append]
              unfold OwnT
              rw [tokCells_append]
              exact hown'
            have HLn : Hid ((ls.take (k + 1)).flatten.length = F.length + L.length) := by show _ = _; rw [HF2.out, List.length_append]
            clear hown hown' hgrow hbel hnil
            go_wp2
            go_roundw
            case rel => exact ⟨k + 1, g', cap', by omega, by go_num, by rw [HLn.out], HW.out, HB1.out⟩
            case measure => simp [intOf]; omega
        · obtain rfl : k = ls.length := by omega
          rw [List.take_length] at hown ⊢
          have HO := Lib.hid hown
          clear hown
          go_wp2
          go_ret
          exact ⟨g, c, rfl, HO.out, hbel⟩
end Go.Proofs.YtgebjnoicgmdoaaGreatDoor

namespace Go.Proofs.YtgebjnoicgmdoaaGreatDoor
open Go.RowKit

/-- a call gives back a slice of tokens of its own and whether there is one -/
def ResP (w : World) (r : Option (List (Int × Int))) (e : Ending) (w' : World) : Prop :=
  ∃ A c, e = .returned (.tuple #[.slice A (r.getD []).length c, .bool r.isSome]) ∧ OwnT w' w.heap.size A (r.getD []).length c (r.getD []) ∧ Below w.heap.size w w'
theorem resP_none {w w' : World} (hb : Below w.heap.size w w') : ResP w none (.returned (.tuple #[.slice none 0 0, .bool false])) w' := ⟨none, 0, rfl, World.ownsRow_nil _ _ _ _, hb⟩

theorem tkOk_sx : Lv.tkOk (1, 0) = true := by decide
theorem hts_sxs (n : Nat) (m : Int) (hm : 1 ≤ m) : Lv.hts (sxs n) m = some m := by
  induction n with
  | zero => rfl
  | succ n ih =>
    have : sxs (n + 1) = (1, 0) :: sxs n := rfl
    rw [this, Lv.hts, if_pos ⟨tkOk_sx, by simp [Lv.takes]; omega⟩]
    simpa [Lv.takes] using ih
theorem ok_sxs {l : List (Int × Int)} (h : Lv.levelOk l = true) (n : Nat) : Lv.levelOk (l ++ sxs n) = decide (l.length + n ≤ 24) := by
  simp only [Lv.levelOk, Bool.and_eq_true, decide_eq_true_eq] at h
  have hh : Lv.hts (l ++ sxs n) 0 = some 1 := by rw [Lv.hts_append, h.2, Option.bind_some, hts_sxs n 1 (by omega)]
  have hl : (sxs n).length = n := by simp [sxs]
  simp only [Lv.levelOk, hh, List.length_append, hl, decide_true, Bool.and_true]
  by_cases h24 : l.length + n ≤ 24
  · simp [h24]; omega
  · simp [h24]

/-- the cells of one new token -/
theorem Blk.tokA2 (w : World) (a b : Int) : ∀ j u, (tokCells [(a, b)])[j]? = some u → (w.alloc (.cells #[.int .i64 a, .int .i64 b] 51)).cell? ((⟨w.heap.size, 0, none⟩ : Addr).add j) = some u := by
  intro j u hu
  rw [own_adds, (Blk.made w 51 #[.int .i64 a, .int .i64 b]).cell]
  have hj : j = 0 ∨ j = 1 := by
    have := (List.getElem?_eq_some_iff.1 hu).1
    rw [tokCells_len] at this
    simp at this
    omega
  rcases hj with rfl | rfl
  · simpa [tokCells] using hu
  · simpa [tokCells] using hu

/-- LevelSucc's answer -/
def succR (l : List (Int × Int)) (n : Int) : Option (List (Int × Int)) :=
  if Lv.levelOk l = true ∧ 0 ≤ n ∧ n ≤ 24 - (l.length : Int) then some (l ++ sxs n.toNat) else none

set_option maxRecDepth 100000 in
set_option maxHeartbeats 1600000 in
theorem implSucc_any (w : World) (B : Nat) (A : Option Addr) (n c : Nat) (l : List (Int × Int)) (k : Int) (T : TypeId) (pv : Value) (h0 : 1 < B) (hB : B ≤ w.heap.size)
    (hl : TokR w B A n l) (hn : n ≤ 1048576) (hE : ErrAt w T pv) :
    Calls Tryz.prog 116 #[.slice A n c, .int .i64 k] w (ResP w (succR l k)) := by
  cases hok : Lv.levelOk l with
  | false =>
    have HO := Lib.hid hok
    have HP : Hid (succR l k = none) := by show _ = _; simp [succR, hok]
    clear hok
    go_enter Tryz.func116, Tryz.ntmps116
    go_wp2_with fail
    refine (levelOk_any w B A n c l T pv h0 hB hl (by omega) hE).mono ?_
    rintro e w1 ⟨rfl, hb1⟩
    rw [HO.out]
    go_wp2
    go_ret2
    rw [HP.out]
    exact resP_none hb1
  | true =>
    have HO := Lib.hid hok
    have hln : 1 ≤ n ∧ n ≤ 24 := by
      have := hl.1
      simp [Lv.levelOk] at hok
      omega
    obtain ⟨hn1, hn24⟩ := hln
    by_cases hk0 : k < 0
    · have HP : Hid (succR l k = none) := by show _ = _; rw [succR, if_neg (by omega)]
      clear hok
      go_enter Tryz.func116, Tryz.ntmps116
      go_wp2_with fail
      refine (levelOk_any w B A n c l T pv h0 hB hl (by omega) hE).mono ?_
      rintro e w1 ⟨rfl, hb1⟩
      rw [HO.out]
      go_wp2
      go_ret2
      rw [HP.out]
      exact resP_none hb1
    · by_cases hkn : 24 - (n : Int) < k
      · have HP : Hid (succR l k = none) := by show _ = _; rw [succR, if_neg (by rw [hl.1]; omega)]
        clear hok
        go_enter Tryz.func116, Tryz.ntmps116
        go_wp2_with fail
        refine (levelOk_any w B A n c l T pv h0 hB hl (by omega) hE).mono ?_
        rintro e w1 ⟨rfl, hb1⟩
        rw [HO.out]
        go_wp2
        go_ret2
        rw [HP.out]
        exact resP_none hb1
      · obtain ⟨m, rfl⟩ := Int.eq_ofNat_of_zero_le (show 0 ≤ k by omega)
        have HP : Hid (succR l (m : Int) = some (l ++ sxs m)) := by
          show _ = _
          rw [succR, if_pos ⟨hok, by omega, by rw [hl.1]; omega⟩]
          simp
        clear hok
        go_enter Tryz.func116, Tryz.ntmps116
        go_wp2_with fail
        refine (levelOk_any w B A n c l T pv h0 hB hl (by omega) hE).mono ?_
        rintro e w1 ⟨rfl, hb1⟩
        rw [HO.out]
        have hz1 := hb1.size
        go_wp2_with fail
        refine (repeat_one m (by omega) _ w1.heap.size 1 (by simp) (by simp [go_sem]) (by simp [go_sem])).mono ?_
        rintro e w2 ⟨g, c2, rfl, ho2, hb2⟩
        have hz2 := hb2.size
        simp only [World.size_alloc] at hz2
        have hb12 : Below w.heap.size w w2 := (hb1.alloc hz1 _).trans (hb2.mono (by simp; omega))
        obtain ⟨q, rfl, hq⟩ := (hl.below (hb12.mono hB)).tokA (by omega)
        have ha2 : TokA w2 w2.heap.size ⟨g, 0, none⟩ (sxs m) := OwnT.tokA ho2
        have hls : (sxs m).length = m := by simp [sxs]
        have HLS := Lib.hid hls
        have HPt : Hid (Parts (w2.alloc (.cells #[.slice (some q) n c, .slice (some ⟨g, 0, none⟩) (sxs m).length c2] 25)) (w2.heap.size + 1) w2.heap.size (fun i => if i = 0 then q else ⟨g, 0, none⟩) (fun i => if i = 0 then c else c2) [l, sxs m]) := by
          have hba : Below w2.heap.size w2 (w2.alloc (.cells #[.slice (some q) n c, .slice (some ⟨g, 0, none⟩) (sxs m).length c2] 25)) := (Below.refl _ _).alloc (Nat.le_refl _) _
          have hbk := Blk.made w2 25 #[.slice (some q) n c, .slice (some ⟨g, 0, none⟩) (sxs m).length c2]
          refine ⟨by omega, fun i hi => ?_⟩
          have hi2 : i = 0 ∨ i = 1 := by simp at hi; omega
          rcases hi2 with rfl | rfl
          · refine ⟨(hbk.cell 0).trans ?_, (hq.more (B' := w2.heap.size + 1) (by have := hb12.size; omega)).1, fun j u hu => ?_⟩
            · simp [hl.1]
            · exact ((hq.more (B' := w2.heap.size) (by have := hb12.size; omega)).below hba).2 j u hu
          · exact ⟨(hbk.cell 1).trans rfl, (ha2.more (B' := w2.heap.size + 1) (by omega)).1, (ha2.below hba).2⟩
        have HBA := Lib.hid (hb12.alloc hb12.size (.cells #[.slice (some q) n c, .slice (some ⟨g, 0, none⟩) (sxs m).length c2] 25))
        have HFL : Hid ([l, sxs m].flatten = l ++ sxs m) := by show _ = _; simp
        have HFn : Hid ([l, sxs m].flatten.length = n + m) := by show _ = _; simp [hl.1, sxs]
        have HS2 := Lib.hid hb12.size
        clear ho2 hb2 ha2 hq hls hb12
        go_wp2_with fail
        refine (concat_any _ (w2.heap.size + 1) w2.heap.size 2 _ _ [l, sxs m] (by simp) HPt.out (by simp) (by rw [HFn.out]; omega) (by rw [HFn.out]; omega)).mono ?_
        rintro e w3 ⟨g3, c3, rfl, ho3, hb3⟩
        rw [HFL.out] at ho3 ⊢
        have HO3 := Lib.hid (own_base (base' := w.heap.size) ho3 (by have := HS2.out; simp; omega))
        have HB3 := Lib.hid (HBA.out.trans (hb3.mono (by have := HS2.out; simp; omega)))
        clear ho3 hb3
        go_wp2
        go_ret2
        rw [HP.out]
        exact ⟨some ⟨g3, 0, none⟩, c3, by simp, HO3.out, HB3.out⟩

/-- what is given back is handed on, if it is a level -/
def ifR (l : List (Int × Int)) : Option (List (Int × Int)) := if Lv.levelOk l = true then some l else none

set_option maxHeartbeats 800000 in
theorem l01If_any (w : World) (base : Nat) (A : Option Addr) (n c : Nat) (l : List (Int × Int)) (hn : (n : Int) ≤ 140737488355328) (ho : OwnT w base A n c l) :
    Calls Tryz.prog 115 #[.slice A n c] w fun e w' => (∃ A' c', e = .returned (.tuple #[.slice A' ((ifR l).getD []).length c', .bool (ifR l).isSome]) ∧ OwnT w' base A' ((ifR l).getD []).length c' ((ifR l).getD [])) ∧ Below w.heap.size w w' := by
  have hl := OwnT.reads ho
  cases hok : Lv.levelOk l with
  | false =>
    have HO := Lib.hid hok
    have HI : Hid (ifR l = none) := by show _ = _; simp [ifR, hok]
    clear hok
    go_enter Tryz.func115, Tryz.ntmps115
    go_wp2_with fail
    refine (specOk_any w w.heap.size A n c l (Nat.le_refl _) hl hn).mono ?_
    rintro e w1 ⟨rfl, hb1⟩
    rw [HO.out]
    go_wp2
    go_ret2
    rw [HI.out]
    exact ⟨⟨none, 0, rfl, World.ownsRow_nil _ _ _ _⟩, hb1⟩
  | true =>
    have HO := Lib.hid hok
    have HI : Hid (ifR l = some l) := by show _ = _; simp [ifR, hok]
    have HN := Lib.hid hl.1
    clear hok
    go_enter Tryz.func115, Tryz.ntmps115
    go_wp2_with fail
    refine (specOk_any w w.heap.size A n c l (Nat.le_refl _) hl hn).mono ?_
    rintro e w1 ⟨rfl, hb1⟩
    have HW := Lib.hid (own_below' ho hb1)
    rw [HO.out]
    clear ho hl
    go_wp2
    go_ret2
    rw [HI.out]
    refine ⟨⟨A, c, ?_, ?_⟩, hb1⟩
    · simp [HN.out]
    · have h := HW.out
      simpa [HN.out] using h

theorem sxs_succ (m : Nat) (l : List (Int × Int)) : l ++ sxs (m + 1) = (l ++ sxs m) ++ [(1, 0)] := by
  simp [sxs, List.replicate_succ']

theorem succR_if {l : List (Int × Int)} {m : Nat} (hok : Lv.levelOk l = true) : succR l (m : Int) = ifR (l ++ sxs m) := by
  unfold succR ifR
  rw [ok_sxs hok]
  by_cases h : l.length + m ≤ 24
  · rw [if_pos ⟨hok, by omega, by omega⟩, if_pos (by simpa using h)]
    simp
  · rw [if_neg (by omega), if_neg (by simpa using h)]

set_option maxRecDepth 100000 in
set_option maxHeartbeats 1600000 in
theorem specSucc_any (w : World) (B : Nat) (A : Option Addr) (n c : Nat) (l : List (Int × Int)) (k : Int) (hB : B ≤ w.heap.size)
    (hl : TokR w B A n l) (hn : n ≤ 1048576) :
    Calls Tryz.prog 81 #[.slice A n c, .int .i64 k] w (ResP w (succR l k)) := by
  obtain ⟨i0, hi, hz0, hz1, hz2⟩ := info_parts info_tok
  cases hok : Lv.levelOk l with
  | false =>
    have HO := Lib.hid hok
    have HP : Hid (succR l k = none) := by show _ = _; simp [succR, hok]
    clear hok
    go_enter Tryz.func81, Tryz.ntmps81
    go_wp2_with fail
    refine (specOk_any w B A n c l hB hl (by omega)).mono ?_
    rintro e w1 ⟨rfl, hb1⟩
    rw [HO.out]
    go_wp2
    go_ret2
    rw [HP.out]
    exact resP_none hb1
  | true =>
    have HO := Lib.hid hok
    have hln : 1 ≤ n ∧ n ≤ 24 := by
      have := hl.1
      simp [Lv.levelOk] at hok
      omega
    obtain ⟨hn1, hn24⟩ := hln
    by_cases hk0 : k < 0
    · have HP : Hid (succR l k = none) := by show _ = _; rw [succR, if_neg (by omega)]
      clear hok
      go_enter Tryz.func81, Tryz.ntmps81
      go_wp2_with fail
      refine (specOk_any w B A n c l hB hl (by omega)).mono ?_
      rintro e w1 ⟨rfl, hb1⟩
      rw [HO.out]
      go_wp2
      go_ret2
      rw [HP.out]
      exact resP_none hb1
    · by_cases hkn : 24 < k
      · have HP : Hid (succR l k = none) := by show _ = _; rw [succR, if_neg (by rw [hl.1]; omega)]
        clear hok
        go_enter Tryz.func81, Tryz.ntmps81
        go_wp2_with fail
        refine (specOk_any w B A n c l hB hl (by omega)).mono ?_
        rintro e w1 ⟨rfl, hb1⟩
        rw [HO.out]
        go_wp2
        go_ret2
        rw [HP.out]
        exact resP_none hb1
      · obtain ⟨m, rfl⟩ := Int.eq_ofNat_of_zero_le (show 0 ≤ k by omega)
        have HP := Lib.hid (succR_if (m := m) hok)
        have d0 : decide ((m : Int) < 0) = false := decide_eq_false (by omega)
        have d1 : decide ((24 : Int) < (m : Int)) = false := decide_eq_false (by omega)
        clear hok
        go_enter Tryz.func81, Tryz.ntmps81
        go_wp2_with fail
        refine (specOk_any w B A n c l hB hl (by omega)).mono ?_
        rintro e w1 ⟨rfl, hb1⟩
        rw [HO.out]
        have hz1' := hb1.size
        have hb1a : Below w.heap.size w (w1.alloc (.cells #[] 51)) := hb1.alloc hz1' _
        obtain ⟨q, rfl, hq⟩ := (hl.below (hb1a.mono hB)).tokA (by omega)
        have HL := Lib.hid hl.1
        have ho0 : OwnT (w1.alloc (.cells #[] 51)) w.heap.size (some ⟨w1.heap.size, 0, none⟩) 0 0 [] := World.ownsRow_made w1 #[] 0 hz1' (by simp [maxLen]) (by simp)
        have hcl := tokCells_len l
        rw [hl.1] at hcl
        have HCL := Lib.hid hcl
        clear hcl hl
        go_wp2_with (at_builtin; refine wpList_append_own _ rfl (.tmp 18) (.tmp 19) 25 rfl w.heap.size 51 i0 (.agg #[.int .i64 0, .int .i64 0]) 2 16 Tryz.underlying25 hi hz0 hz1 hz2 rfl (by decide) (.slice (some ⟨w1.heap.size, 0, none⟩) 0 0) 0 (tokCells []) rfl ho0 q n c (tokCells l) rfl HCL.out hq.2 (tokCells_one l) (by unfold maxLen; omega) (by omega) (by simp; omega) ?_; intro v' w3 hown' hgrow hnil)
        obtain ⟨g', cap', rfl⟩ : ∃ g' cap', v' = .slice (some ⟨g', 0, none⟩) n cap' := by
          rcases hown'.2 with ⟨h0, _⟩ | ⟨g', cap', _, h0, _⟩
          · have := (hnil.1 h0).1
            cases this
          · rw [Nat.zero_add] at h0; exact ⟨g', cap', h0⟩
        have HB3 : Hid (Below w.heap.size w w3) := hb1a.grown hgrow (by simp; omega) (fun k h => by have h' : w1.heap.size = k := (by simpa [Value.ownBlock] using h); omega)
        have HW0 : Hid (OwnT w3 w.heap.size (some ⟨g', 0, none⟩) (n + 0) cap' (l ++ sxs 0)) := by
          show OwnT _ _ _ _ _ _
          have h := hown'
          rw [tokCells_nil, List.nil_append, Nat.zero_add] at h
          simpa [sxs] using h
        clear hown' hgrow hnil ho0 hq hb1a hb1
        go_wp2
        go_loopw [1, 6] (fun i v wr => ∃ (j g c : Nat), j ≤ m ∧ i = .int .i64 ((m : Int) - (j : Int)) ∧ v = .slice (some ⟨g, 0, none⟩) (n + j) c ∧ OwnT wr w.heap.size (some ⟨g, 0, none⟩) (n + j) c (l ++ sxs j) ∧ Below w.heap.size w wr) (fun i _ _ => (intOf i).toNat)
        case atStart => exact ⟨0, g', cap', Nat.zero_le _, by simp, by simp, HW0.out, HB3.out⟩
        case round =>
          obtain ⟨j, g, c1, hj, rfl, rfl, hown, hbel⟩ := hrel
          have hszr := hbel.size
          by_cases hlt : j < m
          · have hpos : (0 : Int) < (m : Int) - (j : Int) := by omega
            go_wp2_with (at_builtin; refine wpList_append_own _ rfl (.tmp 25) (.tmp 27) 25 rfl w.heap.size 51 i0 (.agg #[.int .i64 0, .int .i64 0]) 2 16 Tryz.underlying25 hi hz0 hz1 hz2 rfl (by decide) (.slice (some ⟨g, 0, none⟩) (n + j) c1) (n + j) (tokCells (l ++ sxs j)) rfl (hown.alloc _) ⟨wr.heap.size, 0, none⟩ 1 1 (tokCells [(1, 0)]) rfl rfl (Blk.tokA2 _ _ _) (tokCells_one _) (by unfold maxLen; omega) (by omega) (by simp; omega) ?_; intro v' w4 hown' hgrow hnil)
            obtain ⟨g2, cap2, rfl⟩ : ∃ g' cap', v' = .slice (some ⟨g', 0, none⟩) (n + j + 1) cap' := by
              rcases hown'.2 with ⟨h0, _⟩ | ⟨g', cap', _, h0, _⟩
              · have := (hnil.1 h0).1
                cases this
              · exact ⟨g', cap', h0⟩
            have HB4 : Hid (Below w.heap.size w w4) := (hbel.alloc hszr _).grown hgrow (by simp; omega) (fun k h => (hown.lt k h).1)
            have HW : Hid (OwnT w4 w.heap.size (some ⟨g2, 0, none⟩) (n + (j + 1)) cap2 (l ++ sxs (j + 1))) := by
              show OwnT _ _ _ _ _ _
              unfold OwnT
              rw [sxs_succ, tokCells_append]
              exact hown'
            clear hown hown' hgrow hbel hnil
            go_wp2
            go_roundw
            case rel => exact ⟨j + 1, g2, cap2, by omega, by go_num, by simp [Nat.add_assoc], HW.out, HB4.out⟩
            case measure => simp [intOf]; omega
          · obtain rfl : j = m := by omega
            have hnp : ¬ ((0 : Int) < (j : Int) - (j : Int)) := by omega
            have hzz : (j : Int) - (j : Int) = 0 := by omega
            rw [hzz] at hnp ⊢
            have HO2 := Lib.hid hown
            clear hown hzz
            go_wp2_with fail
            refine (l01If_any wr w.heap.size _ (n + j) c1 (l ++ sxs j) (by omega) HO2.out).mono ?_
            rintro e w5 ⟨⟨A', c', rfl, ho5⟩, hb5⟩
            have HO5 := Lib.hid ho5
            have HB5 := Lib.hid (hbel.trans (hb5.mono hszr))
            clear ho5 hb5
            go_wp2
            go_ret2
            rw [HP.out]
            exact ⟨A', c', rfl, HO5.out, HB5.out⟩
end Go.Proofs.YtgebjnoicgmdoaaGreatDoor
