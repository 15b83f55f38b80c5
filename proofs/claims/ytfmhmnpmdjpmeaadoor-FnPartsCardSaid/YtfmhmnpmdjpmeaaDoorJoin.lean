/- math/bits.Mul at small numbers; slices.Grow, Repeat and Concat over tokens. -/
/- slices.Concat over slices of tokens. -/
/- LevelSucc of the program and of the reference model. -/
/- LevelJoin of the program and of the reference model. -/
import Derived.Test.YtfmhmnpmdjpmeaaDoorCsMath3
import Derived.Lib.AppendZeros
import Derived.Laws.BitsAllLaws
import Derived.Laws.BitsLemmas
import Derived.Laws.CopyOwn
import Derived.RegionTactic
import Derived.BigRegion
import Derived.Test.YtfmhmnpmdjpmeaaDoorAvS

namespace Go.Proofs.YtfmhmnpmdjpmeaaDoor
open Go.RowKit

/-- a token that is a successor, n times -/
def sxs (n : Nat) : List (Int × Int) := List.replicate n (1, 0)
/-- a slice value that is not nil, its cells those of the tokens l, below block B -/
def TokA (w : World) (B : Nat) (ad : Addr) (l : List (Int × Int)) : Prop := ad.block < B ∧ ∀ j u, (tokCells l)[j]? = some u → w.cell? (ad.add j) = some u
theorem TokA.below {w w' : World} {B : Nat} {ad : Addr} {l : List (Int × Int)} (h : TokA w B ad l) (hb : Below B w w') : TokA w' B ad l :=
  ⟨h.1, fun j u hu => by
    have hbl : (ad.add j).block = ad.block := by unfold Addr.add; split <;> rfl
    exact (hb.cell (by rw [hbl]; exact h.1)).trans (h.2 j u hu)⟩
theorem TokA.more {w : World} {B B' : Nat} {ad : Addr} {l : List (Int × Int)} (h : TokA w B ad l) (hB : B ≤ B') : TokA w B' ad l := ⟨by have := h.1; omega, h.2⟩
theorem TokR.tokA {w : World} {B : Nat} {A : Option Addr} {n : Nat} {l : List (Int × Int)} (h : TokR w B A n l) (hn : 0 < n) : ∃ ad, A = some ad ∧ TokA w B ad l := by
  obtain ⟨b, off, rfl, hb, hc⟩ := h.2 hn
  refine ⟨_, rfl, hb, fun j u hu => ?_⟩
  have hj : j < (tokCells l).length := (List.getElem?_eq_some_iff.1 hu).1
  rw [tokCells_len, h.1] at hj
  have hadd : (⟨b, off, none⟩ : Addr).add j = ⟨b, off + j, none⟩ := by
    unfold Addr.add
    by_cases h : j = 0
    · subst h; rfl
    · rw [if_neg h]
  rw [hadd]
  rcases Nat.mod_two_eq_zero_or_one j with h0 | h0
  · obtain ⟨k, rfl⟩ : ∃ k, j = k * 2 := ⟨j / 2, by omega⟩
    rw [(tokCells_at l k (by have := h.1; omega)).1] at hu
    rw [← hu]; exact (hc k (by omega)).1
  · obtain ⟨k, rfl⟩ : ∃ k, j = k * 2 + 1 := ⟨j / 2, by omega⟩
    rw [(tokCells_at l k (by have := h.1; omega)).2] at hu
    rw [← hu]; exact (hc k (by omega)).2
theorem OwnT.tokA {w : World} {base : Nat} {g n c : Nat} {l : List (Int × Int)} (h : OwnT w base (some ⟨g, 0, none⟩) n c l) : TokA w w.heap.size ⟨g, 0, none⟩ l :=
  ⟨(h.lt g rfl).2, fun j u hu => h.cells (g := g) rfl j u hu⟩
theorem tokCells_one (l : List (Int × Int)) : ∀ v ∈ tokCells l, v.oneCell' = true := by
  intro v hv
  simp only [tokCells, List.mem_flatMap] at hv
  obtain ⟨t, _, ht⟩ := hv
  simp at ht
  rcases ht with rfl | rfl <;> rfl
end Go.Proofs.YtfmhmnpmdjpmeaaDoor

namespace Go.Proofs.YtfmhmnpmdjpmeaaDoor
open Go.RowKit

/-- the slices that are joined: their values in a row at block gs, their tokens below B -/
def Parts (w : World) (B gs : Nat) (ad : Nat → Addr) (cp : Nat → Nat) (ls : List (List (Int × Int))) : Prop :=
  gs < B ∧ ∀ i, i < ls.length → w.cell? ⟨gs, i, none⟩ = some (.slice (some (ad i)) (ls.getD i []).length (cp i)) ∧ TokA w B (ad i) (ls.getD i [])
theorem Parts.below {w w' : World} {B gs : Nat} {ad : Nat → Addr} {cp : Nat → Nat} {ls : List (List (Int × Int))} (h : Parts w B gs ad cp ls) (hb : Below B w w') : Parts w' B gs ad cp ls :=
  ⟨h.1, fun i hi => ⟨(hb.cell (p := ⟨gs, i, none⟩) h.1).trans (h.2 i hi).1, (h.2 i hi).2.below hb⟩⟩

end Go.Proofs.YtfmhmnpmdjpmeaaDoor

namespace Go.Proofs.YtfmhmnpmdjpmeaaDoor
open Go.RowKit

/-- a call gives back a slice of tokens of its own and whether there is one -/
def ResP (w : World) (r : Option (List (Int × Int))) (e : Ending) (w' : World) : Prop :=
  ∃ A c, e = .returned (.tuple #[.slice A (r.getD []).length c, .bool r.isSome]) ∧ OwnT w' w.heap.size A (r.getD []).length c (r.getD []) ∧ Below w.heap.size w w'
theorem resP_none {w w' : World} (hb : Below w.heap.size w w') : ResP w none (.returned (.tuple #[.slice none 0 0, .bool false])) w' := ⟨none, 0, rfl, World.ownsRow_nil _ _ _ _, hb⟩

theorem tkOk_sx : Lv.tkOk (1, 0) = true := by decide
theorem hts_sxs (n : Nat) (m : Int) (hm : 1 ≤ m) : Lv.hts (sxs n) m = some m := by
  induction n with
  | zero => rfl
  | succ n ih =>
    have : sxs (n + 1) = (1, 0) :: sxs n := rfl
    rw [this, Lv.hts, if_pos ⟨tkOk_sx, by simp [Lv.takes]; omega⟩]
    simpa [Lv.takes] using ih
theorem ok_sxs {l : List (Int × Int)} (h : Lv.levelOk l = true) (n : Nat) : Lv.levelOk (l ++ sxs n) = decide (l.length + n ≤ 24) := by
  simp only [Lv.levelOk, Bool.and_eq_true, decide_eq_true_eq] at h
  have hh : Lv.hts (l ++ sxs n) 0 = some 1 := by rw [Lv.hts_append, h.2, Option.bind_some, hts_sxs n 1 (by omega)]
  have hl : (sxs n).length = n := by simp [sxs]
  simp only [Lv.levelOk, hh, List.length_append, hl, decide_true, Bool.and_true]
  by_cases h24 : l.length + n ≤ 24
  · simp [h24]; omega
  · simp [h24]

/-- the cells of one new token -/
theorem Blk.tokA2 (w : World) (a b : Int) : ∀ j u, (tokCells [(a, b)])[j]? = some u → (w.alloc (.cells #[.int .i64 a, .int .i64 b] 70)).cell? ((⟨w.heap.size, 0, none⟩ : Addr).add j) = some u := by
  intro j u hu
  rw [own_adds, (Blk.made w 70 #[.int .i64 a, .int .i64 b]).cell]
  have hj : j = 0 ∨ j = 1 := by
    have := (List.getElem?_eq_some_iff.1 hu).1
    rw [tokCells_len] at this
    simp at this
    omega
  rcases hj with rfl | rfl
  · simpa [tokCells] using hu
  · simpa [tokCells] using hu

/-- LevelSucc's answer -/
def succR (l : List (Int × Int)) (n : Int) : Option (List (Int × Int)) :=
  if Lv.levelOk l = true ∧ 0 ≤ n ∧ n ≤ 24 - (l.length : Int) then some (l ++ sxs n.toNat) else none

/-- what is given back is handed on, if it is a level -/
def ifR (l : List (Int × Int)) : Option (List (Int × Int)) := if Lv.levelOk l = true then some l else none

set_option maxHeartbeats 800000 in
theorem l01If_any (w : World) (base : Nat) (A : Option Addr) (n c : Nat) (l : List (Int × Int)) (hn : (n : Int) ≤ 140737488355328) (ho : OwnT w base A n c l) :
    Calls Tryd.prog 63 #[.slice A n c] w fun e w' => (∃ A' c', e = .returned (.tuple #[.slice A' ((ifR l).getD []).length c', .bool (ifR l).isSome]) ∧ OwnT w' base A' ((ifR l).getD []).length c' ((ifR l).getD [])) ∧ Below w.heap.size w w' := by
  have hl := OwnT.reads ho
  cases hok : Lv.levelOk l with
  | false =>
    have HO := Lib.hid hok
    have HI : Hid (ifR l = none) := by show _ = _; simp [ifR, hok]
    clear hok
    go_enter Tryd.func63, Tryd.ntmps63
    go_wp2_with fail
    refine (specOk_any w w.heap.size A n c l (Nat.le_refl _) hl hn).mono ?_
    rintro e w1 ⟨rfl, hb1⟩
    rw [HO.out]
    go_wp2
    go_ret2
    rw [HI.out]
    exact ⟨⟨none, 0, rfl, World.ownsRow_nil _ _ _ _⟩, hb1⟩
  | true =>
    have HO := Lib.hid hok
    have HI : Hid (ifR l = some l) := by show _ = _; simp [ifR, hok]
    have HN := Lib.hid hl.1
    clear hok
    go_enter Tryd.func63, Tryd.ntmps63
    go_wp2_with fail
    refine (specOk_any w w.heap.size A n c l (Nat.le_refl _) hl hn).mono ?_
    rintro e w1 ⟨rfl, hb1⟩
    have HW := Lib.hid (own_below' ho hb1)
    rw [HO.out]
    clear ho hl
    go_wp2
    go_ret2
    rw [HI.out]
    refine ⟨⟨A, c, ?_, ?_⟩, hb1⟩
    · simp [HN.out]
    · have h := HW.out
      simpa [HN.out] using h

set_option maxHeartbeats 800000 in
theorem checked_any (w : World) (base : Nat) (A : Option Addr) (n c : Nat) (l : List (Int × Int)) (T : TypeId) (pv : Value) (hz : 0 < w.heap.size) (hn : (n : Int) ≤ 140737488355328) (ho : OwnT w base A n c l) (hE : ErrAt w T pv) :
    Calls Tryd.prog 65 #[.slice A n c] w fun e w' => (∃ A' c', e = .returned (.tuple #[.slice A' ((ifR l).getD []).length c', .bool (ifR l).isSome]) ∧ OwnT w' base A' ((ifR l).getD []).length c' ((ifR l).getD [])) ∧ Below w.heap.size w w' := by
  have hl := OwnT.reads ho
  cases hok : Lv.levelOk l with
  | false =>
    have HO := Lib.hid hok
    have HI : Hid (ifR l = none) := by show _ = _; simp [ifR, hok]
    clear hok
    go_enter Tryd.func65, Tryd.ntmps65
    go_wp2_with fail
    refine (levelOk_any w w.heap.size A n c l T pv hz (Nat.le_refl _) hl hn hE).mono ?_
    rintro e w1 ⟨rfl, hb1⟩
    rw [HO.out]
    go_wp2
    go_ret2
    rw [HI.out]
    exact ⟨⟨none, 0, rfl, World.ownsRow_nil _ _ _ _⟩, hb1⟩
  | true =>
    have HO := Lib.hid hok
    have HI : Hid (ifR l = some l) := by show _ = _; simp [ifR, hok]
    have HN := Lib.hid hl.1
    clear hok
    go_enter Tryd.func65, Tryd.ntmps65
    go_wp2_with fail
    refine (levelOk_any w w.heap.size A n c l T pv hz (Nat.le_refl _) hl hn hE).mono ?_
    rintro e w1 ⟨rfl, hb1⟩
    have HW := Lib.hid (own_below' ho hb1)
    rw [HO.out]
    clear ho hl
    go_wp2
    go_ret2
    rw [HI.out]
    refine ⟨⟨A, c, ?_, ?_⟩, hb1⟩
    · simp [HN.out]
    · have h := HW.out
      simpa [HN.out] using h

theorem sxs_succ (m : Nat) (l : List (Int × Int)) : l ++ sxs (m + 1) = (l ++ sxs m) ++ [(1, 0)] := by
  simp [sxs, List.replicate_succ']

theorem succR_if {l : List (Int × Int)} {m : Nat} (hok : Lv.levelOk l = true) : succR l (m : Int) = ifR (l ++ sxs m) := by
  unfold succR ifR
  rw [ok_sxs hok]
  by_cases h : l.length + m ≤ 24
  · rw [if_pos ⟨hok, by omega, by omega⟩, if_pos (by simpa using h)]
    simp
  · rw [if_neg (by omega), if_neg (by simpa using h)]

set_option maxRecDepth 100000 in
set_option maxHeartbeats 1600000 in
theorem specSucc_any (w : World) (B : Nat) (A : Option Addr) (n c : Nat) (l : List (Int × Int)) (k : Int) (hB : B ≤ w.heap.size)
    (hl : TokR w B A n l) (hn : n ≤ 1048576) :
    Calls Tryd.prog 122 #[.slice A n c, .int .i64 k] w (ResP w (succR l k)) := by
  obtain ⟨i0, hi, hz0, hz1, hz2⟩ := info_parts info_tok
  cases hok : Lv.levelOk l with
  | false =>
    have HO := Lib.hid hok
    have HP : Hid (succR l k = none) := by show _ = _; simp [succR, hok]
    clear hok
    go_enter Tryd.func122, Tryd.ntmps122
    go_wp2_with fail
    refine (specOk_any w B A n c l hB hl (by omega)).mono ?_
    rintro e w1 ⟨rfl, hb1⟩
    rw [HO.out]
    go_wp2
    go_ret2
    rw [HP.out]
    exact resP_none hb1
  | true =>
    have HO := Lib.hid hok
    have hln : 1 ≤ n ∧ n ≤ 24 := by
      have := hl.1
      simp [Lv.levelOk] at hok
      omega
    obtain ⟨hn1, hn24⟩ := hln
    by_cases hk0 : k < 0
    · have HP : Hid (succR l k = none) := by show _ = _; rw [succR, if_neg (by omega)]
      clear hok
      go_enter Tryd.func122, Tryd.ntmps122
      go_wp2_with fail
      refine (specOk_any w B A n c l hB hl (by omega)).mono ?_
      rintro e w1 ⟨rfl, hb1⟩
      rw [HO.out]
      go_wp2
      go_ret2
      rw [HP.out]
      exact resP_none hb1
    · by_cases hkn : 24 < k
      · have HP : Hid (succR l k = none) := by show _ = _; rw [succR, if_neg (by rw [hl.1]; omega)]
        clear hok
        go_enter Tryd.func122, Tryd.ntmps122
        go_wp2_with fail
        refine (specOk_any w B A n c l hB hl (by omega)).mono ?_
        rintro e w1 ⟨rfl, hb1⟩
        rw [HO.out]
        go_wp2
        go_ret2
        rw [HP.out]
        exact resP_none hb1
      · obtain ⟨m, rfl⟩ := Int.eq_ofNat_of_zero_le (show 0 ≤ k by omega)
        have HP := Lib.hid (succR_if (m := m) hok)
        have d0 : decide ((m : Int) < 0) = false := decide_eq_false (by omega)
        have d1 : decide ((24 : Int) < (m : Int)) = false := decide_eq_false (by omega)
        clear hok
        go_enter Tryd.func122, Tryd.ntmps122
        go_wp2_with fail
        refine (specOk_any w B A n c l hB hl (by omega)).mono ?_
        rintro e w1 ⟨rfl, hb1⟩
        rw [HO.out]
        have hz1' := hb1.size
        have hb1a : Below w.heap.size w (w1.alloc (.cells #[] 70)) := hb1.alloc hz1' _
        obtain ⟨q, rfl, hq⟩ := (hl.below (hb1a.mono hB)).tokA (by omega)
        have HL := Lib.hid hl.1
        have ho0 : OwnT (w1.alloc (.cells #[] 70)) w.heap.size (some ⟨w1.heap.size, 0, none⟩) 0 0 [] := World.ownsRow_made w1 #[] 0 hz1' (by simp [maxLen]) (by simp)
        have hcl := tokCells_len l
        rw [hl.1] at hcl
        have HCL := Lib.hid hcl
        clear hcl hl
        go_wp2_with (at_builtin; refine wpList_append_own _ rfl (.tmp 18) (.tmp 19) 30 rfl w.heap.size 70 i0 (.agg #[.int .i64 0, .int .i64 0]) 2 16 Tryd.underlying30 hi hz0 hz1 hz2 rfl (by decide) (.slice (some ⟨w1.heap.size, 0, none⟩) 0 0) 0 (tokCells []) rfl ho0 q n c (tokCells l) rfl HCL.out hq.2 (tokCells_one l) (by unfold maxLen; omega) (by omega) (by simp; omega) ?_; intro v' w3 hown' hgrow hnil)
        obtain ⟨g', cap', rfl⟩ : ∃ g' cap', v' = .slice (some ⟨g', 0, none⟩) n cap' := by
          rcases hown'.2 with ⟨h0, _⟩ | ⟨g', cap', _, h0, _⟩
          · have := (hnil.1 h0).1
            cases this
          · rw [Nat.zero_add] at h0; exact ⟨g', cap', h0⟩
        have HB3 : Hid (Below w.heap.size w w3) := hb1a.grown hgrow (by simp; omega) (fun k h => by have h' : w1.heap.size = k := (by simpa [Value.ownBlock] using h); omega)
        have HW0 : Hid (OwnT w3 w.heap.size (some ⟨g', 0, none⟩) (n + 0) cap' (l ++ sxs 0)) := by
          show OwnT _ _ _ _ _ _
          have h := hown'
          rw [tokCells_nil, List.nil_append, Nat.zero_add] at h
          simpa [sxs] using h
        clear hown' hgrow hnil ho0 hq hb1a hb1
        go_wp2
        go_loopw [1, 6] (fun i v wr => ∃ (j g c : Nat), j ≤ m ∧ i = .int .i64 ((m : Int) - (j : Int)) ∧ v = .slice (some ⟨g, 0, none⟩) (n + j) c ∧ OwnT wr w.heap.size (some ⟨g, 0, none⟩) (n + j) c (l ++ sxs j) ∧ Below w.heap.size w wr) (fun i _ _ => (intOf i).toNat)
        case atStart => exact ⟨0, g', cap', Nat.zero_le _, by simp, by simp, HW0.out, HB3.out⟩
        case round =>
          obtain ⟨j, g, c1, hj, rfl, rfl, hown, hbel⟩ := hrel
          have hszr := hbel.size
          by_cases hlt : j < m
          · have hpos : (0 : Int) < (m : Int) - (j : Int) := by omega
            go_wp2_with (at_builtin; refine wpList_append_own _ rfl (.tmp 25) (.tmp 27) 30 rfl w.heap.size 70 i0 (.agg #[.int .i64 0, .int .i64 0]) 2 16 Tryd.underlying30 hi hz0 hz1 hz2 rfl (by decide) (.slice (some ⟨g, 0, none⟩) (n + j) c1) (n + j) (tokCells (l ++ sxs j)) rfl (hown.alloc _) ⟨wr.heap.size, 0, none⟩ 1 1 (tokCells [(1, 0)]) rfl rfl (Blk.tokA2 _ _ _) (tokCells_one _) (by unfold maxLen; omega) (by omega) (by simp; omega) ?_; intro v' w4 hown' hgrow hnil)
            obtain ⟨g2, cap2, rfl⟩ : ∃ g' cap', v' = .slice (some ⟨g', 0, none⟩) (n + j + 1) cap' := by
              rcases hown'.2 with ⟨h0, _⟩ | ⟨g', cap', _, h0, _⟩
              · have := (hnil.1 h0).1
                cases this
              · exact ⟨g', cap', h0⟩
            have HB4 : Hid (Below w.heap.size w w4) := (hbel.alloc hszr _).grown hgrow (by simp; omega) (fun k h => (hown.lt k h).1)
            have HW : Hid (OwnT w4 w.heap.size (some ⟨g2, 0, none⟩) (n + (j + 1)) cap2 (l ++ sxs (j + 1))) := by
              show OwnT _ _ _ _ _ _
              unfold OwnT
              rw [sxs_succ, tokCells_append]
              exact hown'
            clear hown hown' hgrow hbel hnil
            go_wp2
            go_roundw
            case rel => exact ⟨j + 1, g2, cap2, by omega, by go_num, by simp [Nat.add_assoc], HW.out, HB4.out⟩
            case measure => simp [intOf]; omega
          · obtain rfl : j = m := by omega
            have hnp : ¬ ((0 : Int) < (j : Int) - (j : Int)) := by omega
            have hzz : (j : Int) - (j : Int) = 0 := by omega
            rw [hzz] at hnp ⊢
            have HO2 := Lib.hid hown
            clear hown hzz
            go_wp2_with fail
            refine (l01If_any wr w.heap.size _ (n + j) c1 (l ++ sxs j) (by omega) HO2.out).mono ?_
            rintro e w5 ⟨⟨A', c', rfl, ho5⟩, hb5⟩
            have HO5 := Lib.hid ho5
            have HB5 := Lib.hid (hbel.trans (hb5.mono hszr))
            clear ho5 hb5
            go_wp2
            go_ret2
            rw [HP.out]
            exact ⟨A', c', rfl, HO5.out, HB5.out⟩
end Go.Proofs.YtfmhmnpmdjpmeaaDoor

namespace Go.Proofs.YtfmhmnpmdjpmeaaDoor
open Go.RowKit

/-- LevelJoin's answer -/
def joinR (op : Int) (a b : List (Int × Int)) : Option (List (Int × Int)) :=
  if (op = 2 ∨ op = 3) ∧ Lv.levelOk a = true ∧ Lv.levelOk b = true then ifR (a ++ (b ++ [(op, 0)])) else none

theorem ok_len {l : List (Int × Int)} {n : Nat} (h : Lv.levelOk l = true) (hn : l.length = n) : 1 ≤ n ∧ n ≤ 24 := by
  simp [Lv.levelOk] at h
  omega

set_option maxRecDepth 100000 in
set_option maxHeartbeats 1600000 in
theorem specJoin_any (w : World) (B : Nat) (op : Int) (A0 : Option Addr) (n0 c0 : Nat) (l0 : List (Int × Int)) (A1 : Option Addr) (n1 c1 : Nat) (l1 : List (Int × Int)) (hB : B ≤ w.heap.size)
    (hl0 : TokR w B A0 n0 l0) (hn0 : n0 ≤ 1048576) (hl1 : TokR w B A1 n1 l1) (hn1 : n1 ≤ 1048576) :
    Calls Tryd.prog 121 #[.int .i64 op, .slice A0 n0 c0, .slice A1 n1 c1] w (ResP w (joinR op l0 l1)) := by
  obtain ⟨i0, hi, hz0, hz1, hz2⟩ := info_parts info_tok
  cases hok0 : Lv.levelOk l0 with
  | false =>
    have HO := Lib.hid hok0
    have HP : Hid (joinR op l0 l1 = none) := by show _ = _; rw [joinR, if_neg (fun h => by rw [hok0] at h; exact absurd h.2.1 (by decide))]
    clear hok0
    go_enter Tryd.func121, Tryd.ntmps121
    go_wp2_with fail
    refine (specOk_any w B A0 n0 c0 l0 hB hl0 (by omega)).mono ?_
    rintro e w1 ⟨rfl, hb1⟩
    rw [HO.out]
    go_wp2
    go_ret2
    rw [HP.out]
    exact resP_none hb1
  | true =>
    have HO := Lib.hid hok0
    cases hok1 : Lv.levelOk l1 with
    | false =>
      have HO1 := Lib.hid hok1
      have HP : Hid (joinR op l0 l1 = none) := by show _ = _; rw [joinR, if_neg (fun h => by rw [hok1] at h; exact absurd h.2.2 (by decide))]
      clear hok0 hok1
      go_enter Tryd.func121, Tryd.ntmps121
      go_wp2_with fail
      refine (specOk_any w B A0 n0 c0 l0 hB hl0 (by omega)).mono ?_
      rintro e w1 ⟨rfl, hb1⟩
      rw [HO.out]
      go_wp2_with fail
      refine (specOk_any w1 B A1 n1 c1 l1 (Nat.le_trans hB hb1.size) (hl1.below (hb1.mono hB)) (by omega)).mono ?_
      rintro e w2 ⟨rfl, hb2⟩
      rw [HO1.out]
      go_wp2
      go_ret2
      rw [HP.out]
      exact resP_none (hb1.trans (hb2.mono hb1.size))
    | true =>
      have HO1 := Lib.hid hok1
      by_cases hop : op = 2 ∨ op = 3
      case neg =>
        have HP : Hid (joinR op l0 l1 = none) := by show _ = _; rw [joinR, if_neg (fun h => hop h.1)]
        have hp2 : (op != 2) = true := by simpa using (fun h => hop (.inl h) : ¬ (op = 2))
        have hp3 : (op != 3) = true := by simpa using (fun h => hop (.inr h) : ¬ (op = 3))
        clear hop hok0 hok1
        go_enter Tryd.func121, Tryd.ntmps121
        go_wp2_with fail
        refine (specOk_any w B A0 n0 c0 l0 hB hl0 (by omega)).mono ?_
        rintro e w1 ⟨rfl, hb1⟩
        rw [HO.out]
        go_wp2_with fail
        refine (specOk_any w1 B A1 n1 c1 l1 (Nat.le_trans hB hb1.size) (hl1.below (hb1.mono hB)) (by omega)).mono ?_
        rintro e w2 ⟨rfl, hb2⟩
        rw [HO1.out]
        go_wp2
        go_ret2
        rw [HP.out]
        exact resP_none (hb1.trans (hb2.mono hb1.size))
      case pos =>
        have HP : Hid (joinR op l0 l1 = ifR (l0 ++ (l1 ++ [(op, 0)]))) := by show _ = _; rw [joinR, if_pos ⟨hop, hok0, hok1⟩]
        obtain ⟨hn01, hn02⟩ := ok_len hok0 hl0.1
        obtain ⟨hn11, hn12⟩ := ok_len hok1 hl1.1
        clear hok0 hok1
        have hcl0 := tokCells_len l0
        rw [hl0.1] at hcl0
        have HCL0 := Lib.hid hcl0
        have hcl1 := tokCells_len l1
        rw [hl1.1] at hcl1
        have HCL1 := Lib.hid hcl1
        clear hcl0 hcl1
        rcases hop with hop | hop
        · have hp2 : (op != 2) = false := by rw [hop]; rfl
          clear hop
          go_enter Tryd.func121, Tryd.ntmps121
          go_wp2_with fail
          refine (specOk_any w B A0 n0 c0 l0 hB hl0 (by omega)).mono ?_
          rintro e w1 ⟨rfl, hb1⟩
          rw [HO.out]
          go_wp2_with fail
          refine (specOk_any w1 B A1 n1 c1 l1 (Nat.le_trans hB hb1.size) (hl1.below (hb1.mono hB)) (by omega)).mono ?_
          rintro e w2 ⟨rfl, hb2⟩
          rw [HO1.out]
          have hb12 := hb1.trans (hb2.mono hb1.size)
          have hz2' := hb12.size
          have hb2a : Below w.heap.size w (w2.alloc (.cells #[] 70)) := hb12.alloc hz2' _
          obtain ⟨q0, rfl, hq0⟩ := (hl0.below (hb2a.mono hB)).tokA (by omega)
          have ho0 : OwnT (w2.alloc (.cells #[] 70)) w.heap.size (some ⟨w2.heap.size, 0, none⟩) 0 0 [] := World.ownsRow_made w2 #[] 0 hz2' (by simp [maxLen]) (by simp)
          clear hb1 hb2 hb12
          go_wp2_with (at_builtin; first
            | (refine wpList_append_own _ rfl (.tmp 24) (.tmp 25) 30 rfl w.heap.size 70 i0 (.agg #[.int .i64 0, .int .i64 0]) 2 16 Tryd.underlying30 hi hz0 hz1 hz2 rfl (by decide) (.slice (some ⟨w2.heap.size, 0, none⟩) 0 0) 0 (tokCells []) rfl ho0 q0 n0 c0 (tokCells l0) rfl HCL0.out hq0.2 (tokCells_one l0) (by unfold maxLen; omega) (by omega) (by simp; omega) ?_
               intro v' w3 hown' hgrow hnil
               obtain ⟨g', cap', rfl⟩ : ∃ g' cap', v' = .slice (some ⟨g', 0, none⟩) n0 cap' := by
                 rcases hown'.2 with ⟨h0, _⟩ | ⟨g', cap', _, h0, _⟩
                 · have := (hnil.1 h0).1
                   cases this
                 · rw [Nat.zero_add] at h0; exact ⟨g', cap', h0⟩
               have hb3 : Below w.heap.size w w3 := hb2a.grown hgrow (by simp; omega) (fun k h => by have h' : w2.heap.size = k := (by simpa [Value.ownBlock] using h); omega)
               have ho3 : OwnT w3 w.heap.size (some ⟨g', 0, none⟩) n0 cap' l0 := by
                 have h := hown'
                 rw [tokCells_nil, List.nil_append, Nat.zero_add] at h
                 exact h
               have hz3 := hb3.size
               clear hown' hgrow hnil ho0 hq0 hb2a
               obtain ⟨q1, rfl, hq1⟩ := (hl1.below (hb3.mono hB)).tokA (by omega))
            | (refine wpList_append_own _ rfl (.tmp 26) (.tmp 27) 30 rfl w.heap.size 70 i0 (.agg #[.int .i64 0, .int .i64 0]) 2 16 Tryd.underlying30 hi hz0 hz1 hz2 rfl (by decide) (.slice (some ⟨g', 0, none⟩) n0 cap') n0 (tokCells l0) rfl ho3 q1 n1 c1 (tokCells l1) rfl HCL1.out hq1.2 (tokCells_one l1) (by unfold maxLen; omega) (by omega) (by omega) ?_
               intro v' w4 hown' hgrow hnil
               obtain ⟨g2, cap2, rfl⟩ : ∃ g' cap', v' = .slice (some ⟨g', 0, none⟩) (n0 + n1) cap' := by
                 rcases hown'.2 with ⟨h0, _⟩ | ⟨g', cap', _, h0, _⟩
                 · have := (hnil.1 h0).1
                   cases this
                 · exact ⟨g', cap', h0⟩
               have hb4 : Below w.heap.size w w4 := hb3.grown hgrow (by omega) (fun k h => (ho3.lt k h).1)
               have ho4 : OwnT w4 w.heap.size (some ⟨g2, 0, none⟩) (n0 + n1) cap2 (l0 ++ l1) := by
                 unfold OwnT
                 rw [tokCells_append]
                 exact hown'
               have hz4 := hb4.size
               clear hown' hgrow hnil ho3 hq1 hb3)
            | (refine wpList_append_own _ rfl (.tmp 28) (.tmp 31) 30 rfl w.heap.size 70 i0 (.agg #[.int .i64 0, .int .i64 0]) 2 16 Tryd.underlying30 hi hz0 hz1 hz2 rfl (by decide) (.slice (some ⟨g2, 0, none⟩) (n0 + n1) cap2) (n0 + n1) (tokCells (l0 ++ l1)) rfl (ho4.alloc _) ⟨w4.heap.size, 0, none⟩ 1 1 (tokCells [(op, 0)]) rfl rfl (Blk.tokA2 _ _ _) (tokCells_one _) (by unfold maxLen; omega) (by omega) (by simp; omega) ?_
               intro v' w5 hown' hgrow hnil
               obtain ⟨g3, cap3, rfl⟩ : ∃ g' cap', v' = .slice (some ⟨g', 0, none⟩) (n0 + n1 + 1) cap' := by
                 rcases hown'.2 with ⟨h0, _⟩ | ⟨g', cap', _, h0, _⟩
                 · have := (hnil.1 h0).1
                   cases this
                 · exact ⟨g', cap', h0⟩
               have hb5 : Below w.heap.size w w5 := (hb4.alloc hz4 _).grown hgrow (by simp; omega) (fun k h => (ho4.lt k h).1)
               have HO5 : Hid (OwnT w5 w.heap.size (some ⟨g3, 0, none⟩) (n0 + n1 + 1) cap3 (l0 ++ (l1 ++ [(op, 0)]))) := by
                 show OwnT _ _ _ _ _ _
                 unfold OwnT
                 rw [← List.append_assoc, tokCells_append]
                 exact hown'
               clear hown' hgrow hnil ho4 hb4))
          go_wp2_with fail
          refine (l01If_any w5 w.heap.size _ (n0 + n1 + 1) cap3 _ (by omega) HO5.out).mono ?_
          rintro e w6 ⟨⟨A', c', rfl, ho6⟩, hb6⟩
          have HO6 := Lib.hid ho6
          have HB6 := Lib.hid (hb5.trans (hb6.mono hb5.size))
          clear ho6 hb6
          go_wp2
          go_ret2
          rw [HP.out]
          exact ⟨A', c', rfl, HO6.out, HB6.out⟩
        · have hp2 : (op != 2) = true := by rw [hop]; rfl
          have hp3 : (op != 3) = false := by rw [hop]; rfl
          clear hop
          go_enter Tryd.func121, Tryd.ntmps121
          go_wp2_with fail
          refine (specOk_any w B A0 n0 c0 l0 hB hl0 (by omega)).mono ?_
          rintro e w1 ⟨rfl, hb1⟩
          rw [HO.out]
          go_wp2_with fail
          refine (specOk_any w1 B A1 n1 c1 l1 (Nat.le_trans hB hb1.size) (hl1.below (hb1.mono hB)) (by omega)).mono ?_
          rintro e w2 ⟨rfl, hb2⟩
          rw [HO1.out]
          have hb12 := hb1.trans (hb2.mono hb1.size)
          have hz2' := hb12.size
          have hb2a : Below w.heap.size w (w2.alloc (.cells #[] 70)) := hb12.alloc hz2' _
          obtain ⟨q0, rfl, hq0⟩ := (hl0.below (hb2a.mono hB)).tokA (by omega)
          have ho0 : OwnT (w2.alloc (.cells #[] 70)) w.heap.size (some ⟨w2.heap.size, 0, none⟩) 0 0 [] := World.ownsRow_made w2 #[] 0 hz2' (by simp [maxLen]) (by simp)
          clear hb1 hb2 hb12
          go_wp2_with (at_builtin; first
            | (refine wpList_append_own _ rfl (.tmp 24) (.tmp 25) 30 rfl w.heap.size 70 i0 (.agg #[.int .i64 0, .int .i64 0]) 2 16 Tryd.underlying30 hi hz0 hz1 hz2 rfl (by decide) (.slice (some ⟨w2.heap.size, 0, none⟩) 0 0) 0 (tokCells []) rfl ho0 q0 n0 c0 (tokCells l0) rfl HCL0.out hq0.2 (tokCells_one l0) (by unfold maxLen; omega) (by omega) (by simp; omega) ?_
               intro v' w3 hown' hgrow hnil
               obtain ⟨g', cap', rfl⟩ : ∃ g' cap', v' = .slice (some ⟨g', 0, none⟩) n0 cap' := by
                 rcases hown'.2 with ⟨h0, _⟩ | ⟨g', cap', _, h0, _⟩
                 · have := (hnil.1 h0).1
                   cases this
                 · rw [Nat.zero_add] at h0; exact ⟨g', cap', h0⟩
               have hb3 : Below w.heap.size w w3 := hb2a.grown hgrow (by simp; omega) (fun k h => by have h' : w2.heap.size = k := (by simpa [Value.ownBlock] using h); omega)
               have ho3 : OwnT w3 w.heap.size (some ⟨g', 0, none⟩) n0 cap' l0 := by
                 have h := hown'
                 rw [tokCells_nil, List.nil_append, Nat.zero_add] at h
                 exact h
               have hz3 := hb3.size
               clear hown' hgrow hnil ho0 hq0 hb2a
               obtain ⟨q1, rfl, hq1⟩ := (hl1.below (hb3.mono hB)).tokA (by omega))
            | (refine wpList_append_own _ rfl (.tmp 26) (.tmp 27) 30 rfl w.heap.size 70 i0 (.agg #[.int .i64 0, .int .i64 0]) 2 16 Tryd.underlying30 hi hz0 hz1 hz2 rfl (by decide) (.slice (some ⟨g', 0, none⟩) n0 cap') n0 (tokCells l0) rfl ho3 q1 n1 c1 (tokCells l1) rfl HCL1.out hq1.2 (tokCells_one l1) (by unfold maxLen; omega) (by omega) (by omega) ?_
               intro v' w4 hown' hgrow hnil
               obtain ⟨g2, cap2, rfl⟩ : ∃ g' cap', v' = .slice (some ⟨g', 0, none⟩) (n0 + n1) cap' := by
                 rcases hown'.2 with ⟨h0, _⟩ | ⟨g', cap', _, h0, _⟩
                 · have := (hnil.1 h0).1
                   cases this
                 · exact ⟨g', cap', h0⟩
               have hb4 : Below w.heap.size w w4 := hb3.grown hgrow (by omega) (fun k h => (ho3.lt k h).1)
               have ho4 : OwnT w4 w.heap.size (some ⟨g2, 0, none⟩) (n0 + n1) cap2 (l0 ++ l1) := by
                 unfold OwnT
                 rw [tokCells_append]
                 exact hown'
               have hz4 := hb4.size
               clear hown' hgrow hnil ho3 hq1 hb3)
            | (refine wpList_append_own _ rfl (.tmp 28) (.tmp 31) 30 rfl w.heap.size 70 i0 (.agg #[.int .i64 0, .int .i64 0]) 2 16 Tryd.underlying30 hi hz0 hz1 hz2 rfl (by decide) (.slice (some ⟨g2, 0, none⟩) (n0 + n1) cap2) (n0 + n1) (tokCells (l0 ++ l1)) rfl (ho4.alloc _) ⟨w4.heap.size, 0, none⟩ 1 1 (tokCells [(op, 0)]) rfl rfl (Blk.tokA2 _ _ _) (tokCells_one _) (by unfold maxLen; omega) (by omega) (by simp; omega) ?_
               intro v' w5 hown' hgrow hnil
               obtain ⟨g3, cap3, rfl⟩ : ∃ g' cap', v' = .slice (some ⟨g', 0, none⟩) (n0 + n1 + 1) cap' := by
                 rcases hown'.2 with ⟨h0, _⟩ | ⟨g', cap', _, h0, _⟩
                 · have := (hnil.1 h0).1
                   cases this
                 · exact ⟨g', cap', h0⟩
               have hb5 : Below w.heap.size w w5 := (hb4.alloc hz4 _).grown hgrow (by simp; omega) (fun k h => (ho4.lt k h).1)
               have HO5 : Hid (OwnT w5 w.heap.size (some ⟨g3, 0, none⟩) (n0 + n1 + 1) cap3 (l0 ++ (l1 ++ [(op, 0)]))) := by
                 show OwnT _ _ _ _ _ _
                 unfold OwnT
                 rw [← List.append_assoc, tokCells_append]
                 exact hown'
               clear hown' hgrow hnil ho4 hb4))
          go_wp2_with fail
          refine (l01If_any w5 w.heap.size _ (n0 + n1 + 1) cap3 _ (by omega) HO5.out).mono ?_
          rintro e w6 ⟨⟨A', c', rfl, ho6⟩, hb6⟩
          have HO6 := Lib.hid ho6
          have HB6 := Lib.hid (hb5.trans (hb6.mono hb5.size))
          clear ho6 hb6
          go_wp2
          go_ret2
          rw [HP.out]
          exact ⟨A', c', rfl, HO6.out, HB6.out⟩
end Go.Proofs.YtfmhmnpmdjpmeaaDoor
